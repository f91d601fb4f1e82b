/-
  THE WALK OF laws.FnOutcomesUsers.
-/
import Derived.Test.YthllincpbiafcaaK17
import Derived.Test.YthllincpbiafcaaX11
import Derived.Test.YthllincpbiafcaaLSum
import Derived.Test.YthllincpbiafcaaMath73
import Derived.Test.YthllincpbiafcaaW75
import Derived.Test.YthllincpbiafcaaR41
namespace Go.Proofs.Ythllincpbiafcaa
open Go.RowKit
set_option maxRecDepth 20000 in
set_option maxHeartbeats 6400000 in
theorem fnOutcomesUsers_walk (A : Option Addr) (c : Nat) (l : List Int) (w : World) (hb : RB w 0 w.heap.size A l) (hlc : l.length ≤ c ∧ c ≤ maxLen) :
    Calls Try.prog 4 #[.slice A l.length c] w fun e w' => e = .returned (.bool true) ∧ Below w.heap.size w w' := by
  have hl63 : l.length ≤ 9223372036854775807 := by have := hlc.2; unfold maxLen at this; omega
  by_cases hbig : 1048576 < l.length
  · go_enter Try.func4, Try.ntmps4
    go_wp2
    go_ret
    exact ⟨rfl, Below.refl _ _⟩
  · have C1 := Lib.hid (DrawOutcomes_any A c l w hb hlc.1 hlc.2)
    clear hb
    go_enter Try.func4, Try.ntmps4
    go_wp2_with fail
    refine (C1.out).mono ?_
    rintro e w1 ⟨⟨A1, c1, g, A0, c0, d, a, rfl, hg, hg16, hgc, hcm, hd, hd100, hdc, hdm⟩, hb1⟩
    have HG := Lib.hid hg
    have HD := Lib.hid hd
    have s1 := hb1.size
    have hl9 : g.length ≤ 9223372036854775807 := by omega
    have hd9 : d.length ≤ 9223372036854775807 := by omega
    obtain ⟨L, hL⟩ : ∃ L, L = Bs.outL g d a := ⟨_, rfl⟩
    have c2 := Outcomes_any A1 c1 g A0 c0 d a w.heap.size w1.heap.size w.heap.size w1.heap.size w1 HG.out (Nat.le_refl _) HD.out (Nat.le_refl _) hl9 hd9
    have hlen : L.length ≤ 1000 := by rw [hL]; exact Outcomes_len100 g d a (by omega) (by omega)
    rw [← hL] at c2
    have C2 := Lib.hid c2
    have CS := Lib.hid (fun w2 hg hd hs => OutcomesS_any A1 c1 g A0 c0 d a w.heap.size w1.heap.size w.heap.size w1.heap.size w2 hg hs hd hs hl9 hd9)
    rw [← hL] at CS
    have HL := Lib.hid hL
    have HB1 := Lib.hid hb1
    clear C1 hg hd hL c2 hb1
    go_wp2_with fail
    refine (C2.out).mono ?_
    rintro e w2 hr2
    obtain ⟨A2, c2, rfl, q2, hb2, hlc2, hcm2⟩ := hr2.ri
    have s2 := hb2.size
    have HQ2 := Lib.hid q2
    have HG2 := Lib.hid (HG.out.below hb2 (Nat.le_refl _))
    have HD2 := Lib.hid (HD.out.below hb2 (Nat.le_refl _))
    have HB2 := Lib.hid (HB1.out.trans (hb2.mono s1))
    have C3 := Lib.hid (CS.out w2 HG2.out HD2.out s2)
    clear hr2 q2 hb2 C2 HG HD HB1
    go_wp2_with fail
    refine (C3.out).mono ?_
    rintro e w3 hr3
    obtain ⟨A3, c3, rfl, q3, hb3, hlc3, hcm3⟩ := hr3.ri
    have s3 := hb3.size
    have C4 := Lib.hid (equalInts_same A2 c2 A3 c3 L _ _ _ _ w3 (HQ2.out.below hb3 (Nat.le_refl _)) q3 (by omega))
    have HG3 := Lib.hid (HG2.out.below hb3 s2)
    have HD3 := Lib.hid (HD2.out.below hb3 s2)
    have HQ3 := Lib.hid (HQ2.out.below hb3 (Nat.le_refl _))
    have HB3 := Lib.hid (HB2.out.trans (hb3.mono (Nat.le_trans s1 s2)))
    clear hr3 q3 hb3 C3 HQ2 HB2 HG2 HD2
    go_wp2_with fail
    refine (C4.out).mono ?_
    rintro e w4 ⟨rfl, n, rfl⟩
    clear C4
    obtain ⟨W3, rfl⟩ : ∃ W3, W3 = w3 := ⟨_, rfl⟩
    have hs3 : w1.heap.size ≤ (W3.drewN n).heap.size := Nat.le_trans s2 s3
    have hs23 : w2.heap.size ≤ (W3.drewN n).heap.size := s3
    by_cases h0 : L.length = 0
    · have hq0 : ((L.length : Int) == 0) = true := by simp [h0]
      clear h0 HL
      have hsA : w1.heap.size ≤ (W3.drewN n).heap.size := hs3
      go_wp2_with fail
      refine (CS.out (W3.drewN n) (HG3.out.drewN n) (HD3.out.drewN n) hsA).mono ?_
      rintro e wA hrA
      obtain ⟨AA, cA, rfl, qA, hbA, _, _⟩ := hrA.ri
      have sA := hbA.size
      have CB := Lib.hid (equalInts_same A2 c2 AA cA L _ _ _ _ wA ((HQ3.out.drewN n).below hbA (by first | exact hsA | omega)) qA (by omega))
      have HBA := Lib.hid ((HB3.out.drewN n).trans (hbA.mono (Nat.le_trans s1 hsA)))
      clear hrA qA hbA
      go_wp2_with fail
      refine (CB.out).mono ?_
      rintro e wB ⟨rfl, nB, rfl⟩
      go_wp2
      go_ret
      exact ⟨rfl, HBA.out.drewN _⟩
    · have hq0 : ((L.length : Int) == 0) = false := by rw [beq_eq_false_iff_ne]; omega
      obtain ⟨z1, z2, z3⟩ := users_out HL.out h0
      have C5 := Lib.hid (Outcomes_any A1 c1 g A0 c0 d 8 w.heap.size w1.heap.size w.heap.size w1.heap.size (W3.drewN n) (HG3.out.drewN n) hs3 (HD3.out.drewN n) hs3 hl9 hd9)
      have hG4 := HG3.out.drewN n
      have hD4 := HD3.out.drewN n
      have hB4 := HB3.out.drewN n
      clear HL CS h0 HQ3 HB3 HG3 HD3
      generalize W3.drewN n = W4 at *
      have C6 := Lib.hid (fun W (hb : Below W4.heap.size W4 W) => StaleTasks_any A1 c1 g A0 c0 d w.heap.size w1.heap.size w.heap.size w1.heap.size W (hG4.below hb hs3) (Nat.le_trans hs3 hb.size) (hD4.below hb hs3) (Nat.le_trans hs3 hb.size) hl9 hd9)
      have HG4 := Lib.hid hG4
      have HD4 := Lib.hid hD4
      have HB4 := Lib.hid hB4
      have hs14 := hB4.size
      have HZ3 := Lib.hid z3
      clear hG4 hD4 hB4 z3
      generalize Bs.outL g d 8 = Z at *
      generalize Bs.staleL g d = P at *
      go_wp2_with fail
      with_reducible refine (C5.out).mono ?_
      rintro e w5 ⟨⟨A5, c5, rfl, ho5⟩, hb5⟩
      have s5 := hb5.size
      have c6 := C6.out w5 hb5
      have HZ5 := Lib.hid ho5.ri
      have HB5 := Lib.hid hb5
      have C7 := Lib.hid c6
      clear ho5 hb5 c6 C5 C6
      go_wp2_with fail
      with_reducible refine (C7.out).mono ?_
      rintro e w6 ⟨⟨A6, c6, rfl, ho6⟩, hb6⟩
      have HZ6 := Lib.hid (HZ5.out.below hb6 (Nat.le_refl _))
      have HP6 := Lib.hid ho6.ri
      have HB6 := Lib.hid (HB4.out.trans ((HB5.out.trans (hb6.mono s5)).mono (by omega)))
      clear ho6 hb6 C7 HZ5 HB5 HB4
      go_wp2
      go_loopw [9] (fun i wr => ∃ k : Nat, k ≤ Z.length ∧ i = .int .i64 (k : Int) ∧ ∃ q, wr = w6.drewN q) (fun i _ => Z.length + 1 - (intOf i).toNat)
      case atStart => exact ⟨0, Nat.zero_le _, rfl, 0, rfl⟩
      case round =>
        obtain ⟨k, hk, rfl, q, rfl⟩ := hrel
        by_cases hlt : k < Z.length
        · obtain ⟨b, o, rfl, _, _, hc⟩ := HZ6.out.at_ hlt
          obtain ⟨y1, y2⟩ := HZ3.out k (by omega)
          rw [← Bs.gi_at hlt] at hc
          have c7 := fun j => lisIn_quiet2 A6 c6 P (k : Int) _ _ w6 HP6.out (by omega) q j
          have C7 := fun j => Lib.hid (c7 j)
          have b0 : (0 : Int) ≤ (k : Int) := by omega
          have b1 : (k : Int) < (Z.length : Int) := by omega
          clear c7 HZ3
          generalize Bs.gi Z k = x at *
          generalize P.contains (k : Int) = bb at *
          have y3 : ((x == 0) == bb) = false := by rw [y1]; cases bb <;> rfl
          clear y1
          go_wp2
          go_quiet (first | (go_at_call 13; with_reducible exact (C7 _).out))
          go_wp2
          go_roundw
          case rel => exact ⟨k + 1, by omega, by go_num, _, by first | rfl | rw [World.drewN_drewN]⟩
          case measure => simp [intOf]; omega
        · have d1 : ¬ (k : Int) < (Z.length : Int) := by omega
          have e1 : ((Z.length : Int) == (g.length : Int)) = true := by rw [z1]; simp
          go_wp2
          go_ret
          exact ⟨rfl, HB6.out.drewN _⟩
end Go.Proofs.Ythllincpbiafcaa
