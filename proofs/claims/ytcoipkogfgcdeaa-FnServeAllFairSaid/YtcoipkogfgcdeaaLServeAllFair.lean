/-
  THE WALK OF laws.FnServeAllFair.
-/
import Derived.Test.YtcoipkogfgcdeaaX14
import Derived.Test.YtcoipkogfgcdeaaMath84
import Derived.Test.YtcoipkogfgcdeaaR62
namespace Go.Proofs.Ytcoipkogfgcdeaa
open Go.RowKit
set_option maxRecDepth 20000 in
set_option maxHeartbeats 6400000 in
theorem fnServeAllFair_walk (A : Option Addr) (c : Nat) (l : List Int) (w : World) (hb : RB w 0 w.heap.size A l) (hlc : l.length ≤ c ∧ c ≤ maxLen) :
    Calls Try.prog 11 #[.slice A l.length c] w fun e w' => e = .returned (.bool true) ∧ Below w.heap.size w w' := by
  have hl63 : l.length ≤ 9223372036854775807 := by have := hlc.2; unfold maxLen at this; omega
  by_cases hbig : 1048576 < l.length
  · go_enter Try.func11, Try.ntmps11
    go_wp2
    go_ret
    exact ⟨rfl, Below.refl _ _⟩
  · have C1 := Lib.hid (DrawServeAll_any A c l w hb hlc.1 hlc.2)
    clear hb
    go_enter Try.func11, Try.ntmps11
    go_wp2_with fail
    refine (C1.out).mono ?_
    rintro e w1 ⟨⟨A1, c1, g, a, rfl, hg, hg6, hgc, hcm⟩, hb1⟩
    have HG := Lib.hid hg
    have s1 := hb1.size
    have hl9 : g.length ≤ 9223372036854775807 := by omega
    obtain ⟨L, hL⟩ : ∃ L, L = Bs.seqL g a := ⟨_, rfl⟩
    have c2 := ServeAll_any A1 c1 g a w.heap.size w1.heap.size w1 HG.out (Nat.le_refl _) hl9
    have hlen : L.length ≤ 1000 := by rw [hL]; exact ServeAll_len100 g a (by omega)
    rw [← hL] at c2
    have C2 := Lib.hid c2
    have CS := Lib.hid (fun w2 hg hs => ServeAllS_any A1 c1 g a w.heap.size w1.heap.size w2 hg hs hl9)
    rw [← hL] at CS
    have HL := Lib.hid hL
    have HB1 := Lib.hid hb1
    clear C1 hg hL c2 hb1
    go_wp2_with fail
    refine (C2.out).mono ?_
    rintro e w2 hr2
    obtain ⟨A2, c2, rfl, q2, hb2, hlc2, hcm2⟩ := hr2.ri
    have s2 := hb2.size
    have HQ2 := Lib.hid q2
    have HG2 := Lib.hid (HG.out.below hb2 (Nat.le_refl _))
    have HB2 := Lib.hid (HB1.out.trans (hb2.mono s1))
    have C3 := Lib.hid (CS.out w2 HG2.out s2)
    clear hr2 q2 hb2 C2 HG HB1
    go_wp2_with fail
    refine (C3.out).mono ?_
    rintro e w3 hr3
    obtain ⟨A3, c3, rfl, q3, hb3, hlc3, hcm3⟩ := hr3.ri
    have s3 := hb3.size
    have C4 := Lib.hid (equalInts_same A2 c2 A3 c3 L _ _ _ _ w3 (HQ2.out.below hb3 (Nat.le_refl _)) q3 (by omega))
    have HG3 := Lib.hid (HG2.out.below hb3 s2)
    have HQ3 := Lib.hid (HQ2.out.below hb3 (Nat.le_refl _))
    have HB3 := Lib.hid (HB2.out.trans (hb3.mono (Nat.le_trans s1 s2)))
    clear hr3 q3 hb3 C3 HQ2 HB2 HG2
    go_wp2_with fail
    refine (C4.out).mono ?_
    rintro e w4 ⟨rfl, n, rfl⟩
    clear C4
    obtain ⟨W3, rfl⟩ : ∃ W3, W3 = w3 := ⟨_, rfl⟩
    have hs3 : w1.heap.size ≤ (W3.drewN n).heap.size := Nat.le_trans s2 s3
    have hs23 : w2.heap.size ≤ (W3.drewN n).heap.size := s3
    by_cases h0 : L.length = 0
    · have hq0 : ((L.length : Int) == 0) = true := by simp [h0]
      clear h0 HL
      have hsA : w1.heap.size ≤ (W3.drewN n).heap.size := hs3
      go_wp2_with fail
      refine (CS.out (W3.drewN n) (HG3.out.drewN n) hsA).mono ?_
      rintro e wA hrA
      obtain ⟨AA, cA, rfl, qA, hbA, _, _⟩ := hrA.ri
      have sA := hbA.size
      have CB := Lib.hid (equalInts_same A2 c2 AA cA L _ _ _ _ wA ((HQ3.out.drewN n).below hbA (by first | exact hsA | omega)) qA (by omega))
      have HBA := Lib.hid ((HB3.out.drewN n).trans (hbA.mono (Nat.le_trans s1 hsA)))
      clear hrA qA hbA
      go_wp2_with fail
      refine (CB.out).mono ?_
      rintro e wB ⟨rfl, nB, rfl⟩
      go_wp2
      go_ret
      exact ⟨rfl, HBA.out.drewN _⟩
    · have hq0 : ((L.length : Int) == 0) = false := by rw [beq_eq_false_iff_ne]; omega
      have hok := serv_can HL.out h0
      obtain ⟨hu, ha⟩ := Bs.srvOk_iff.1 hok
      obtain ⟨h1, h5⟩ := (Bs.usersOk_iff.1 hu).1
      have c5 := fun A5 c5 W hr hh => ServeAll_any A5 c5 (triU g.length) a w2.heap.size W.heap.size W hr hh (by rw [triU_len]; exact hl9)
      rw [triU_len] at c5
      have hz := tri_law (n := g.length) ⟨h1, h5⟩ ha
      have HB4 := Lib.hid (HB3.out.drewN n)
      have hs03 : w.heap.size ≤ (W3.drewN n).heap.size := Nat.le_trans s1 hs3
      have C5 := Lib.hid c5
      obtain ⟨z1, z2⟩ := hz
      have HZ2 := Lib.hid z2
      have HZ1 := Lib.hid z1
      clear HL CS h0 HQ3 HB3 HG3 c5 hok hu z2 z1
      generalize W3.drewN n = W4 at *
      generalize Bs.seqL (triU g.length) a = Z at *
      have HO0 := Lib.hid (OR.nil W4 W4.heap.size (Nat.le_refl _))
      have HW0 := Lib.hid (Below.alloc (Below.refl W4.heap.size W4) (Nat.le_refl _) (.cells #[] 29))
      go_wp2
      go_loopw [6, 7] (fun v i wr => ∃ (k : Nat) (A5 : Option Addr) (c5 : Nat), k ≤ g.length ∧ i = .int .i64 k ∧ v = .slice A5 (triU k).length c5 ∧ OR wr W4.heap.size A5 c5 (triU k) ∧ Below W4.heap.size W4 wr) (fun _ i _ => g.length - (intOf i).toNat)
      case atStart => exact ⟨0, _, _, Nat.zero_le _, rfl, rfl, HO0.out, HW0.out⟩
      case round =>
        obtain ⟨k, A5, c5, hk, rfl, rfl, ho, hb⟩ := hrel
        have sr := hb.size
        clear HO0 HW0
        by_cases hlt : k < g.length
        · have HT := Lib.hid (triU_succ k)
          have hbl6 : (triU k).length ≤ 6 := by rw [triU_len]; omega
          have HO := Lib.hid ho
          have HB := Lib.hid hb
          clear ho hb C5 HZ2 HZ1
          generalize triU k = P at *
          go_wp2_with (at_builtin; go_loud (refine push_users rfl _ _ rfl W4.heap.size A5 c5 P [⟨2, 0, 3⟩] rfl (HO.out.alloc _) wr.heap.size 1 rfl (new_cellsR wr ⟨2, 0, 3⟩) (by simp; omega) (by simp; omega) ?_; intro A7 c7 w7 ho7 hb7; have HB7 := Lib.hid hb7; have HO7 := Lib.hid ho7; clear hb7 ho7))
          go_wp2
          go_roundw
          case rel => exact ⟨k + 1, A7, c7, by omega, by go_num, by rw [HT.out, List.length_append]; rfl, by rw [HT.out]; exact HO7.out, (HB.out.alloc sr _).trans HB7.out⟩
          case measure => simp [intOf]; omega
        · obtain rfl : k = g.length := by omega
          have c6 := C5.out A5 c5 wr (ho.ru.more hs23 (Nat.le_refl _)) (Nat.le_refl _)
          have hbl := triU_len g.length
          rw [hbl]
          have C6 := Lib.hid c6
          have HB5 := Lib.hid (HB4.out.trans (hb.mono hs03))
          clear ho hb c6 hbl C5 HB4
          go_wp2_with fail
          with_reducible refine (C6.out).mono ?_
          rintro e w6 hr6
          obtain ⟨A6, c6, rfl, q6, hb6, _, _⟩ := hr6.ri
          have HB6 := Lib.hid (HB5.out.trans (hb6.mono (Nat.le_trans hs03 sr)))
          have HQ6 := Lib.hid q6
          clear hr6 q6 hb6 C6 HB5
          have hw3 : IntKind.i64.wrap (3 * (g.length : Int)) = 3 * (g.length : Int) := IntWalk.i64_in _ ⟨by omega, by omega⟩
          have hzl : Z.length ≤ 15 := by have := HZ1.out; omega
          go_wp2
          go_loopw [9] (fun i wr => ∃ k : Nat, k ≤ Z.length ∧ i = .int .i64 (k : Int) ∧ ∃ q, wr = w6.drewN q) (fun i _ => Z.length + 1 - (intOf i).toNat)
          case atStart => exact ⟨0, Nat.zero_le _, rfl, 0, rfl⟩
          case round =>
            obtain ⟨k, hk, rfl, q, rfl⟩ := hrel
            by_cases hlt : k < Z.length
            · obtain ⟨b, o, rfl, _, _, q0⟩ := HQ6.out.at_ hlt
              have y1 := HZ2.out k (by have := HZ1.out; omega)
              rw [← Bs.gi_at (by omega), y1] at q0
              have i1 : (k : Int) < (Z.length : Int) := by omega
              have i2 : (0 : Int) ≤ (k : Int) := by omega
              have i3 : ((g.length : Int) == 0) = false := by rw [beq_eq_false_iff_ne]; omega
              have e1 : ((k : Int) % (g.length : Int) == (k : Int) % (g.length : Int)) = true := by simp
              have e2 : ((k : Int) % (g.length : Int) != (k : Int) % (g.length : Int)) = false := by simp
              have e3 : (k : Int).tmod (g.length : Int) = (k : Int) % (g.length : Int) := Int.tmod_eq_emod_of_nonneg i2
              clear HZ2 HZ1 y1
              go_wp2
              go_quiet (fail)
              go_wp2
              go_roundw
              case rel => exact ⟨k + 1, by omega, by go_num, _, by first | rfl | rw [World.drewN_drewN]⟩
              case measure => simp [intOf]; omega
            · have d1 : ¬ (k : Int) < (Z.length : Int) := by omega
              have e1 : ((Z.length : Int) == 3 * (g.length : Int)) = true := by rw [beq_iff_eq]; have := HZ1.out; omega
              clear HZ2 HZ1
              go_wp2
              go_ret
              exact ⟨by first | rfl | simp [e1], HB6.out.drewN _⟩
end Go.Proofs.Ytcoipkogfgcdeaa
