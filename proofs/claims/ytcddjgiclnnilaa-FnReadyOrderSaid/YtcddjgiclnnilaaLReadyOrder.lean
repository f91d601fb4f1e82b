/-
  THE WALK OF laws.FnReadyOrder.
-/
import Derived.Test.YtcddjgiclnnilaaX6
import Derived.Test.YtcddjgiclnnilaaRI
import Derived.Test.YtcddjgiclnnilaaW45
import Derived.Test.YtcddjgiclnnilaaR10
import Derived.Test.YtcddjgiclnnilaaLen4
import Derived.Test.YtcddjgiclnnilaaMath31
namespace Go.Proofs.Ytcddjgiclnnilaa
open Go.RowKit
set_option maxRecDepth 20000 in
set_option maxHeartbeats 1600000 in
theorem fnReadyOrder_walk (A : Option Addr) (c : Nat) (l : List Int) (w : World) (hb : RB w 0 w.heap.size A l) (hlc : l.length ≤ c ∧ c ≤ maxLen) :
    Calls Try.prog 6 #[.slice A l.length c] w fun e w' => e = .returned (.bool true) ∧ Below w.heap.size w w' := by
  have hl63 : l.length ≤ 9223372036854775807 := by have := hlc.2; unfold maxLen at this; omega
  by_cases hbig : 1048576 < l.length
  · go_enter Try.func6, Try.ntmps6
    go_wp2
    go_ret
    exact ⟨rfl, Below.refl _ _⟩
  · have C1 := Lib.hid (DrawReadyOrder_any A c l w hb hlc.1 hlc.2)
    clear hb
    go_enter Try.func6, Try.ntmps6
    go_wp2_with fail
    refine (C1.out).mono ?_
    rintro e w1 ⟨⟨A1, c1, g, A0, c0, d, rfl, hg, hg16, hgc, hcm, hd, hd100, hdc, hdm⟩, hb1⟩
    have HG := Lib.hid hg
    have HD := Lib.hid hd
    have s1 := hb1.size
    have hl9 : g.length ≤ 9223372036854775807 := by omega
    have hd9 : d.length ≤ 9223372036854775807 := by omega
    obtain ⟨L, hL⟩ : ∃ L, L = Bs.ordL g d := ⟨_, rfl⟩
    have c2 := ReadyOrder_any A1 c1 g A0 c0 d w.heap.size w1.heap.size w.heap.size w1.heap.size w1 HG.out (Nat.le_refl _) HD.out (Nat.le_refl _) hl9 hd9
    have hlen : L.length ≤ 1000 := by rw [hL]; exact ordL_k g d
    rw [← hL] at c2
    have C2 := Lib.hid c2
    have CS := Lib.hid (fun w2 hg hd hs => ReadyOrderS_any A1 c1 g A0 c0 d w.heap.size w1.heap.size w.heap.size w1.heap.size w2 hg hs hd hs hl9 hd9)
    rw [← hL] at CS
    have HL := Lib.hid hL
    have HB1 := Lib.hid hb1
    clear C1 hg hd hL c2 hb1
    go_wp2_with fail
    refine (C2.out).mono ?_
    rintro e w2 hr2
    obtain ⟨A2, c2, rfl, q2, hb2, hlc2, hcm2⟩ := hr2.ri
    have s2 := hb2.size
    have HQ2 := Lib.hid q2
    have HG2 := Lib.hid (HG.out.below hb2 (Nat.le_refl _))
    have HD2 := Lib.hid (HD.out.below hb2 (Nat.le_refl _))
    have HB2 := Lib.hid (HB1.out.trans (hb2.mono s1))
    have C3 := Lib.hid (CS.out w2 HG2.out HD2.out s2)
    clear hr2 q2 hb2 C2 HG HD HB1
    go_wp2_with fail
    refine (C3.out).mono ?_
    rintro e w3 hr3
    obtain ⟨A3, c3, rfl, q3, hb3, hlc3, hcm3⟩ := hr3.ri
    have s3 := hb3.size
    have C4 := Lib.hid (equalInts_same A2 c2 A3 c3 L _ _ _ _ w3 (HQ2.out.below hb3 (Nat.le_refl _)) q3 (by omega))
    have HG3 := Lib.hid (HG2.out.below hb3 s2)
    have HD3 := Lib.hid (HD2.out.below hb3 s2)
    have HQ3 := Lib.hid (HQ2.out.below hb3 (Nat.le_refl _))
    have HB3 := Lib.hid (HB2.out.trans (hb3.mono (Nat.le_trans s1 s2)))
    clear hr3 q3 hb3 C3 HQ2 HB2 HG2 HD2
    go_wp2_with fail
    refine (C4.out).mono ?_
    rintro e w4 ⟨rfl, n, rfl⟩
    clear C4
    obtain ⟨W3, rfl⟩ : ∃ W3, W3 = w3 := ⟨_, rfl⟩
    by_cases h0 : L.length = 0
    · have hq : ((L.length : Int) == 0) = true := by simp [h0]
      clear h0 HL
      have hs3' : w2.heap.size ≤ (W3.drewN n).heap.size := s3
      have hsA : w1.heap.size ≤ (W3.drewN n).heap.size := Nat.le_trans s2 s3
      go_wp2_with fail
      refine (CS.out (W3.drewN n) (HG3.out.drewN n) (HD3.out.drewN n) hsA).mono ?_
      rintro e wA hrA
      obtain ⟨AA, cA, rfl, qA, hbA, _, _⟩ := hrA.ri
      have sA := hbA.size
      have CB := Lib.hid (equalInts_same A2 c2 AA cA L _ _ _ _ wA ((HQ3.out.drewN n).below hbA (by first | exact hsA | exact hs3' | omega)) qA (by omega))
      have HBA := Lib.hid ((HB3.out.drewN n).trans (hbA.mono (Nat.le_trans s1 hsA)))
      clear hrA qA hbA
      go_wp2_with fail
      refine (CB.out).mono ?_
      rintro e wB ⟨rfl, nB, rfl⟩
      go_wp2
      go_ret
      exact ⟨rfl, HBA.out.drewN _⟩
    · have hq : ((L.length : Int) == 0) = false := by rw [beq_eq_false_iff_ne]; omega
      obtain ⟨R, hR⟩ : ∃ R, R = Bs.readyL g d := ⟨_, rfl⟩
      obtain ⟨S, hS⟩ : ∃ S, S = (if Bs.valid g then Bs.tailsC g else []) := ⟨_, rfl⟩
      obtain ⟨hRl, hSl, hS8, hin, hbd, hord⟩ := Bs.rord_law HL.out hR hS h0
      have HIN := Lib.hid hin
      have HRL := Lib.hid hRl
      have HSL := Lib.hid hSl
      have hRb : R.length ≤ 1000 := by omega
      have HBD := Lib.hid hbd
      have HOR := Lib.hid hord
      have c5 := ReadyTasks_any A1 c1 g A0 c0 d w.heap.size w1.heap.size w.heap.size w1.heap.size (W3.drewN n) (HG3.out.drewN n) (Nat.le_trans s2 s3) (HD3.out.drewN n) (Nat.le_trans s2 s3) hl9 hd9
      rw [← hR] at c5
      have c6 := fun W hg hs => TailTimes_any A1 c1 g w.heap.size w1.heap.size W hg hs hl9
      rw [← hS] at c6
      have C5 := Lib.hid c5
      have C6 := Lib.hid c6
      have hs3 : w1.heap.size ≤ (W3.drewN n).heap.size := Nat.le_trans s2 s3
      clear c5 c6 hR hS h0 HL CS hin hbd hord hRl hSl
      go_wp2_with fail
      refine (C5.out).mono ?_
      rintro e w5 hr5
      obtain ⟨A5, c5, rfl, q5, hb5, hlc5, hcm5⟩ := hr5.ri
      have s5 := hb5.size
      have HG5 := Lib.hid ((HG3.out.drewN n).below hb5 hs3)
      have HQ5 := Lib.hid ((HQ3.out.drewN n).below hb5 s3)
      have HB5 := Lib.hid (((HB3.out.drewN n).trans (hb5.mono (Nat.le_trans (Nat.le_trans s1 s2) s3))))
      have HR5 := Lib.hid q5
      have hs5 : w1.heap.size ≤ w5.heap.size := Nat.le_trans hs3 s5
      have hs25 : w2.heap.size ≤ w5.heap.size := Nat.le_trans s3 s5
      have C6 := Lib.hid (C6.out w5 HG5.out hs5)
      clear hr5 q5 hb5 C5 HG3 HQ3 HB3 HD3
      go_wp2_with fail
      refine (C6.out).mono ?_
      rintro e w6 hr6
      obtain ⟨A6, c6, rfl, q6, hb6, hlc6, hcm6⟩ := hr6.ri
      have HQ6 := Lib.hid (HQ5.out.below hb6 hs25)
      have HR6 := Lib.hid (HR5.out.below hb6 (Nat.le_refl _))
      have HB6 := Lib.hid (HB5.out.trans (hb6.mono (Nat.le_trans s1 hs5)))
      have HS6 := Lib.hid q6
      clear hr6 q6 hb6 C6 HG5 HQ5 HB5 HR5
      obtain ⟨W6, rfl⟩ : ∃ W6, W6 = w6 := ⟨_, rfl⟩
      go_wp2
      go_loopw [8] (fun i wr => ∃ k : Nat, i = .int .i64 (k : Int) ∧ ∃ n, wr = W6.drewN n) (fun i _ => L.length + 1 - (intOf i).toNat)
      case atStart => exact ⟨0, rfl, 0, rfl⟩
      case round =>
        obtain ⟨k, rfl, m, rfl⟩ := hrel
        by_cases hi : k < L.length
        · obtain ⟨b, o, rfl, _, _, hc0⟩ := HQ6.out k hi
          have hii := HIN.out k hi
          obtain ⟨x0, x1⟩ := HBD.out k hi
          have b0 : (0 : Int) ≤ (k : Int) := by omega
          have b1 : (k : Int) < (L.length : Int) := by omega
          by_cases hk0 : k = 0
          · have d0 : decide ((0 : Int) < (k : Int)) = false := by simp; omega
            have d0' : decide (0 < k) = false := by simp; omega
            generalize L[k] = x at *
            have c7 := lisIn_any A5 c5 R x _ _ (W6.drewN m) HR6.out (by omega)
            rw [hii] at c7
            have C7 := Lib.hid c7
            have d2 : decide ((S.length : Int) ≤ x) = false := by have := HSL.out; simp; omega
            clear hii c7 x0 x1 hk0
            go_wp2_with fail
            with_reducible refine (C7.out).mono ?_
            rintro e w7 ⟨rfl, rfl⟩
            clear C7
            go_wp2
            go_quiet (fail)
            go_wp2
            go_roundw
            case rel => exact ⟨k + 1, by go_num, _, by first | rfl | rw [World.drewN_drewN]⟩
            case measure => simp [intOf]; omega
          · have d0 : decide ((0 : Int) < (k : Int)) = true := by simp; omega
            obtain ⟨j, hj⟩ : ∃ j, k = j + 1 := ⟨k - 1, by omega⟩
            have hjl : j < L.length := by omega
            have hord : Bs.gi S L[k].toNat < Bs.gi S L[j].toNat ∨ (Bs.gi S L[j].toNat = Bs.gi S L[k].toNat ∧ L[j] < L[k]) := by subst hj; exact HOR.out j hi
            obtain ⟨y0, y1⟩ := HBD.out j hjl
            obtain ⟨b', o', he, _, _, hc1⟩ := HQ6.out j hjl
            obtain ⟨rfl, rfl⟩ : b = b' ∧ o = o' := by simpa using he
            have hwq : IntKind.i64.wrap ((k : Int) - 1) = (j : Int) := by rw [show (((k : Int) - 1)) = (j : Int) from by omega]; exact IntWalk.i64_in _ ⟨by omega, by omega⟩
            have d0' : decide (0 < k) = true := by simp; omega
            have b2 : (0 : Int) ≤ (j : Int) := by omega
            have b3 : (j : Int) < (L.length : Int) := by omega
            generalize L[k] = x at *
            generalize L[j] = y at *
            clear he
            obtain ⟨v, rfl⟩ : ∃ v : Nat, x = (v : Int) := ⟨x.toNat, by omega⟩
            obtain ⟨u, rfl⟩ : ∃ u : Nat, y = (u : Int) := ⟨y.toNat, by omega⟩
            have hv : v < S.length := by have := HSL.out; omega
            have hu : u < S.length := by have := HSL.out; omega
            rw [Int.toNat_natCast, Int.toNat_natCast, gi_at hv, gi_at hu] at hord
            obtain ⟨b5, o5, he5, _, _, hc2⟩ := HS6.out v hv
            obtain ⟨b6, o6, he6, _, _, hc3⟩ := HS6.out u hu
            subst he5
            obtain ⟨rfl, rfl⟩ : b5 = b6 ∧ o5 = o6 := by simpa using he6
            clear he6
            have c7 := lisIn_any A5 c5 R (v : Int) _ _ (W6.drewN m) HR6.out (by omega)
            rw [hii] at c7
            have C7 := Lib.hid c7
            have d2 : decide ((S.length : Int) ≤ (v : Int)) = false := by simp; omega
            have d2' : decide (S.length ≤ v) = false := by simp; omega
            have b4 : (v : Int) < (S.length : Int) := by omega
            have b5' : (u : Int) < (S.length : Int) := by omega
            have b6' : (0 : Int) ≤ (v : Int) := by omega
            have b7' : (0 : Int) ≤ (u : Int) := by omega
            generalize S[v] = a1 at *
            generalize S[u] = a2 at *
            clear hii c7 x0 x1 y0 y1 hk0 hv hu hj
            have hcase : (decide (a2 < a1) = false ∧ (a1 == a2) = false) ∨ (decide (a2 < a1) = false ∧ (a1 == a2) = true ∧ decide ((v : Int) ≤ (u : Int)) = false ∧ decide (v ≤ u) = false) := by
              rcases hord with h | ⟨h1, h2⟩
              · left
                refine ⟨by simp; omega, by rw [beq_eq_false_iff_ne]; omega⟩
              · right
                refine ⟨by simp; omega, by rw [beq_iff_eq]; omega, by simp; omega, by simp; omega⟩
            clear hord
            rcases hcase with ⟨f1, f2⟩ | ⟨f1, f2, f3, f4⟩
            all_goals
              go_wp2_with fail
              with_reducible refine (C7.out).mono ?_
              rintro e w7 ⟨rfl, rfl⟩
              clear C7
              go_wp2
              go_quiet (fail)
              go_wp2
              go_roundw
              case rel => exact ⟨k + 1, by go_num, _, by first | rfl | rw [World.drewN_drewN]⟩
              case measure => simp [intOf]; omega
        · have heq : ((L.length : Int) == (R.length : Int)) = true := by rw [beq_iff_eq]; have := HRL.out; omega
          go_wp2
          go_ret
          exact ⟨rfl, HB6.out.drewN _⟩
end Go.Proofs.Ytcddjgiclnnilaa
