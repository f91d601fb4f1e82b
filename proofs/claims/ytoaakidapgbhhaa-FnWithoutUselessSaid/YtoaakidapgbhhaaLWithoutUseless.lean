/-
  THE WALK OF laws.FnWithoutUseless.
-/
import Derived.Test.YtoaakidapgbhhaaDrC13
import Derived.Test.YtoaakidapgbhhaaMath136
import Derived.Test.YtoaakidapgbhhaaLLists
import Derived.Test.YtoaakidapgbhhaaK5
namespace Go.Proofs.Ytoaakidapgbhhaa
open Go.RowKit
set_option linter.unusedVariables false
set_option maxRecDepth 20000 in
set_option maxHeartbeats 6400000 in
theorem fnWithoutUseless_walk (A : Option Addr) (c : Nat) (l : List Int) (w : World) (hb : RB w 0 w.heap.size A l) (hlc : l.length ≤ c ∧ c ≤ maxLen) :
    Calls Try.prog 7 #[.slice A l.length c] w fun e w' => e = .returned (.bool true) ∧ Below w.heap.size w w' := by
  have hl63 : l.length ≤ 9223372036854775807 := by have := hlc.2; unfold maxLen at this; omega
  by_cases hbig : 1048576 < l.length
  · go_enter Try.func7, Try.ntmps7
    go_wp2
    go_ret
    exact ⟨rfl, Below.refl _ _⟩
  · have C1 := Lib.hid (DrawWithoutUseless_any A c l w hb hlc.1 hlc.2)
    clear hb
    go_enter Try.func7, Try.ntmps7
    go_wp2_with fail
    refine (C1.out).mono ?_
    rintro e w1 ⟨⟨A1, c1, g, rfl, hg, hg16, hgc, hcm⟩, hb1⟩
    have HG := Lib.hid hg
    have s1 := hb1.size
    have hl9 : g.length ≤ 9223372036854775807 := by omega
    obtain ⟨L, hL⟩ : ∃ L, L = Bs.wuL g := ⟨_, rfl⟩
    have e2 := WithoutUseless_any A1 c1 g w.heap.size w1.heap.size w1 HG.out (Nat.le_refl _) hl9
    have e3 := fun W (hb : Below w1.heap.size w1 W) => WithoutUselessS_any A1 c1 g w.heap.size w1.heap.size W (HG.out.below hb (Nat.le_refl _)) hb.size hl9
    have hlen : L.length ≤ 1000 := by have := Bs.wuL_len g; rw [← hL] at this; omega
    rw [← hL] at e2 e3
    have E2 := Lib.hid e2
    have E3 := Lib.hid e3
    have HL := Lib.hid hL
    clear hL e2 e3 C1
    go_wp2_with fail
    with_reducible refine (E2.out).mono ?_
    rintro e w2 hr2
    obtain ⟨A2, c2, rfl, q2, hb2⟩ := hr2.rg
    have C3 := Lib.hid (E3.out w2 hb2)
    have HQ2 := Lib.hid q2
    have HB2 := Lib.hid hb2
    have s2 := hb2.size
    clear hr2 q2 hb2 E2
    go_wp2_with fail
    with_reducible refine (C3.out).mono ?_
    rintro e w3 hr3
    obtain ⟨A3, c3, rfl, q3, hb3⟩ := hr3.rg
    have s3 := hb3.size
    have C4 := Lib.hid (equalTasks_same A2 c2 A3 c3 L _ _ _ _ w3 (HQ2.out.below hb3 (Nat.le_refl _)) q3 (by omega))
    have HX3 := Lib.hid (HB2.out.trans (hb3.mono s2))
    have HB3 := Lib.hid hb3
    clear hr3 q3 hb3 C3
    go_wp2_with fail
    with_reducible refine (C4.out).mono ?_
    rintro e w4 ⟨rfl, n, rfl⟩
    clear C4
    have HG4 := Lib.hid ((HG.out.below HX3.out (Nat.le_refl _)).drewN n)
    have HQ4 := Lib.hid ((HQ2.out.below HB3.out (Nat.le_refl _)).drewN n)
    have g1 : w1.heap.size ≤ (w3.drewN n).heap.size := Nat.le_trans s2 s3
    have g2 : w2.heap.size ≤ (w3.drewN n).heap.size := s3
    have g0 : w.heap.size ≤ (w3.drewN n).heap.size := Nat.le_trans s1 g1
    have HX4 := Lib.hid (HX3.out.drewN n)
    have HB4 := Lib.hid ((hb1.trans (HX3.out.mono s1)).drewN n)
    have CS := Lib.hid (fun W (hb : Below (w3.drewN n).heap.size (w3.drewN n) W) => E3.out W (HX4.out.trans (hb.mono g1)))
    clear HG HQ2 HB2 HX3 HB3 HX4 E3 hb1
    generalize w3.drewN n = w4 at *
    have HX := Lib.hid (Below.refl w4.heap.size w4)
    have CAN := Lib.hid (fun (z : Int) W (hb : Below w4.heap.size w4 W) => AllNeeds_any A1 c1 g z w.heap.size w1.heap.size W (HG4.out.below hb g1) (Nat.le_trans g1 hb.size) hl9)
    by_cases h0 : L.length = 0
    · have hq0 : ((L.length : Int) == 0) = true := by simp [h0]
      clear h0 HL
      have CA := Lib.hid (CS.out _ HX.out)
      go_wp2_with fail
      with_reducible refine (CA.out).mono ?_
      rintro e wA hrA
      obtain ⟨AA, cA, rfl, qA, hbA⟩ := hrA.rg
      have CB := Lib.hid (equalTasks_same A2 c2 AA cA L _ _ _ _ wA ((HQ4.out.below HX.out g2).below hbA (Nat.le_trans g2 HX.out.size)) qA (by omega))
      have HBA := Lib.hid (HB4.out.trans ((HX.out.trans (hbA.mono HX.out.size)).mono g0))
      clear hrA qA hbA CA
      go_wp2_with fail
      with_reducible refine (CB.out).mono ?_
      rintro e wB ⟨rfl, nB, rfl⟩
      go_wp2
      go_ret
      exact ⟨rfl, HBA.out.drewN _⟩
    · have hq0 : ((L.length : Int) == 0) = false := by rw [beq_eq_false_iff_ne]; omega
      have hv : Bs.valid g = true := by
        cases hv : Bs.valid g
        · exact absurd (by rw [HL.out, Bs.wuL_no hv]; rfl) h0
        · rfl
      have hL := HL.out
      rw [Bs.wuL_yes hv] at hL
      have hLg : L.length = g.length := by rw [hL]; exact Bs.wuG_len g
      have h8 := Bs.fine_len (valid_fine hv)
      have hLL : L.length ≤ 9223372036854775807 := by omega
      have a1 := fun (z : Int) W (hb : Below w4.heap.size w4 W) => AllNeeds_any A2 c2 L z w1.heap.size w2.heap.size W (HQ4.out.below hb g2) (Nat.le_trans g2 hb.size) hLL
      have e1 : ∀ z, Bs.needsA L z = Bs.needsA g z := by
        intro z
        unfold Bs.needsA
        rw [hL, Bs.valid_wu hv, Bs.wuG_len, hv]
        simp only [Bs.needs2_wu hv]
      simp only [e1] at a1
      have X1 := Lib.hid a1
      have l1 := AllNeeds_len g
      have a2 := fun W (hb : Below w4.heap.size w4 W) => UselessNeeds_any A2 c2 L w1.heap.size w2.heap.size W (HQ4.out.below hb g2) (Nat.le_trans g2 hb.size) hLL
      have a3 := fun W (hb : Below w4.heap.size w4 W) => ValidGraph_any A2 c2 L w1.heap.size w2.heap.size W (HQ4.out.below hb g2) (Nat.le_trans g2 hb.size) hLL
      have e2 : Bs.pairL L = [] := by rw [hL]; exact Bs.pair_wu hv
      have e3 : Bs.valid L = true := by rw [hL]; exact Bs.valid_wu hv
      rw [e2] at a2
      rw [e3] at a3
      have X2 := Lib.hid a2
      have X3 := Lib.hid a3
      have hll : g.length ≤ L.length := by omega
      have hend : ((L.length : Int) == (g.length : Int)) = true := by rw [beq_iff_eq]; omega
      have HZ5 := Lib.hid (Below.refl w4.heap.size w4)
      clear a1 a2 a3 e1 e2 e3 hL hv h0 HL CS hLg
      go_wp2
      go_loopw [5] (fun i wr => ∃ k : Nat, k ≤ g.length ∧ i = .int .i64 (k : Int) ∧ Below w4.heap.size w4 wr) (fun i _ => g.length + 1 - (intOf i).toNat)
      case atStart => exact ⟨0, Nat.zero_le _, rfl, HZ5.out⟩
      case round =>
        clear HZ5
        obtain ⟨k, hk, rfl, hbr⟩ := hrel
        have HX5 := Lib.hid hbr
        clear hbr
        by_cases hlt : k < g.length
        · have hpl := l1 (k : Int)
          have Y1 := Lib.hid (fun W hb => X1.out (k : Int) W hb)
          have Y2 := Lib.hid (fun W hb => CAN.out (k : Int) W hb)
          generalize Bs.needsA g (k : Int) = P at *
          clear l1
          have C10 := Lib.hid (Y1.out _ HX5.out)
          go_wp2_with fail
          with_reducible refine (C10.out).mono ?_
          rintro e w10 hr10
          obtain ⟨B10, d10, rfl, q10, hb10⟩ := hr10.ri2
          have HX11 := Lib.hid (HX5.out.trans (hb10.mono HX5.out.size))
          have HR10 := Lib.hid q10
          clear hr10 q10 hb10 C10
          have C10 := Lib.hid (Y2.out w10 HX11.out)
          go_wp2_with fail
          with_reducible refine (C10.out).mono ?_
          rintro e w12 hr10
          obtain ⟨B11, d11, rfl, q10, hb10⟩ := hr10.ri2
          have HX12 := Lib.hid (HX11.out.trans (hb10.mono HX11.out.size))
          have CE10 := Lib.hid (equalInts_same B10 d10 B11 d11 P _ _ _ _ w12 (HR10.out.below hb10 (Nat.le_refl _)) q10 (by omega))
          clear hr10 q10 hb10 C10 HR10
          go_wp2_with fail
          with_reducible refine (CE10.out).mono ?_
          rintro e w13 ⟨rfl, n10, rfl⟩
          have HX10 := Lib.hid (HX12.out.drewN n10)
          clear CE10
          go_wp2
          go_roundw
          case rel => exact ⟨k + 1, by omega, by go_num, HX10.out⟩
          case measure => simp [intOf]; omega
        · have d1 : ¬ (k : Int) < (g.length : Int) := by omega
          have C6 := Lib.hid (X2.out wr HX5.out)
          go_wp2_with fail
          with_reducible refine (C6.out).mono ?_
          rintro e w6 hr6
          obtain ⟨A6, c6, rfl, _, hb6⟩ := hr6.os.rs
          have HX6 := Lib.hid (HX5.out.trans (hb6.mono HX5.out.size))
          have C7 := Lib.hid (X3.out w6 HX6.out)
          clear hr6 hb6 C6
          go_wp2_with fail
          with_reducible refine (C7.out).mono ?_
          rintro e w7 ⟨rfl, hb7⟩
          have HBZ := Lib.hid (HB4.out.trans ((HX6.out.trans (hb7.mono HX6.out.size)).mono g0))
          clear hb7 C7
          go_wp2
          go_ret
          exact ⟨rfl, HBZ.out⟩
end Go.Proofs.Ytoaakidapgbhhaa
