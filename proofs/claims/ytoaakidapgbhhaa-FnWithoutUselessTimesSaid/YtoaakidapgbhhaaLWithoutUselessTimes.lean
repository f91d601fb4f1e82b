/-
  THE WALK OF laws.FnWithoutUselessTimes.
-/
import Derived.Test.YtoaakidapgbhhaaDrC13
import Derived.Test.YtoaakidapgbhhaaMath136
import Derived.Test.YtoaakidapgbhhaaLLists
import Derived.Test.YtoaakidapgbhhaaW15b
import Derived.Test.YtoaakidapgbhhaaK8
namespace Go.Proofs.Ytoaakidapgbhhaa
open Go.RowKit
set_option linter.unusedVariables false
set_option maxRecDepth 20000 in
set_option maxHeartbeats 6400000 in
theorem fnWithoutUselessTimes_walk (A : Option Addr) (c : Nat) (l : List Int) (w : World) (hb : RB w 0 w.heap.size A l) (hlc : l.length ≤ c ∧ c ≤ maxLen) :
    Calls Try.prog 8 #[.slice A l.length c] w fun e w' => e = .returned (.bool true) ∧ Below w.heap.size w w' := by
  have hl63 : l.length ≤ 9223372036854775807 := by have := hlc.2; unfold maxLen at this; omega
  by_cases hbig : 1048576 < l.length
  · go_enter Try.func8, Try.ntmps8
    go_wp2
    go_ret
    exact ⟨rfl, Below.refl _ _⟩
  · have C1 := Lib.hid (DrawWithoutUseless_any A c l w hb hlc.1 hlc.2)
    clear hb
    go_enter Try.func8, Try.ntmps8
    go_wp2_with fail
    refine (C1.out).mono ?_
    rintro e w1 ⟨⟨A1, c1, g, rfl, hg, hg16, hgc, hcm⟩, hb1⟩
    have HG := Lib.hid hg
    have s1 := hb1.size
    have hl9 : g.length ≤ 9223372036854775807 := by omega
    obtain ⟨L, hL⟩ : ∃ L, L = Bs.wuL g := ⟨_, rfl⟩
    have e2 := WithoutUseless_any A1 c1 g w.heap.size w1.heap.size w1 HG.out (Nat.le_refl _) hl9
    have e3 := fun W (hb : Below w1.heap.size w1 W) => WithoutUselessS_any A1 c1 g w.heap.size w1.heap.size W (HG.out.below hb (Nat.le_refl _)) hb.size hl9
    have hlen : L.length ≤ 1000 := by have := Bs.wuL_len g; rw [← hL] at this; omega
    rw [← hL] at e2 e3
    have E2 := Lib.hid e2
    have E3 := Lib.hid e3
    have HL := Lib.hid hL
    clear hL e2 e3 C1
    go_wp2_with fail
    with_reducible refine (E2.out).mono ?_
    rintro e w2 hr2
    obtain ⟨A2, c2, rfl, q2, hb2⟩ := hr2.rg
    have C3 := Lib.hid (E3.out w2 hb2)
    have HQ2 := Lib.hid q2
    have HB2 := Lib.hid hb2
    have s2 := hb2.size
    clear hr2 q2 hb2 E2
    go_wp2_with fail
    with_reducible refine (C3.out).mono ?_
    rintro e w3 hr3
    obtain ⟨A3, c3, rfl, q3, hb3⟩ := hr3.rg
    have s3 := hb3.size
    have C4 := Lib.hid (equalTasks_same A2 c2 A3 c3 L _ _ _ _ w3 (HQ2.out.below hb3 (Nat.le_refl _)) q3 (by omega))
    have HX3 := Lib.hid (HB2.out.trans (hb3.mono s2))
    have HB3 := Lib.hid hb3
    clear hr3 q3 hb3 C3
    go_wp2_with fail
    with_reducible refine (C4.out).mono ?_
    rintro e w4 ⟨rfl, n, rfl⟩
    clear C4
    have HG4 := Lib.hid ((HG.out.below HX3.out (Nat.le_refl _)).drewN n)
    have HQ4 := Lib.hid ((HQ2.out.below HB3.out (Nat.le_refl _)).drewN n)
    have g1 : w1.heap.size ≤ (w3.drewN n).heap.size := Nat.le_trans s2 s3
    have g2 : w2.heap.size ≤ (w3.drewN n).heap.size := s3
    have g0 : w.heap.size ≤ (w3.drewN n).heap.size := Nat.le_trans s1 g1
    have HX4 := Lib.hid (HX3.out.drewN n)
    have HB4 := Lib.hid ((hb1.trans (HX3.out.mono s1)).drewN n)
    have CS := Lib.hid (fun W (hb : Below (w3.drewN n).heap.size (w3.drewN n) W) => E3.out W (HX4.out.trans (hb.mono g1)))
    clear HG HQ2 HB2 HX3 HB3 HX4 E3 hb1
    generalize w3.drewN n = w4 at *
    have HX := Lib.hid (Below.refl w4.heap.size w4)
    by_cases h0 : L.length = 0
    · have hq0 : ((L.length : Int) == 0) = true := by simp [h0]
      clear h0 HL
      have CA := Lib.hid (CS.out _ HX.out)
      go_wp2_with fail
      with_reducible refine (CA.out).mono ?_
      rintro e wA hrA
      obtain ⟨AA, cA, rfl, qA, hbA⟩ := hrA.rg
      have CB := Lib.hid (equalTasks_same A2 c2 AA cA L _ _ _ _ wA ((HQ4.out.below HX.out g2).below hbA (Nat.le_trans g2 HX.out.size)) qA (by omega))
      have HBA := Lib.hid (HB4.out.trans ((HX.out.trans (hbA.mono HX.out.size)).mono g0))
      clear hrA qA hbA CA
      go_wp2_with fail
      with_reducible refine (CB.out).mono ?_
      rintro e wB ⟨rfl, nB, rfl⟩
      go_wp2
      go_ret
      exact ⟨rfl, HBA.out.drewN _⟩
    · have hq0 : ((L.length : Int) == 0) = false := by rw [beq_eq_false_iff_ne]; omega
      have hv : Bs.valid g = true := by
        cases hv : Bs.valid g
        · exact absurd (by rw [HL.out, Bs.wuL_no hv]; rfl) h0
        · rfl
      have hL := HL.out
      rw [Bs.wuL_yes hv] at hL
      have h8 := Bs.fine_len (valid_fine hv)
      have hLL : L.length ≤ 9223372036854775807 := by omega
      have a1 := fun W (hb : Below w4.heap.size w4 W) => HeadTimes_any A2 c2 L w1.heap.size w2.heap.size W (HQ4.out.below hb g2) (Nat.le_trans g2 hb.size) hLL
      have a2 := fun W (hb : Below w4.heap.size w4 W) => HeadTimes_any A1 c1 g w.heap.size w1.heap.size W (HG4.out.below hb g1) (Nat.le_trans g1 hb.size) hl9
      have a3 := fun W (hb : Below w4.heap.size w4 W) => TailTimes_any A2 c2 L w1.heap.size w2.heap.size W (HQ4.out.below hb g2) (Nat.le_trans g2 hb.size) hLL
      have a4 := fun W (hb : Below w4.heap.size w4 W) => TailTimes_any A1 c1 g w.heap.size w1.heap.size W (HG4.out.below hb g1) (Nat.le_trans g1 hb.size) hl9
      have a5 := fun W (hb : Below w4.heap.size w4 W) => StageOf_any A2 c2 L w1.heap.size w2.heap.size W (HQ4.out.below hb g2) (Nat.le_trans g2 hb.size) hLL
      have a6 := fun W (hb : Below w4.heap.size w4 W) => StageOf_any A1 c1 g w.heap.size w1.heap.size W (HG4.out.below hb g1) (Nat.le_trans g1 hb.size) hl9
      have e1 : (if Bs.valid L then Bs.headsC L else []) = (if Bs.valid g then Bs.headsC g else []) := by rw [hL, Bs.valid_wu hv, hv, Bs.heads_wu hv]
      have e2 : (if Bs.valid L then Bs.tailsC L else []) = (if Bs.valid g then Bs.tailsC g else []) := by rw [hL, Bs.valid_wu hv, hv, Bs.tails_wu hv]
      have e3 : (if Bs.valid L then Bs.levC L else []) = (if Bs.valid g then Bs.levC g else []) := by rw [hL, Bs.valid_wu hv, hv, Bs.lev_wu hv]
      have l1 := HeadTimes_len g
      have l2 := TailTimes_len g
      have l3 := StageOf_len g
      simp only [e1] at a1
      simp only [e2] at a3
      simp only [e3] at a5
      have X1 := Lib.hid a1
      have X2 := Lib.hid a2
      have X3 := Lib.hid a3
      have X4 := Lib.hid a4
      have X5 := Lib.hid a5
      have X6 := Lib.hid a6
      clear a1 a2 a3 a4 a5 a6 e1 e2 e3 hL hv h0 HL CS
      generalize (if Bs.valid g then Bs.headsC g else []) = P at *
      generalize (if Bs.valid g then Bs.tailsC g else []) = Q at *
      generalize (if Bs.valid g then Bs.levC g else []) = R at *
      have C10 := Lib.hid (X1.out _ HX.out)
      go_wp2_with fail
      with_reducible refine (C10.out).mono ?_
      rintro e w10 hr10
      obtain ⟨B10, d10, rfl, q10, hb10⟩ := hr10.ri2
      have HX11 := Lib.hid (HX.out.trans (hb10.mono HX.out.size))
      have HR10 := Lib.hid q10
      clear hr10 q10 hb10 C10
      have C10 := Lib.hid (X2.out w10 HX11.out)
      go_wp2_with fail
      with_reducible refine (C10.out).mono ?_
      rintro e w12 hr10
      obtain ⟨B11, d11, rfl, q10, hb10⟩ := hr10.ri2
      have HX12 := Lib.hid (HX11.out.trans (hb10.mono HX11.out.size))
      have CE10 := Lib.hid (equalInts_same B10 d10 B11 d11 P _ _ _ _ w12 (HR10.out.below hb10 (Nat.le_refl _)) q10 (by omega))
      clear hr10 q10 hb10 C10 HR10
      go_wp2_with fail
      with_reducible refine (CE10.out).mono ?_
      rintro e w13 ⟨rfl, n10, rfl⟩
      have HX10 := Lib.hid (HX12.out.drewN n10)
      clear CE10
      have C20 := Lib.hid (X3.out _ HX10.out)
      go_wp2_with fail
      with_reducible refine (C20.out).mono ?_
      rintro e w20 hr20
      obtain ⟨B20, d20, rfl, q20, hb20⟩ := hr20.ri2
      have HX21 := Lib.hid (HX10.out.trans (hb20.mono HX10.out.size))
      have HR20 := Lib.hid q20
      clear hr20 q20 hb20 C20
      have C20 := Lib.hid (X4.out w20 HX21.out)
      go_wp2_with fail
      with_reducible refine (C20.out).mono ?_
      rintro e w22 hr20
      obtain ⟨B21, d21, rfl, q20, hb20⟩ := hr20.ri2
      have HX22 := Lib.hid (HX21.out.trans (hb20.mono HX21.out.size))
      have CE20 := Lib.hid (equalInts_same B20 d20 B21 d21 Q _ _ _ _ w22 (HR20.out.below hb20 (Nat.le_refl _)) q20 (by omega))
      clear hr20 q20 hb20 C20 HR20
      go_wp2_with fail
      with_reducible refine (CE20.out).mono ?_
      rintro e w23 ⟨rfl, n20, rfl⟩
      have HX20 := Lib.hid (HX22.out.drewN n20)
      clear CE20
      have C30 := Lib.hid (X5.out _ HX20.out)
      go_wp2_with fail
      with_reducible refine (C30.out).mono ?_
      rintro e w30 hr30
      obtain ⟨B30, d30, rfl, q30, hb30⟩ := hr30.ri2
      have HX31 := Lib.hid (HX20.out.trans (hb30.mono HX20.out.size))
      have HR30 := Lib.hid q30
      clear hr30 q30 hb30 C30
      have C30 := Lib.hid (X6.out w30 HX31.out)
      go_wp2_with fail
      with_reducible refine (C30.out).mono ?_
      rintro e w32 hr30
      obtain ⟨B31, d31, rfl, q30, hb30⟩ := hr30.ri2
      have HX32 := Lib.hid (HX31.out.trans (hb30.mono HX31.out.size))
      have CE30 := Lib.hid (equalInts_same B30 d30 B31 d31 R _ _ _ _ w32 (HR30.out.below hb30 (Nat.le_refl _)) q30 (by omega))
      clear hr30 q30 hb30 C30 HR30
      go_wp2_with fail
      with_reducible refine (CE30.out).mono ?_
      rintro e w33 ⟨rfl, n30, rfl⟩
      have HX30 := Lib.hid (HX32.out.drewN n30)
      clear CE30
      have HBZ := Lib.hid (HB4.out.trans (HX30.out.mono g0))
      go_wp2
      go_ret
      exact ⟨rfl, HBZ.out⟩
end Go.Proofs.Ytoaakidapgbhhaa
