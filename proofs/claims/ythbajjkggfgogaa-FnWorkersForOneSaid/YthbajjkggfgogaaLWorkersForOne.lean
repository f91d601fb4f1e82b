/-
  THE WALK OF laws.FnWorkersForOne.
-/
import Derived.Test.YthbajjkggfgogaaX17
import Derived.Test.YthbajjkggfgogaaMath121
import Derived.Test.YthbajjkggfgogaaW121
import Derived.Test.YthbajjkggfgogaaR81
import Derived.Test.YthbajjkggfgogaaL1
import Derived.Test.YthbajjkggfgogaaL5
import Derived.Test.YthbajjkggfgogaaK8
import Derived.Test.YthbajjkggfgogaaK27
namespace Go.Proofs.Ythbajjkggfgogaa
open Go.RowKit
set_option linter.unusedVariables false
set_option maxRecDepth 20000 in
set_option maxHeartbeats 6400000 in
theorem fnWorkersForOne_walk (A : Option Addr) (c : Nat) (l : List Int) (w : World) (hb : RB w 0 w.heap.size A l) (hlc : l.length ≤ c ∧ c ≤ maxLen) :
    Calls Try.prog 9 #[.slice A l.length c] w fun e w' => e = .returned (.bool true) ∧ Below w.heap.size w w' := by
  have hl63 : l.length ≤ 9223372036854775807 := by have := hlc.2; unfold maxLen at this; omega
  by_cases hbig : 1048576 < l.length
  · go_enter Try.func9, Try.ntmps9
    go_wp2
    go_ret
    exact ⟨rfl, Below.refl _ _⟩
  · have C1 := Lib.hid (DrawWorkersFor_any A c l w hb hlc.1 hlc.2)
    clear hb
    go_enter Try.func9, Try.ntmps9
    go_wp2_with fail
    refine (C1.out).mono ?_
    rintro e w1 ⟨⟨A1, c1, g, A2, c2, m, d, rfl, hg, hg16, hgc, hcm, hm, hm100, hmc, hmm⟩, hb1⟩
    have HG := Lib.hid hg
    have HM := Lib.hid hm
    have hm9 : m.length ≤ 9223372036854775807 := by omega
    have s1 := hb1.size
    have hl9 : g.length ≤ 9223372036854775807 := by omega
    have HX1 := Lib.hid (Below.refl w1.heap.size w1)
    have HB1 := Lib.hid hb1
    have QWF := Lib.hid (fun (d : Int) W (hb : Below w1.heap.size w1 W) => WorkersFor_any A1 c1 g A2 c2 m d w.heap.size w1.heap.size w.heap.size w1.heap.size W (HG.out.below hb (Nat.le_refl _)) hb.size (HM.out.below hb (Nat.le_refl _)) hb.size hl9 hm9)
    have QWFm := Lib.hid (fun (d : Int) W (hb : Below w1.heap.size w1 W) => WorkersForS_any A1 c1 g A2 c2 m d w.heap.size w1.heap.size w.heap.size w1.heap.size W (HG.out.below hb (Nat.le_refl _)) hb.size (HM.out.below hb (Nat.le_refl _)) hb.size hl9 hm9)
    have QVG := Lib.hid (fun W (hb : Below w1.heap.size w1 W) => ValidGraph_any A1 c1 g w.heap.size w1.heap.size W (HG.out.below hb (Nat.le_refl _)) hb.size hl9)
    have QVR := Lib.hid (fun W (hb : Below w1.heap.size w1 W) => ValidRoom_same A2 c2 m w.heap.size w1.heap.size W (HM.out.below hb (Nat.le_refl _)) hm9)
    have QLG := Lib.hid (fun W (hb : Below w1.heap.size w1 W) => LongestTime_any A1 c1 g w.heap.size w1.heap.size W (HG.out.below hb (Nat.le_refl _)) hb.size hl9)
    clear C1 hb1
    obtain ⟨V, hV⟩ : ∃ V, V = Bs.wrkL g m d := ⟨_, rfl⟩
    have HV := Lib.hid hV
    have e2 := QWF.out d w1 HX1.out
    have e3 := fun W hb => QWFm.out d W hb
    rw [← hV] at e2 e3
    have E2 := Lib.hid e2
    have CS := Lib.hid e3
    have hne : (V != V) = false := by simp
    have heq : (V == V) = true := by simp
    clear hV e2 e3
    have C2 := Lib.hid (E2.out)
    go_wp2_with fail
    with_reducible refine (C2.out).mono ?_
    rintro e w2 ⟨rfl, hb2⟩
    have HX2 := Lib.hid (HX1.out.trans (hb2.mono HX1.out.size))
    have HB2 := Lib.hid (HB1.out.trans (hb2.mono (Nat.le_trans s1 HX1.out.size)))
    clear hb2 C2
    have C3 := Lib.hid (CS.out w2 HX2.out)
    go_wp2_with fail
    with_reducible refine (C3.out).mono ?_
    rintro e w3 ⟨rfl, hb3⟩
    have HX3 := Lib.hid (HX2.out.trans (hb3.mono HX2.out.size))
    have HB3 := Lib.hid (HB2.out.trans (hb3.mono (Nat.le_trans s1 HX2.out.size)))
    clear hb3 C3
    cases hv : Bs.valid g
    · have q4 := QVG.out w3 HX3.out
      rw [hv] at q4
      clear HV hv QWF QVG QVR QLG
      have C4 := Lib.hid (q4)
      clear q4
      go_wp2_with fail
      with_reducible refine (C4.out).mono ?_
      rintro e w4 ⟨rfl, hb4⟩
      have HX4 := Lib.hid (HX3.out.trans (hb4.mono HX3.out.size))
      have HB4 := Lib.hid (HB3.out.trans (hb4.mono (Nat.le_trans s1 HX3.out.size)))
      clear hb4 C4
      have C30 := Lib.hid (CS.out w4 HX4.out)
      go_wp2_with fail
      with_reducible refine (C30.out).mono ?_
      rintro e w30 ⟨rfl, hb30⟩
      have HX30 := Lib.hid (HX4.out.trans (hb30.mono HX4.out.size))
      have HB30 := Lib.hid (HB4.out.trans (hb30.mono (Nat.le_trans s1 HX4.out.size)))
      clear hb30 C30
      go_wp2
      go_ret
      exact ⟨rfl, HB30.out⟩
    · have q4 := QVG.out w3 HX3.out
      rw [hv] at q4
      have C4 := Lib.hid (q4)
      clear q4
      go_wp2_with fail
      with_reducible refine (C4.out).mono ?_
      rintro e w4 ⟨rfl, hb4⟩
      have HX4 := Lib.hid (HX3.out.trans (hb4.mono HX3.out.size))
      have HB4 := Lib.hid (HB3.out.trans (hb4.mono (Nat.le_trans s1 HX3.out.size)))
      clear hb4 C4
      cases hr : Bs.roomOk m
      · have q5 := QVR.out w4 HX4.out
        rw [hr] at q5
        clear HV hv hr QWF QVG QVR QLG
        have C5 := Lib.hid q5
        clear q5
        go_wp2_with fail
        with_reducible refine (C5.out).mono ?_
        rintro e _ ⟨rfl, rfl⟩
        have C30 := Lib.hid (CS.out w4 HX4.out)
        go_wp2_with fail
        with_reducible refine (C30.out).mono ?_
        rintro e w30 ⟨rfl, hb30⟩
        have HX30 := Lib.hid (HX4.out.trans (hb30.mono HX4.out.size))
        have HB30 := Lib.hid (HB4.out.trans (hb30.mono (Nat.le_trans s1 HX4.out.size)))
        clear hb30 C30
        go_wp2
        go_ret
        exact ⟨rfl, HB30.out⟩
      · have q5 := QVR.out w4 HX4.out
        rw [hr] at q5
        have C5 := Lib.hid q5
        clear q5
        go_wp2_with fail
        with_reducible refine (C5.out).mono ?_
        rintro e _ ⟨rfl, rfl⟩
        clear C5
        by_cases h0 : g.length = 0
        · have hq0 : ((g.length : Int) == 0) = true := by simp [h0]
          clear HV hv hr h0 QWF QVG QVR QLG
          have C30 := Lib.hid (CS.out w4 HX4.out)
          go_wp2_with fail
          with_reducible refine (C30.out).mono ?_
          rintro e w30 ⟨rfl, hb30⟩
          have HX30 := Lib.hid (HX4.out.trans (hb30.mono HX4.out.size))
          have HB30 := Lib.hid (HB4.out.trans (hb30.mono (Nat.le_trans s1 HX4.out.size)))
          clear hb30 C30
          go_wp2
          go_ret
          exact ⟨rfl, HB30.out⟩
        · have hq0 : ((g.length : Int) == 0) = false := by rw [beq_eq_false_iff_ne]; omega
          have hF := valid_fine hv
          obtain ⟨k1, k2⟩ := Bs.wrkL_one hv hr
          have hlb := Bs.long_b hv
          have q6 := fun W hb => QWF.out (Bs.sumT g) W hb
          rw [k1] at q6
          have q7 := fun W hb => QWF.out (longC g - 1) W hb
          rw [k2] at q7
          have q8 := QLG.out
          rw [show longL g = longC g from by unfold longL; rw [hv]; rfl] at q8
          have Q6 := Lib.hid q6
          have Q7 := Lib.hid q7
          have Q8 := Lib.hid q8
          have QAT := Lib.hid (fun W (hb : Below w1.heap.size w1 W) => allTime_any A1 c1 g w.heap.size w1.heap.size W (HG.out.below hb (Nat.le_refl _)) hF)
          clear HV hv hr h0 QWF QVG QVR QLG CS k1 k2 hF q6 q7 q8 hne heq
          generalize Bs.sumT g = sm at *
          generalize longC g = lg at *
          have hw : IntKind.i64.wrap (lg - 1) = lg - 1 := IntWalk.i64_in _ ⟨by omega, by omega⟩
          have C6 := Lib.hid (QAT.out w4 HX4.out)
          go_wp2_with fail
          with_reducible refine (C6.out).mono ?_
          rintro e _ ⟨rfl, rfl⟩
          clear C6
          have C7 := Lib.hid (Q6.out w4 HX4.out)
          go_wp2_with fail
          with_reducible refine (C7.out).mono ?_
          rintro e w7 ⟨rfl, hb7⟩
          have HX7 := Lib.hid (HX4.out.trans (hb7.mono HX4.out.size))
          have HB7 := Lib.hid (HB4.out.trans (hb7.mono (Nat.le_trans s1 HX4.out.size)))
          clear hb7 C7
          have C8 := Lib.hid (Q8.out w7 HX7.out)
          go_wp2_with fail
          with_reducible refine (C8.out).mono ?_
          rintro e w8 ⟨rfl, hb8⟩
          have HX8 := Lib.hid (HX7.out.trans (hb8.mono HX7.out.size))
          have HB8 := Lib.hid (HB7.out.trans (hb8.mono (Nat.le_trans s1 HX7.out.size)))
          clear hb8 C8
          have C9 := Lib.hid (Q7.out w8 HX8.out)
          go_wp2_with fail
          with_reducible refine (C9.out).mono ?_
          rintro e w9 ⟨rfl, hb9⟩
          have HX9 := Lib.hid (HX8.out.trans (hb9.mono HX8.out.size))
          have HB9 := Lib.hid (HB8.out.trans (hb9.mono (Nat.le_trans s1 HX8.out.size)))
          clear hb9 C9
          go_wp2
          go_ret
          exact ⟨rfl, HB9.out⟩
end Go.Proofs.Ythbajjkggfgogaa
