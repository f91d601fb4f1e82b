/-
  THE WALK OF laws.FnMeetsDeadlineNever.
-/
import Derived.Test.YthbajjkggfgogaaX17
import Derived.Test.YthbajjkggfgogaaMath121
import Derived.Test.YthbajjkggfgogaaW121
import Derived.Test.YthbajjkggfgogaaR81
import Derived.Test.YthbajjkggfgogaaL1
namespace Go.Proofs.Ythbajjkggfgogaa
open Go.RowKit
set_option linter.unusedVariables false
set_option maxRecDepth 20000 in
set_option maxHeartbeats 6400000 in
theorem fnMeetsDeadlineNever_walk (A : Option Addr) (c : Nat) (l : List Int) (w : World) (hb : RB w 0 w.heap.size A l) (hlc : l.length ≤ c ∧ c ≤ maxLen) :
    Calls Try.prog 12 #[.slice A l.length c] w fun e w' => e = .returned (.bool true) ∧ Below w.heap.size w w' := by
  have hl63 : l.length ≤ 9223372036854775807 := by have := hlc.2; unfold maxLen at this; omega
  by_cases hbig : 1048576 < l.length
  · go_enter Try.func12, Try.ntmps12
    go_wp2
    go_ret
    exact ⟨rfl, Below.refl _ _⟩
  · have C1 := Lib.hid (DrawMeetsDeadline_any A c l w hb hlc.1 hlc.2)
    clear hb
    go_enter Try.func12, Try.ntmps12
    go_wp2_with fail
    refine (C1.out).mono ?_
    rintro e w1 ⟨⟨A1, c1, g, A2, c2, m, wk, A3, c3, S, d, rfl, hg, hg16, hgc, hcm, hm, hm100, hmc, hmm, hS, hS100, hSc, hSm⟩, hb1⟩
    have HG := Lib.hid hg
    have HM := Lib.hid hm
    have HS := Lib.hid hS
    have hm9 : m.length ≤ 9223372036854775807 := by omega
    have hS9 : S.length ≤ 9223372036854775807 := by omega
    have s1 := hb1.size
    have hl9 : g.length ≤ 9223372036854775807 := by omega
    have HX1 := Lib.hid (Below.refl w1.heap.size w1)
    have HB1 := Lib.hid hb1
    have QMD := Lib.hid (fun (d : Int) W (hb : Below w1.heap.size w1 W) => MeetsDeadline_any A1 c1 g A2 c2 m A3 c3 S wk d w.heap.size w1.heap.size w.heap.size w1.heap.size w.heap.size w1.heap.size W (HG.out.below hb (Nat.le_refl _)) hb.size (HM.out.below hb (Nat.le_refl _)) hb.size (HS.out.below hb (Nat.le_refl _)) hb.size hl9 hm9 hS9)
    have QMDm := Lib.hid (fun (d : Int) W (hb : Below w1.heap.size w1 W) => MeetsDeadlineS_any A1 c1 g A2 c2 m A3 c3 S wk d w.heap.size w1.heap.size w.heap.size w1.heap.size w.heap.size w1.heap.size W (HG.out.below hb (Nat.le_refl _)) hb.size (HM.out.below hb (Nat.le_refl _)) hb.size (HS.out.below hb (Nat.le_refl _)) hb.size hl9 hm9 hS9)
    have QVS := Lib.hid (fun W (hb : Below w1.heap.size w1 W) => ValidStarts_any A1 c1 g A2 c2 m A3 c3 S wk w.heap.size w1.heap.size w.heap.size w1.heap.size w.heap.size w1.heap.size W (HG.out.below hb (Nat.le_refl _)) hb.size (HM.out.below hb (Nat.le_refl _)) hb.size (HS.out.below hb (Nat.le_refl _)) hb.size hl9 hm9 hS9)
    clear C1 hb1
    obtain ⟨V, hV⟩ : ∃ V, V = Bs.meetB g m wk S d := ⟨_, rfl⟩
    have HV := Lib.hid hV
    have e2 := QMD.out d w1 HX1.out
    have e3 := fun W hb => QMDm.out d W hb
    rw [← hV] at e2 e3
    have E2 := Lib.hid e2
    have CS := Lib.hid e3
    have hne : (V != V) = false := by simp
    have heq : (V == V) = true := by simp
    clear hV e2 e3
    have C2 := Lib.hid (E2.out)
    go_wp2_with fail
    with_reducible refine (C2.out).mono ?_
    rintro e w2 ⟨rfl, hb2⟩
    have HX2 := Lib.hid (HX1.out.trans (hb2.mono HX1.out.size))
    have HB2 := Lib.hid (HB1.out.trans (hb2.mono (Nat.le_trans s1 HX1.out.size)))
    clear hb2 C2
    have C3 := Lib.hid (CS.out w2 HX2.out)
    go_wp2_with fail
    with_reducible refine (C3.out).mono ?_
    rintro e w3 ⟨rfl, hb3⟩
    have HX3 := Lib.hid (HX2.out.trans (hb3.mono HX2.out.size))
    have HB3 := Lib.hid (HB2.out.trans (hb3.mono (Nat.le_trans s1 HX2.out.size)))
    clear hb3 C3
    cases hv : Bs.stV g m wk S
    · have q4 := QVS.out w3 HX3.out
      rw [hv] at q4
      clear HV hv QMD QVS
      have C4 := Lib.hid (q4)
      clear q4
      go_wp2_with fail
      with_reducible refine (C4.out).mono ?_
      rintro e w4 ⟨rfl, hb4⟩
      have HX4 := Lib.hid (HX3.out.trans (hb4.mono HX3.out.size))
      have HB4 := Lib.hid (HB3.out.trans (hb4.mono (Nat.le_trans s1 HX3.out.size)))
      clear hb4 C4
      have C30 := Lib.hid (CS.out w4 HX4.out)
      go_wp2_with fail
      with_reducible refine (C30.out).mono ?_
      rintro e w30 ⟨rfl, hb30⟩
      have HX30 := Lib.hid (HX4.out.trans (hb30.mono HX4.out.size))
      have HB30 := Lib.hid (HB4.out.trans (hb30.mono (Nat.le_trans s1 HX4.out.size)))
      clear hb30 C30
      go_wp2
      go_ret
      exact ⟨rfl, HB30.out⟩
    · have q4 := QVS.out w3 HX3.out
      rw [hv] at q4
      have hz : Bs.meetB g m wk S 0 = decide (g.length = 0) := by
        rw [Bs.meetB_yes hv (by rfl), decide_eq_decide]
        exact Bs.end_pos hv
      have q5 := fun W hb => QMD.out 0 W hb
      rw [hz] at q5
      have Q5 := Lib.hid q5
      clear HV hv QMD QVS CS hz q5
      have C4 := Lib.hid (q4)
      clear q4
      go_wp2_with fail
      with_reducible refine (C4.out).mono ?_
      rintro e w4 ⟨rfl, hb4⟩
      have HX4 := Lib.hid (HX3.out.trans (hb4.mono HX3.out.size))
      have HB4 := Lib.hid (HB3.out.trans (hb4.mono (Nat.le_trans s1 HX3.out.size)))
      clear hb4 C4
      by_cases h0 : g.length = 0
      · have q6 := Q5.out w4 HX4.out
        rw [decide_eq_true h0] at q6
        have hq0 : ((g.length : Int) == 0) = true := by simp [h0]
        clear h0 Q5
        have C5 := Lib.hid (q6)
        clear q6
        go_wp2_with fail
        with_reducible refine (C5.out).mono ?_
        rintro e w5 ⟨rfl, hb5⟩
        have HX5 := Lib.hid (HX4.out.trans (hb5.mono HX4.out.size))
        have HB5 := Lib.hid (HB4.out.trans (hb5.mono (Nat.le_trans s1 HX4.out.size)))
        clear hb5 C5
        go_wp2
        go_ret
        exact ⟨rfl, HB5.out⟩
      · have q6 := Q5.out w4 HX4.out
        rw [decide_eq_false h0] at q6
        have hq0 : ((g.length : Int) == 0) = false := by rw [beq_eq_false_iff_ne]; omega
        clear h0 Q5
        have C5 := Lib.hid (q6)
        clear q6
        go_wp2_with fail
        with_reducible refine (C5.out).mono ?_
        rintro e w5 ⟨rfl, hb5⟩
        have HX5 := Lib.hid (HX4.out.trans (hb5.mono HX4.out.size))
        have HB5 := Lib.hid (HB4.out.trans (hb5.mono (Nat.le_trans s1 HX4.out.size)))
        clear hb5 C5
        go_wp2
        go_ret
        exact ⟨rfl, HB5.out⟩
end Go.Proofs.Ythbajjkggfgogaa
