/-
  THE WALK OF laws.FnMeetsDeadline.
-/
import Derived.Test.YthbajjkggfgogaaX17
import Derived.Test.YthbajjkggfgogaaMath121
import Derived.Test.YthbajjkggfgogaaW121
import Derived.Test.YthbajjkggfgogaaR81
import Derived.Test.YthbajjkggfgogaaL1
namespace Go.Proofs.Ythbajjkggfgogaa
open Go.RowKit
set_option linter.unusedVariables false
set_option maxRecDepth 20000 in
set_option maxHeartbeats 6400000 in
theorem fnMeetsDeadline_walk (A : Option Addr) (c : Nat) (l : List Int) (w : World) (hb : RB w 0 w.heap.size A l) (hlc : l.length ≤ c ∧ c ≤ maxLen) :
    Calls Try.prog 7 #[.slice A l.length c] w fun e w' => e = .returned (.bool true) ∧ Below w.heap.size w w' := by
  have hl63 : l.length ≤ 9223372036854775807 := by have := hlc.2; unfold maxLen at this; omega
  by_cases hbig : 1048576 < l.length
  · go_enter Try.func7, Try.ntmps7
    go_wp2
    go_ret
    exact ⟨rfl, Below.refl _ _⟩
  · have C1 := Lib.hid (DrawMeetsDeadline_any A c l w hb hlc.1 hlc.2)
    clear hb
    go_enter Try.func7, Try.ntmps7
    go_wp2_with fail
    refine (C1.out).mono ?_
    rintro e w1 ⟨⟨A1, c1, g, A2, c2, m, wk, A3, c3, S, d, rfl, hg, hg16, hgc, hcm, hm, hm100, hmc, hmm, hS, hS100, hSc, hSm⟩, hb1⟩
    have HG := Lib.hid hg
    have HM := Lib.hid hm
    have HS := Lib.hid hS
    have hm9 : m.length ≤ 9223372036854775807 := by omega
    have hS9 : S.length ≤ 9223372036854775807 := by omega
    have s1 := hb1.size
    have hl9 : g.length ≤ 9223372036854775807 := by omega
    have HX1 := Lib.hid (Below.refl w1.heap.size w1)
    have HB1 := Lib.hid hb1
    have QMD := Lib.hid (fun (d : Int) W (hb : Below w1.heap.size w1 W) => MeetsDeadline_any A1 c1 g A2 c2 m A3 c3 S wk d w.heap.size w1.heap.size w.heap.size w1.heap.size w.heap.size w1.heap.size W (HG.out.below hb (Nat.le_refl _)) hb.size (HM.out.below hb (Nat.le_refl _)) hb.size (HS.out.below hb (Nat.le_refl _)) hb.size hl9 hm9 hS9)
    have QMDm := Lib.hid (fun (d : Int) W (hb : Below w1.heap.size w1 W) => MeetsDeadlineS_any A1 c1 g A2 c2 m A3 c3 S wk d w.heap.size w1.heap.size w.heap.size w1.heap.size w.heap.size w1.heap.size W (HG.out.below hb (Nat.le_refl _)) hb.size (HM.out.below hb (Nat.le_refl _)) hb.size (HS.out.below hb (Nat.le_refl _)) hb.size hl9 hm9 hS9)
    have QET := Lib.hid (fun W (hb : Below w1.heap.size w1 W) => EndTime_any A1 c1 g A2 c2 m A3 c3 S wk w.heap.size w1.heap.size w.heap.size w1.heap.size w.heap.size w1.heap.size W (HG.out.below hb (Nat.le_refl _)) hb.size (HM.out.below hb (Nat.le_refl _)) hb.size (HS.out.below hb (Nat.le_refl _)) hb.size hl9 hm9 hS9)
    clear C1 hb1
    obtain ⟨V, hV⟩ : ∃ V, V = Bs.meetB g m wk S d := ⟨_, rfl⟩
    have HV := Lib.hid hV
    have e2 := QMD.out d w1 HX1.out
    have e3 := fun W hb => QMDm.out d W hb
    rw [← hV] at e2 e3
    have E2 := Lib.hid e2
    have CS := Lib.hid e3
    have hne : (V != V) = false := by simp
    have heq : (V == V) = true := by simp
    clear hV e2 e3
    have C2 := Lib.hid (E2.out)
    go_wp2_with fail
    with_reducible refine (C2.out).mono ?_
    rintro e w2 ⟨rfl, hb2⟩
    have HX2 := Lib.hid (HX1.out.trans (hb2.mono HX1.out.size))
    have HB2 := Lib.hid (HB1.out.trans (hb2.mono (Nat.le_trans s1 HX1.out.size)))
    clear hb2 C2
    obtain ⟨E, hE⟩ : ∃ E, E = Bs.endT g m wk S := ⟨_, rfl⟩
    have e4 := QET.out w2 HX2.out
    rw [← hE] at e4
    have HE := Lib.hid hE
    clear hE
    have C3 := Lib.hid (e4)
    clear e4
    go_wp2_with fail
    with_reducible refine (C3.out).mono ?_
    rintro e w3 ⟨rfl, hb3⟩
    have HX3 := Lib.hid (HX2.out.trans (hb3.mono HX2.out.size))
    have HB3 := Lib.hid (HB2.out.trans (hb3.mono (Nat.le_trans s1 HX2.out.size)))
    clear hb3 C3
    have C4 := Lib.hid (CS.out w3 HX3.out)
    go_wp2_with fail
    with_reducible refine (C4.out).mono ?_
    rintro e w4 ⟨rfl, hb4⟩
    have HX4 := Lib.hid (HX3.out.trans (hb4.mono HX3.out.size))
    have HB4 := Lib.hid (HB3.out.trans (hb4.mono (Nat.le_trans s1 HX3.out.size)))
    clear hb4 C4
    have hbool : (V != V) = false := by simp
    by_cases h0 : E < 0
    · have d0 : decide (E < 0) = true := decide_eq_true h0
      clear HV HE h0 QMD
      have C30 := Lib.hid (CS.out w4 HX4.out)
      go_wp2_with fail
      with_reducible refine (C30.out).mono ?_
      rintro e w30 ⟨rfl, hb30⟩
      have HX30 := Lib.hid (HX4.out.trans (hb30.mono HX4.out.size))
      have HB30 := Lib.hid (HB4.out.trans (hb30.mono (Nat.le_trans s1 HX4.out.size)))
      clear hb30 C30
      go_wp2
      go_ret
      exact ⟨rfl, HB30.out⟩
    · have d0 : decide (E < 0) = false := decide_eq_false h0
      by_cases h1 : d < 0
      · have d1 : decide (d < 0) = true := decide_eq_true h1
        clear HV HE h0 h1 QMD
        have C30 := Lib.hid (CS.out w4 HX4.out)
        go_wp2_with fail
        with_reducible refine (C30.out).mono ?_
        rintro e w30 ⟨rfl, hb30⟩
        have HX30 := Lib.hid (HX4.out.trans (hb30.mono HX4.out.size))
        have HB30 := Lib.hid (HB4.out.trans (hb30.mono (Nat.le_trans s1 HX4.out.size)))
        clear hb30 C30
        go_wp2
        go_ret
        exact ⟨rfl, HB30.out⟩
      · have d1 : decide (d < 0) = false := decide_eq_false h1
        by_cases h2 : 200 < d
        · have d2 : decide (200 < d) = true := decide_eq_true h2
          have d3 : decide (d > 200) = true := decide_eq_true h2
          clear HV HE h0 h1 h2 QMD
          have C30 := Lib.hid (CS.out w4 HX4.out)
          go_wp2_with fail
          with_reducible refine (C30.out).mono ?_
          rintro e w30 ⟨rfl, hb30⟩
          have HX30 := Lib.hid (HX4.out.trans (hb30.mono HX4.out.size))
          have HB30 := Lib.hid (HB4.out.trans (hb30.mono (Nat.le_trans s1 HX4.out.size)))
          clear hb30 C30
          go_wp2
          go_ret
          exact ⟨rfl, HB30.out⟩
        · have d2 : decide (200 < d) = false := decide_eq_false h2
          have d3 : decide (d > 200) = false := decide_eq_false h2
          obtain ⟨hst, hec⟩ := Bs.endT_valid HE.out h0
          have hVe : V = decide (E ≤ d) := by rw [HV.out, Bs.meetB_yes hst (by unfold Bs.dlOk; exact decide_eq_true (by omega)), hec]
          by_cases h3 : E ≤ d
          · have hVt : V = true := by rw [hVe]; exact decide_eq_true h3
            have d4 : decide (E ≤ d) = true := decide_eq_true h3
            have hM1 : d ≠ 200 → Bs.meetB g m wk S (d + 1) = true := fun h => by
              rw [Bs.meetB_yes hst (by unfold Bs.dlOk; exact decide_eq_true (by omega))]
              exact decide_eq_true (by omega)
            have HM1 := Lib.hid hM1
            clear HV HE hst hec hVe hM1 CS
            subst hVt
            by_cases h4 : d = 200
            · have d5 : (d == 200) = true := by rw [h4]; rfl
              clear HM1 QMD h0 h1 h2 h3 h4
              go_wp2
              go_ret
              exact ⟨rfl, HB4.out⟩
            · have d5 : (d == 200) = false := by rw [beq_eq_false_iff_ne]; exact h4
              have hw : IntKind.i64.wrap (d + 1) = d + 1 := IntWalk.i64_in _ ⟨by omega, by omega⟩
              have q5 := QMD.out (d + 1) w4 HX4.out
              rw [HM1.out h4] at q5
              clear HM1 QMD h0 h1 h2 h3 h4
              have C5 := Lib.hid (q5)
              clear q5
              go_wp2_with fail
              with_reducible refine (C5.out).mono ?_
              rintro e w5 ⟨rfl, hb5⟩
              have HX5 := Lib.hid (HX4.out.trans (hb5.mono HX4.out.size))
              have HB5 := Lib.hid (HB4.out.trans (hb5.mono (Nat.le_trans s1 HX4.out.size)))
              clear hb5 C5
              go_wp2
              go_ret
              exact ⟨rfl, HB5.out⟩
          · have hVt : V = false := by rw [hVe]; exact decide_eq_false h3
            have d4 : decide (E ≤ d) = false := decide_eq_false h3
            clear HV HE hst hec hVe CS QMD h0 h1 h2 h3
            subst hVt
            go_wp2
            go_ret
            exact ⟨rfl, HB4.out⟩
end Go.Proofs.Ythbajjkggfgogaa
