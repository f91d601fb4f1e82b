/-
  THE WALK OF laws.FnWorkersForLater.
-/
import Derived.Test.YthbajjkggfgogaaX17
import Derived.Test.YthbajjkggfgogaaMath121
import Derived.Test.YthbajjkggfgogaaW121
import Derived.Test.YthbajjkggfgogaaR81
import Derived.Test.YthbajjkggfgogaaL1
namespace Go.Proofs.Ythbajjkggfgogaa
open Go.RowKit
set_option linter.unusedVariables false
set_option maxRecDepth 20000 in
set_option maxHeartbeats 6400000 in
theorem fnWorkersForLater_walk (A : Option Addr) (c : Nat) (l : List Int) (w : World) (hb : RB w 0 w.heap.size A l) (hlc : l.length ≤ c ∧ c ≤ maxLen) :
    Calls Try.prog 13 #[.slice A l.length c] w fun e w' => e = .returned (.bool true) ∧ Below w.heap.size w w' := by
  have hl63 : l.length ≤ 9223372036854775807 := by have := hlc.2; unfold maxLen at this; omega
  by_cases hbig : 1048576 < l.length
  · go_enter Try.func13, Try.ntmps13
    go_wp2
    go_ret
    exact ⟨rfl, Below.refl _ _⟩
  · have C1 := Lib.hid (DrawWorkersFor_any A c l w hb hlc.1 hlc.2)
    clear hb
    go_enter Try.func13, Try.ntmps13
    go_wp2_with fail
    refine (C1.out).mono ?_
    rintro e w1 ⟨⟨A1, c1, g, A2, c2, m, d, rfl, hg, hg16, hgc, hcm, hm, hm100, hmc, hmm⟩, hb1⟩
    have HG := Lib.hid hg
    have HM := Lib.hid hm
    have hm9 : m.length ≤ 9223372036854775807 := by omega
    have s1 := hb1.size
    have hl9 : g.length ≤ 9223372036854775807 := by omega
    have HX1 := Lib.hid (Below.refl w1.heap.size w1)
    have HB1 := Lib.hid hb1
    have QWF := Lib.hid (fun (d : Int) W (hb : Below w1.heap.size w1 W) => WorkersFor_any A1 c1 g A2 c2 m d w.heap.size w1.heap.size w.heap.size w1.heap.size W (HG.out.below hb (Nat.le_refl _)) hb.size (HM.out.below hb (Nat.le_refl _)) hb.size hl9 hm9)
    have QWFm := Lib.hid (fun (d : Int) W (hb : Below w1.heap.size w1 W) => WorkersForS_any A1 c1 g A2 c2 m d w.heap.size w1.heap.size w.heap.size w1.heap.size W (HG.out.below hb (Nat.le_refl _)) hb.size (HM.out.below hb (Nat.le_refl _)) hb.size hl9 hm9)
    clear C1 hb1
    obtain ⟨V, hV⟩ : ∃ V, V = Bs.wrkL g m d := ⟨_, rfl⟩
    have HV := Lib.hid hV
    have e2 := QWF.out d w1 HX1.out
    have e3 := fun W hb => QWFm.out d W hb
    rw [← hV] at e2 e3
    have E2 := Lib.hid e2
    have CS := Lib.hid e3
    have hne : (V != V) = false := by simp
    have heq : (V == V) = true := by simp
    clear hV e2 e3
    have C2 := Lib.hid (E2.out)
    go_wp2_with fail
    with_reducible refine (C2.out).mono ?_
    rintro e w2 ⟨rfl, hb2⟩
    have HX2 := Lib.hid (HX1.out.trans (hb2.mono HX1.out.size))
    have HB2 := Lib.hid (HB1.out.trans (hb2.mono (Nat.le_trans s1 HX1.out.size)))
    clear hb2 C2
    have C3 := Lib.hid (CS.out w2 HX2.out)
    go_wp2_with fail
    with_reducible refine (C3.out).mono ?_
    rintro e w3 ⟨rfl, hb3⟩
    have HX3 := Lib.hid (HX2.out.trans (hb3.mono HX2.out.size))
    have HB3 := Lib.hid (HB2.out.trans (hb3.mono (Nat.le_trans s1 HX2.out.size)))
    clear hb3 C3
    by_cases h0 : V < 0
    · have d0 : decide (V < 0) = true := decide_eq_true h0
      clear HV h0 QWF
      have C30 := Lib.hid (CS.out w3 HX3.out)
      go_wp2_with fail
      with_reducible refine (C30.out).mono ?_
      rintro e w30 ⟨rfl, hb30⟩
      have HX30 := Lib.hid (HX3.out.trans (hb30.mono HX3.out.size))
      have HB30 := Lib.hid (HB3.out.trans (hb30.mono (Nat.le_trans s1 HX3.out.size)))
      clear hb30 C30
      go_wp2
      go_ret
      exact ⟨rfl, HB30.out⟩
    · have d0 : decide (V < 0) = false := decide_eq_false h0
      by_cases h1 : d = 200
      · have d1 : (d == 200) = true := by rw [h1]; rfl
        clear HV h0 h1 QWF
        have C30 := Lib.hid (CS.out w3 HX3.out)
        go_wp2_with fail
        with_reducible refine (C30.out).mono ?_
        rintro e w30 ⟨rfl, hb30⟩
        have HX30 := Lib.hid (HX3.out.trans (hb30.mono HX3.out.size))
        have HB30 := Lib.hid (HB3.out.trans (hb30.mono (Nat.le_trans s1 HX3.out.size)))
        clear hb30 C30
        go_wp2
        go_ret
        exact ⟨rfl, HB30.out⟩
      · have d1 : (d == 200) = false := by rw [beq_eq_false_iff_ne]; exact h1
        obtain ⟨_, _, hdb, _⟩ := Bs.wrkL_ok HV.out h0
        obtain ⟨k1, k2⟩ := Bs.wrkL_later HV.out h0 h1
        have hw : IntKind.i64.wrap (d + 1) = d + 1 := IntWalk.i64_in _ ⟨by omega, by omega⟩
        have q4 := QWF.out (d + 1) w3 HX3.out
        generalize Bs.wrkL g m (d + 1) = K at *
        have d2 : decide (K ≥ 1) = true := decide_eq_true k1
        have d3 : decide ((1 : Int) ≤ K) = true := decide_eq_true k1
        have d4 : decide (K ≤ V) = true := decide_eq_true k2
        clear HV h0 h1 QWF CS k1 k2 hne heq
        have C4 := Lib.hid (q4)
        clear q4
        go_wp2_with fail
        with_reducible refine (C4.out).mono ?_
        rintro e w4 ⟨rfl, hb4⟩
        have HX4 := Lib.hid (HX3.out.trans (hb4.mono HX3.out.size))
        have HB4 := Lib.hid (HB3.out.trans (hb4.mono (Nat.le_trans s1 HX3.out.size)))
        clear hb4 C4
        go_wp2
        go_ret
        exact ⟨rfl, HB4.out⟩
end Go.Proofs.Ythbajjkggfgogaa
