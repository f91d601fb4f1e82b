/-
  THE WALK OF laws.FnPlanStartsFirst.
-/
import Derived.Test.YtgpmnfnliifegaaK17
import Derived.Test.YtgpmnfnliifegaaMath113
import Derived.Test.YtgpmnfnliifegaaW86
import Derived.Test.YtgpmnfnliifegaaK14
import Derived.Test.YtgpmnfnliifegaaK15
import Derived.Test.YtgpmnfnliifegaaL1
import Derived.Test.YtgpmnfnliifegaaW45
namespace Go.Proofs.Ytgpmnfnliifegaa
open Go.RowKit
set_option linter.unusedVariables false
set_option maxRecDepth 20000 in
set_option maxHeartbeats 6400000 in
theorem fnPlanStartsFirst_walk (A : Option Addr) (c : Nat) (l : List Int) (w : World) (hb : RB w 0 w.heap.size A l) (hlc : l.length ≤ c ∧ c ≤ maxLen) :
    Calls Try.prog 6 #[.slice A l.length c] w fun e w' => e = .returned (.bool true) ∧ Below w.heap.size w w' := by
  have hl63 : l.length ≤ 9223372036854775807 := by have := hlc.2; unfold maxLen at this; omega
  by_cases hbig : 1048576 < l.length
  · go_enter Try.func6, Try.ntmps6
    go_wp2
    go_ret
    exact ⟨rfl, Below.refl _ _⟩
  · have C1 := Lib.hid (DrawPlanStarts_any A c l w hb hlc.1 hlc.2)
    clear hb
    go_enter Try.func6, Try.ntmps6
    go_wp2_with fail
    refine (C1.out).mono ?_
    rintro e w1 ⟨⟨A1, c1, g, A2, c2, m, wk, rfl, hg, hg16, hgc, hcm, hm, hm100, hmc, hmm⟩, hb1⟩
    have HG := Lib.hid hg
    have HM := Lib.hid hm
    have s1 := hb1.size
    have hl9 : g.length ≤ 9223372036854775807 := by omega
    have hm9 : m.length ≤ 9223372036854775807 := by omega
    obtain ⟨L, hL⟩ : ∃ L, L = Bs.planL g m wk := ⟨_, rfl⟩
    have CI := Lib.hid (fun wk' W (hb : Below w1.heap.size w1 W) => PlanStarts_any A1 c1 g A2 c2 m wk' w.heap.size w1.heap.size w.heap.size w1.heap.size W (HG.out.below hb (Nat.le_refl _)) hb.size (HM.out.below hb (Nat.le_refl _)) hb.size hl9 hm9)
    have qs := fun W (hb : Below w1.heap.size w1 W) => PlanStartsS_any A1 c1 g A2 c2 m wk w.heap.size w1.heap.size w.heap.size w1.heap.size W (HG.out.below hb (Nat.le_refl _)) hb.size (HM.out.below hb (Nat.le_refl _)) hb.size hl9 hm9
    have CV := Lib.hid (fun A' c' q l2 h2 W (hb : Below w1.heap.size w1 W) (hq : RI W l2 h2 A' q) (hh2 : h2 ≤ W.heap.size) (hql : q.length ≤ 9223372036854775807) => ValidStarts_any A1 c1 g A2 c2 m A' c' q wk w.heap.size w1.heap.size w.heap.size w1.heap.size l2 h2 W (HG.out.below hb (Nat.le_refl _)) hb.size (HM.out.below hb (Nat.le_refl _)) hb.size hq hh2 hl9 hm9 hql)
    have CE := Lib.hid (fun wk' A' c' q l2 h2 W (hb : Below w1.heap.size w1 W) (hq : RI W l2 h2 A' q) (hh2 : h2 ≤ W.heap.size) (hql : q.length ≤ 9223372036854775807) => EndTime_any A1 c1 g A2 c2 m A' c' q wk' w.heap.size w1.heap.size w.heap.size w1.heap.size l2 h2 W (HG.out.below hb (Nat.le_refl _)) hb.size (HM.out.below hb (Nat.le_refl _)) hb.size hq hh2 hl9 hm9 hql)
    have CR := Lib.hid (fun now A' c' q l2 h2 W (hb : Below w1.heap.size w1 W) (hq : RI W l2 h2 A' q) (hh2 : h2 ≤ W.heap.size) (hql : q.length ≤ 9223372036854775807) => RunningAt_any A1 c1 g A2 c2 m A' c' q wk now w.heap.size w1.heap.size w.heap.size w1.heap.size l2 h2 W (HG.out.below hb (Nat.le_refl _)) hb.size (HM.out.below hb (Nat.le_refl _)) hb.size hq hh2 hl9 hm9 hql)
    have q2 := CI.out wk w1 (Below.refl _ _)
    have hlen : L.length ≤ 1000 := by rw [hL]; exact Nat.le_trans (Bs.planL_len g m wk) (by decide)
    rw [← hL] at q2 qs
    have HL := Lib.hid hL
    have C2 := Lib.hid q2
    have CS := Lib.hid qs
    have HB1 := Lib.hid hb1
    clear C1 q2 qs hb1 hL
    go_wp2_with fail
    with_reducible refine (C2.out).mono ?_
    rintro e w2 ⟨⟨A4, c4, rfl, ho4⟩, hb2⟩
    have s2 := hb2.size
    have hr4 := ho4.ri
    have HX2 := Lib.hid hb2
    have HB2 := Lib.hid (HB1.out.trans (hb2.mono s1))
    have C3 := Lib.hid (CS.out w2 HX2.out)
    clear hb2 ho4 C2
    go_wp2_with fail
    with_reducible refine (C3.out).mono ?_
    rintro e w3 ⟨⟨A5, c5, rfl, ho5⟩, hb3⟩
    have s3 := hb3.size
    have hr43 := hr4.below hb3 (Nat.le_refl _)
    have C4 := Lib.hid (equalInts_same A4 c4 A5 c5 L _ _ _ _ w3 hr43 ho5.ri (by omega))
    have HQ3 := Lib.hid hr43
    have HX3 := Lib.hid (HX2.out.trans (hb3.mono s2))
    have HB3 := Lib.hid (HB2.out.trans (hb3.mono (Nat.le_trans s1 s2)))
    clear hb3 ho5 hr4 hr43 C3
    go_wp2_with fail
    with_reducible refine (C4.out).mono ?_
    rintro e w4 ⟨rfl, n, rfl⟩
    clear C4
    have HQ4 := Lib.hid (HQ3.out.drewN n)
    have HX4 := Lib.hid (HX3.out.drewN n)
    have HB4 := Lib.hid (HB3.out.drewN n)
    have hs24 : w2.heap.size ≤ (w3.drewN n).heap.size := s3
    clear HQ3 HX3 HB3 HX2 HB2
    generalize w3.drewN n = W4 at *
    have hs4 : w1.heap.size ≤ W4.heap.size := HX4.out.size
    by_cases h0 : L.length = 0
    · have hq0 : ((L.length : Int) == 0) = true := by simp [h0]
      clear h0 HL CE CV CR CI hg hm
      have CA := Lib.hid (CS.out W4 HX4.out)
      go_wp2_with fail
      with_reducible refine (CA.out).mono ?_
      rintro e wA ⟨⟨AA, cA, rfl, oA⟩, hbA⟩
      have sA := hbA.size
      have CB := Lib.hid (equalInts_same A4 c4 AA cA L _ _ _ _ wA (HQ4.out.below hbA hs24) oA.ri (by omega))
      have HBA := Lib.hid (HB4.out.trans (hbA.mono (Nat.le_trans s1 hs4)))
      clear hbA oA CA
      go_wp2_with fail
      with_reducible refine (CB.out).mono ?_
      rintro e wB ⟨rfl, nB, rfl⟩
      go_wp2
      go_ret
      exact ⟨rfl, HBA.out.drewN _⟩
    · have hq0 : ((L.length : Int) == 0) = false := by rw [beq_eq_false_iff_ne]; omega
      obtain ⟨f0, f1, f2, f3⟩ := Bs.plan_first HL.out h0
      obtain ⟨R, hR⟩ : ∃ R, R = Bs.ordL g [] := ⟨_, rfl⟩
      have C5 := Lib.hid (fun W (hb : Below w1.heap.size w1 W) (hq : RI W 0 0 none []) => show Calls Try.prog 21 #[.slice A1 g.length c1, .slice none 0 0] W (RetI W (Bs.ordL g [])) from ReadyOrder_any A1 c1 g none 0 [] w.heap.size w1.heap.size 0 0 W (HG.out.below hb (Nat.le_refl _)) hb.size hq (Nat.zero_le _) hl9 (by simp))
      rw [← hR] at f0 f1 f2 f3 C5
      obtain ⟨x, hx⟩ : ∃ x : Nat, Bs.giZ R 0 = x := ⟨(Bs.giZ R 0).toNat, by omega⟩
      rw [hx] at f1 f2 f3
      rw [Int.toNat_natCast] at f3
      have C6 := Lib.hid (C5.out W4 HX4.out RI.nil)
      have HXR := Lib.hid hx
      clear HL CS CI CV CE CR h0 hg hm C5 hR hx
      have d1 : decide ((0 : Int) < (R.length : Int)) = true := decide_eq_true (by omega)
      have d2 : decide ((R.length : Int) > 0) = true := decide_eq_true (by omega)
      have d3 : decide ((x : Int) < (L.length : Int)) = true := decide_eq_true (by omega)
      have i0 : (0 : Int) ≤ (x : Int) := by omega
      go_wp2_with fail
      with_reducible refine (C6.out).mono ?_
      rintro e w5 ⟨⟨A5, c5, rfl, ho5⟩, hb5⟩
      have HB5 := Lib.hid (HB4.out.trans (hb5.mono (Nat.le_trans s1 hs4)))
      obtain ⟨b5, o5, e5, _, _, k5⟩ := ho5.ri.at_ (k := 0) f0
      obtain ⟨b4, o4, e4, _, _, k4⟩ := (HQ4.out.below hb5 hs24).at_ (k := x) (by omega)
      subst e5
      subst e4
      rw [← Bs.giZ_at f0, HXR.out] at k5
      simp only [Nat.add_zero] at k5
      rw [← Bs.giZ_at (by omega), f3] at k4
      clear hb5 C6 ho5 f1 f3
      go_wp2
      go_ret
      exact ⟨rfl, HB5.out⟩
end Go.Proofs.Ytgpmnfnliifegaa
