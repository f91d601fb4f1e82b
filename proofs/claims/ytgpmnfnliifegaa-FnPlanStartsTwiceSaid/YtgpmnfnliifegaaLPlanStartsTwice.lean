/-
  THE WALK OF laws.FnPlanStartsTwice.
-/
import Derived.Test.YtgpmnfnliifegaaK17
import Derived.Test.YtgpmnfnliifegaaMath113
import Derived.Test.YtgpmnfnliifegaaW86
import Derived.Test.YtgpmnfnliifegaaK14
import Derived.Test.YtgpmnfnliifegaaK15
import Derived.Test.YtgpmnfnliifegaaL1
namespace Go.Proofs.Ytgpmnfnliifegaa
open Go.RowKit
set_option linter.unusedVariables false
set_option maxRecDepth 20000 in
set_option maxHeartbeats 6400000 in
theorem fnPlanStartsTwice_walk (A : Option Addr) (c : Nat) (l : List Int) (w : World) (hb : RB w 0 w.heap.size A l) (hlc : l.length ≤ c ∧ c ≤ maxLen) :
    Calls Try.prog 7 #[.slice A l.length c] w fun e w' => e = .returned (.bool true) ∧ Below w.heap.size w w' := by
  have hl63 : l.length ≤ 9223372036854775807 := by have := hlc.2; unfold maxLen at this; omega
  by_cases hbig : 1048576 < l.length
  · go_enter Try.func7, Try.ntmps7
    go_wp2
    go_ret
    exact ⟨rfl, Below.refl _ _⟩
  · have C1 := Lib.hid (DrawPlanStarts_any A c l w hb hlc.1 hlc.2)
    clear hb
    go_enter Try.func7, Try.ntmps7
    go_wp2_with fail
    refine (C1.out).mono ?_
    rintro e w1 ⟨⟨A1, c1, g, A2, c2, m, wk, rfl, hg, hg16, hgc, hcm, hm, hm100, hmc, hmm⟩, hb1⟩
    have HG := Lib.hid hg
    have HM := Lib.hid hm
    have s1 := hb1.size
    have hl9 : g.length ≤ 9223372036854775807 := by omega
    have hm9 : m.length ≤ 9223372036854775807 := by omega
    obtain ⟨L, hL⟩ : ∃ L, L = Bs.planL g m wk := ⟨_, rfl⟩
    have CI := Lib.hid (fun wk' W (hb : Below w1.heap.size w1 W) => PlanStarts_any A1 c1 g A2 c2 m wk' w.heap.size w1.heap.size w.heap.size w1.heap.size W (HG.out.below hb (Nat.le_refl _)) hb.size (HM.out.below hb (Nat.le_refl _)) hb.size hl9 hm9)
    have qs := fun W (hb : Below w1.heap.size w1 W) => PlanStartsS_any A1 c1 g A2 c2 m wk w.heap.size w1.heap.size w.heap.size w1.heap.size W (HG.out.below hb (Nat.le_refl _)) hb.size (HM.out.below hb (Nat.le_refl _)) hb.size hl9 hm9
    have CV := Lib.hid (fun A' c' q l2 h2 W (hb : Below w1.heap.size w1 W) (hq : RI W l2 h2 A' q) (hh2 : h2 ≤ W.heap.size) (hql : q.length ≤ 9223372036854775807) => ValidStarts_any A1 c1 g A2 c2 m A' c' q wk w.heap.size w1.heap.size w.heap.size w1.heap.size l2 h2 W (HG.out.below hb (Nat.le_refl _)) hb.size (HM.out.below hb (Nat.le_refl _)) hb.size hq hh2 hl9 hm9 hql)
    have CE := Lib.hid (fun wk' A' c' q l2 h2 W (hb : Below w1.heap.size w1 W) (hq : RI W l2 h2 A' q) (hh2 : h2 ≤ W.heap.size) (hql : q.length ≤ 9223372036854775807) => EndTime_any A1 c1 g A2 c2 m A' c' q wk' w.heap.size w1.heap.size w.heap.size w1.heap.size l2 h2 W (HG.out.below hb (Nat.le_refl _)) hb.size (HM.out.below hb (Nat.le_refl _)) hb.size hq hh2 hl9 hm9 hql)
    have CR := Lib.hid (fun now A' c' q l2 h2 W (hb : Below w1.heap.size w1 W) (hq : RI W l2 h2 A' q) (hh2 : h2 ≤ W.heap.size) (hql : q.length ≤ 9223372036854775807) => RunningAt_any A1 c1 g A2 c2 m A' c' q wk now w.heap.size w1.heap.size w.heap.size w1.heap.size l2 h2 W (HG.out.below hb (Nat.le_refl _)) hb.size (HM.out.below hb (Nat.le_refl _)) hb.size hq hh2 hl9 hm9 hql)
    have q2 := CI.out wk w1 (Below.refl _ _)
    have hlen : L.length ≤ 1000 := by rw [hL]; exact Nat.le_trans (Bs.planL_len g m wk) (by decide)
    rw [← hL] at q2 qs
    have HL := Lib.hid hL
    have C2 := Lib.hid q2
    have CS := Lib.hid qs
    have HB1 := Lib.hid hb1
    clear C1 q2 qs hb1 hL
    go_wp2_with fail
    with_reducible refine (C2.out).mono ?_
    rintro e w2 ⟨⟨A4, c4, rfl, ho4⟩, hb2⟩
    have s2 := hb2.size
    have hr4 := ho4.ri
    have HX2 := Lib.hid hb2
    have HB2 := Lib.hid (HB1.out.trans (hb2.mono s1))
    have C3 := Lib.hid (CS.out w2 HX2.out)
    clear hb2 ho4 C2
    go_wp2_with fail
    with_reducible refine (C3.out).mono ?_
    rintro e w3 ⟨⟨A5, c5, rfl, ho5⟩, hb3⟩
    have s3 := hb3.size
    have hr43 := hr4.below hb3 (Nat.le_refl _)
    have C4 := Lib.hid (equalInts_same A4 c4 A5 c5 L _ _ _ _ w3 hr43 ho5.ri (by omega))
    have HQ3 := Lib.hid hr43
    have HX3 := Lib.hid (HX2.out.trans (hb3.mono s2))
    have HB3 := Lib.hid (HB2.out.trans (hb3.mono (Nat.le_trans s1 s2)))
    clear hb3 ho5 hr4 hr43 C3
    go_wp2_with fail
    with_reducible refine (C4.out).mono ?_
    rintro e w4 ⟨rfl, n, rfl⟩
    clear C4
    have HQ4 := Lib.hid (HQ3.out.drewN n)
    have HX4 := Lib.hid (HX3.out.drewN n)
    have HB4 := Lib.hid (HB3.out.drewN n)
    have hs24 : w2.heap.size ≤ (w3.drewN n).heap.size := s3
    clear HQ3 HX3 HB3 HX2 HB2
    generalize w3.drewN n = W4 at *
    have hs4 : w1.heap.size ≤ W4.heap.size := HX4.out.size
    by_cases h0 : L.length = 0
    · have hq0 : ((L.length : Int) == 0) = true := by simp [h0]
      clear h0 HL CE CV CR CI hg hm
      have CA := Lib.hid (CS.out W4 HX4.out)
      go_wp2_with fail
      with_reducible refine (CA.out).mono ?_
      rintro e wA ⟨⟨AA, cA, rfl, oA⟩, hbA⟩
      have sA := hbA.size
      have CB := Lib.hid (equalInts_same A4 c4 AA cA L _ _ _ _ wA (HQ4.out.below hbA hs24) oA.ri (by omega))
      have HBA := Lib.hid (HB4.out.trans (hbA.mono (Nat.le_trans s1 hs4)))
      clear hbA oA CA
      go_wp2_with fail
      with_reducible refine (CB.out).mono ?_
      rintro e wB ⟨rfl, nB, rfl⟩
      go_wp2
      go_ret
      exact ⟨rfl, HBA.out.drewN _⟩
    · have hq0 : ((L.length : Int) == 0) = false := by rw [beq_eq_false_iff_ne]; omega
      have hc := (Bs.planL_st HL.out h0).2.2.2
      have hv := (Bs.canV_iff.1 hc).1
      obtain ⟨f1, f2⟩ := Bs.plan_twice HL.out h0
      have hpl := Bs.planL_len g m 1
      have C4 := Lib.hid (CE.out wk A4 c4 L _ _ W4 HX4.out HQ4.out hs24 (by omega))
      have C5 := Lib.hid (fun W hb => CI.out 1 W hb)
      have C6 := Lib.hid (fun A' c' l2 h2 W hb hq hh2 => CE.out 1 A' c' (Bs.planL g m 1) l2 h2 W hb hq hh2 (by omega))
      have cl := fun W (hb : Below w1.heap.size w1 W) => LongestTime_any A1 c1 g w.heap.size w1.heap.size W (HG.out.below hb (Nat.le_refl _)) hb.size hl9
      rw [show longL g = longC g from by unfold longL; rw [hv]; rfl] at cl
      have CL := Lib.hid cl
      clear HL CS CI CV CE CR h0 hg hm hc hv cl
      generalize Bs.endT g m 1 (Bs.planL g m 1) = E1 at *
      generalize Bs.planL g m 1 = M at *
      generalize Bs.endT g m wk L = E at *
      generalize longC g = LC at *
      have d1 : decide (E ≤ E1) = true := decide_eq_true f1
      have d2 : decide (E1 ≥ E) = true := decide_eq_true f1
      have d3 : decide (LC ≤ E) = true := decide_eq_true f2
      have d4 : decide (E ≥ LC) = true := decide_eq_true f2
      clear f1 f2
      go_wp2_with fail
      with_reducible refine (C4.out).mono ?_
      rintro e w5 ⟨rfl, hb5⟩
      have HX5 := Lib.hid (HX4.out.trans (hb5.mono hs4))
      have HB5 := Lib.hid (HB4.out.trans (hb5.mono (Nat.le_trans s1 hs4)))
      have C7 := Lib.hid (C5.out w5 HX5.out)
      have s5 := HX5.out.size
      clear hb5 C4 C5
      go_wp2_with fail
      with_reducible refine (C7.out).mono ?_
      rintro e w6 ⟨⟨A6, c6, rfl, ho6⟩, hb6⟩
      have HX6 := Lib.hid (HX5.out.trans (hb6.mono s5))
      have HB6 := Lib.hid (HB5.out.trans (hb6.mono (Nat.le_trans s1 s5)))
      have C8 := Lib.hid (C6.out A6 c6 _ _ w6 HX6.out ho6.ri (Nat.le_refl _))
      have s6 := HX6.out.size
      clear hb6 ho6 C7 C6
      go_wp2_with fail
      with_reducible refine (C8.out).mono ?_
      rintro e w7 ⟨rfl, hb7⟩
      have HX7 := Lib.hid (HX6.out.trans (hb7.mono s6))
      have HB7 := Lib.hid (HB6.out.trans (hb7.mono (Nat.le_trans s1 s6)))
      have C9 := Lib.hid (CL.out w7 HX7.out)
      have s7 := HX7.out.size
      clear hb7 C8
      go_wp2_with fail
      with_reducible refine (C9.out).mono ?_
      rintro e w8 ⟨rfl, hb8⟩
      have HB8 := Lib.hid (HB7.out.trans (hb8.mono (Nat.le_trans s1 s7)))
      clear hb8 C9
      go_wp2
      go_ret
      exact ⟨rfl, HB8.out⟩
end Go.Proofs.Ytgpmnfnliifegaa
