/-
  THE WALK OF laws.FnBestTime.
-/
import Derived.Test.YtgpmnfnliifegaaK26
import Derived.Test.YtgpmnfnliifegaaK25
import Derived.Test.YtgpmnfnliifegaaK23
import Derived.Test.YtgpmnfnliifegaaK14
import Derived.Test.YtgpmnfnliifegaaR34
import Derived.Test.YtgpmnfnliifegaaK32
import Derived.Test.YtgpmnfnliifegaaW86
import Derived.Test.YtgpmnfnliifegaaW56
namespace Go.Proofs.Ytgpmnfnliifegaa
open Go.RowKit
set_option maxRecDepth 20000 in
set_option maxHeartbeats 6400000 in
theorem fnBestTime_walk (A : Option Addr) (c : Nat) (l : List Int) (w : World) (hb : RB w 0 w.heap.size A l) (hlc : l.length ≤ c ∧ c ≤ maxLen) :
    Calls Try.prog 10 #[.slice A l.length c] w fun e w' => e = .returned (.bool true) ∧ Below w.heap.size w w' := by
  have hl63 : l.length ≤ 9223372036854775807 := by have := hlc.2; unfold maxLen at this; omega
  by_cases hbig : 1048576 < l.length
  · go_enter Try.func10, Try.ntmps10
    go_wp2
    go_ret
    exact ⟨rfl, Below.refl _ _⟩
  · have C1 := Lib.hid (DrawBestTime_any A c l w hb hlc.1 hlc.2)
    clear hb
    go_enter Try.func10, Try.ntmps10
    go_wp2_with fail
    refine (C1.out).mono ?_
    rintro e w1 ⟨⟨A1, c1, g, A2, c2, m, wk, rfl, hg, hg16, hgc, hcm, hm, hm100, hmc, hmm⟩, hb1⟩
    have HG := Lib.hid hg
    have HM := Lib.hid hm
    have s1 := hb1.size
    have hl9 : g.length ≤ 9223372036854775807 := by omega
    have hm9 : m.length ≤ 9223372036854775807 := by omega
    have q2 := BestTime_any A1 c1 g A2 c2 m wk w.heap.size w1.heap.size w.heap.size w1.heap.size w1 HG.out (Nat.le_refl _) HM.out (Nat.le_refl _) hl9 hm9
    have qs := fun W hg hm hs => BestTimeS_any A1 c1 g A2 c2 m wk w.heap.size w1.heap.size w.heap.size w1.heap.size W hg hs hm hs hl9 hm9
    have CI := Lib.hid (fun wk' W hg hm hs => BestTime_any A1 c1 g A2 c2 m wk' w.heap.size w1.heap.size w.heap.size w1.heap.size W hg hs hm hs hl9 hm9)
    obtain ⟨V, hV⟩ : ∃ V, V = Bs.timeL g m wk := ⟨_, rfl⟩
    rw [← hV] at q2 qs
    have HV := Lib.hid hV
    have C2 := Lib.hid q2
    have CS := Lib.hid qs
    have HB1 := Lib.hid hb1
    have hne : (V != V) = false := by simp
    have heq : (V == V) = true := by simp
    clear C1 hg hm q2 qs hb1 hV
    go_wp2_with fail
    with_reducible refine (C2.out).mono ?_
    rintro e w2 ⟨rfl, hb2⟩
    have s2 := hb2.size
    have HG2 := Lib.hid (HG.out.below hb2 (Nat.le_refl _))
    have HM2 := Lib.hid (HM.out.below hb2 (Nat.le_refl _))
    have HB2 := Lib.hid (HB1.out.trans (hb2.mono s1))
    have C3 := Lib.hid (CS.out w2 HG2.out HM2.out s2)
    clear hb2 C2 HG HM HB1
    go_wp2_with fail
    with_reducible refine (C3.out).mono ?_
    rintro e w3 ⟨rfl, hb3⟩
    have s3 := hb3.size
    have hs3 : w1.heap.size ≤ w3.heap.size := Nat.le_trans s2 s3
    have HG3 := Lib.hid (HG2.out.below hb3 s2)
    have HM3 := Lib.hid (HM2.out.below hb3 s2)
    have HB3 := Lib.hid (HB2.out.trans (hb3.mono (Nat.le_trans s1 s2)))
    clear hb3 C3 HG2 HM2 HB2
    obtain ⟨W3, rfl⟩ : ∃ W3, W3 = w3 := ⟨_, rfl⟩
    by_cases h0 : V < 0
    · clear HV CI
      have C6 := Lib.hid (CS.out W3 HG3.out HM3.out hs3)
      clear CS
      go_wp2_with fail
      with_reducible refine (C6.out).mono ?_
      rintro e w6 ⟨rfl, hb6⟩
      have HB6 := Lib.hid (HB3.out.trans (hb6.mono (Nat.le_trans s1 hs3)))
      clear hb6 C6
      go_wp2
      go_ret
      exact ⟨rfl, HB6.out⟩
    · clear hne heq CS CI
      obtain ⟨hsea, hve⟩ := Bs.time_sea HV.out h0
      have hcan := (Bs.sea_can hsea).1
      have hst := Bs.planL_valid hcan
      have hdom := Bs.best_dom hst (Int.le_refl wk) hsea
      rw [← HV.out, ← Bs.endT_yes hst] at hdom
      obtain ⟨hstb, hb0, _⟩ := Bs.best_valid hsea
      have hlle := Bs.least_le hstb
      have hlV : leastL g m wk ≤ V := by rw [hve]; exact hlle
      have hpl := Bs.planL_len g m wk
      have hd0 : decide (V < 0) = false := decide_eq_false h0
      have CP := Lib.hid (fun W hg hm hs => PlanStarts_any A1 c1 g A2 c2 m wk w.heap.size w1.heap.size w.heap.size w1.heap.size W hg hs hm hs hl9 hm9)
      have CE := Lib.hid (fun A' c' l2 h2 W hg hm hs (hq : RI W l2 h2 A' (Bs.planL g m wk)) (hh2 : h2 ≤ W.heap.size) => EndTime_any A1 c1 g A2 c2 m A' c' (Bs.planL g m wk) wk w.heap.size w1.heap.size w.heap.size w1.heap.size l2 h2 W hg hs hm hs hq hh2 hl9 hm9 (by omega))
      have CL := Lib.hid (fun W hg hm hs => LeastTime_any A1 c1 g A2 c2 m wk w.heap.size w1.heap.size w.heap.size w1.heap.size W hg hs hm hs hl9 hm9)
      generalize hE : Bs.endT g m wk (Bs.planL g m wk) = E at *
      generalize Bs.planL g m wk = M at *
      generalize leastL g m wk = LT at *
      have d1 : decide (E ≥ V) = true := decide_eq_true hdom
      have d2 : decide (V ≤ E) = true := decide_eq_true hdom
      have d3 : decide (V ≥ LT) = true := decide_eq_true hlV
      have d4 : decide (LT ≤ V) = true := decide_eq_true hlV
      have C4 := Lib.hid (CP.out W3 HG3.out HM3.out hs3)
      have HCE := Lib.hid CE.out
      have HCL := Lib.hid CL.out
      clear HV hsea hve hcan hst hE CP CE CL hdom hlV hstb hlle
      go_wp2_with fail
      with_reducible refine (C4.out).mono ?_
      rintro e w4 ⟨⟨A4, c4, rfl, ho4⟩, hb4⟩
      have s4 : w1.heap.size ≤ w4.heap.size := Nat.le_trans hs3 hb4.size
      have HG4 := Lib.hid (HG3.out.below hb4 hs3)
      have HM4 := Lib.hid (HM3.out.below hb4 hs3)
      have HB4 := Lib.hid (HB3.out.trans (hb4.mono (Nat.le_trans s1 hs3)))
      have C5 := Lib.hid (HCE.out A4 c4 _ _ w4 HG4.out HM4.out s4 ho4.ri (Nat.le_refl _))
      clear hb4 ho4 C4 HCE
      go_wp2_with fail
      with_reducible refine (C5.out).mono ?_
      rintro e w5 ⟨rfl, hb5⟩
      have s5 : w1.heap.size ≤ w5.heap.size := Nat.le_trans s4 hb5.size
      have HG5 := Lib.hid (HG4.out.below hb5 s4)
      have HM5 := Lib.hid (HM4.out.below hb5 s4)
      have HB5 := Lib.hid (HB4.out.trans (hb5.mono (Nat.le_trans s1 s4)))
      have C6 := Lib.hid (HCL.out w5 HG5.out HM5.out s5)
      clear hb5 C5 HCL
      go_wp2_with fail
      with_reducible refine (C6.out).mono ?_
      rintro e w6 ⟨rfl, hb6⟩
      have HB6 := Lib.hid (HB5.out.trans (hb6.mono (Nat.le_trans s1 s5)))
      clear hb6 C6
      go_wp2
      go_ret
      exact ⟨rfl, HB6.out⟩
end Go.Proofs.Ytgpmnfnliifegaa
