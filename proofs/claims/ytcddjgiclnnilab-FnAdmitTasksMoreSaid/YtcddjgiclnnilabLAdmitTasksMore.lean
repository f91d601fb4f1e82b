/-
  THE WALK OF laws.FnAdmitTasksMore.
-/
import Derived.Test.YtcddjgiclnnilabX7
import Derived.Test.YtcddjgiclnnilabRI
import Derived.Test.YtcddjgiclnnilabW41
import Derived.Test.YtcddjgiclnnilabR8
import Derived.Test.YtcddjgiclnnilabMath33
import Derived.Test.YtcddjgiclnnilabMath34
namespace Go.Proofs.Ytcddjgiclnnilab
open Go.RowKit
set_option maxRecDepth 20000 in
set_option maxHeartbeats 6400000 in
theorem fnAdmitTasksMore_walk (A : Option Addr) (c : Nat) (l : List Int) (w : World) (hb : RB w 0 w.heap.size A l) (hlc : l.length ≤ c ∧ c ≤ maxLen) :
    Calls Try.prog 13 #[.slice A l.length c] w fun e w' => e = .returned (.bool true) ∧ Below w.heap.size w w' := by
  have hl63 : l.length ≤ 9223372036854775807 := by have := hlc.2; unfold maxLen at this; omega
  by_cases hbig : 1048576 < l.length
  · go_enter Try.func13, Try.ntmps13
    go_wp2
    go_ret
    exact ⟨rfl, Below.refl _ _⟩
  · have C1 := Lib.hid (DrawAdmitTasks_any A c l w hb hlc.1 hlc.2)
    clear hb
    go_enter Try.func13, Try.ntmps13
    go_wp2_with fail
    refine (C1.out).mono ?_
    rintro e w1 ⟨⟨A1, c1, g, Am, cm, m, Ar, cr, r, Al, cl, q, wk, rfl, hg, hg16, hgc, hcm, hm, hm100, hmc, hmm, hr, hr100, hrc, hrm, hq, hq100, hqc, hqm⟩, hb1⟩
    have HG := Lib.hid hg
    have HM := Lib.hid hm
    have HR := Lib.hid hr
    have HLI := Lib.hid hq
    have s1 := hb1.size
    have hl9 : g.length ≤ 9223372036854775807 := by omega
    have hm9 : m.length ≤ 9223372036854775807 := by omega
    have hr9 : r.length ≤ 9223372036854775807 := by omega
    have hq9 : q.length ≤ 9223372036854775807 := by omega
    have hcl9 : cl ≤ 9223372036854775807 := by unfold maxLen at hqm; omega
    obtain ⟨L, hL⟩ : ∃ L, L = Bs.admL g m r q wk := ⟨_, rfl⟩
    have c2 := AdmitTasks_any A1 c1 g Am cm m Ar cr r Al cl q wk w.heap.size w1.heap.size w.heap.size w1.heap.size w.heap.size w1.heap.size w.heap.size w1.heap.size w1 HG.out (Nat.le_refl _) HM.out (Nat.le_refl _) HR.out (Nat.le_refl _) HLI.out (Nat.le_refl _) hl9 hm9 hr9 hq9
    have hlen : L.length ≤ 1000 := by rw [hL]; have := Bs.admL_len g m r q wk; omega
    rw [← hL] at c2
    have C2 := Lib.hid c2
    have CS := Lib.hid (fun w2 hg hm hr hq hs => AdmitTasksS_any A1 c1 g Am cm m Ar cr r Al cl q wk w.heap.size w1.heap.size w.heap.size w1.heap.size w.heap.size w1.heap.size w.heap.size w1.heap.size w2 hg hs hm hs hr hs hq hs hl9 hm9 hr9 hqc hcl9)
    rw [← hL] at CS
    have HL := Lib.hid hL
    have HB1 := Lib.hid hb1
    clear C1 hg hm hr hq hL c2 hb1
    go_wp2_with fail
    with_reducible refine (C2.out).mono ?_
    rintro e w2 hr2
    obtain ⟨A2, c2, rfl, q2, hb2, hlc2, hcm2⟩ := hr2.ri
    have s2 := hb2.size
    have HQ2 := Lib.hid q2
    have HG2 := Lib.hid (HG.out.below hb2 (Nat.le_refl _))
    have HM2 := Lib.hid (HM.out.below hb2 (Nat.le_refl _))
    have HR2 := Lib.hid (HR.out.below hb2 (Nat.le_refl _))
    have HI2 := Lib.hid (HLI.out.below hb2 (Nat.le_refl _))
    have HB2 := Lib.hid (HB1.out.trans (hb2.mono s1))
    have C3 := Lib.hid (CS.out w2 HG2.out HM2.out HR2.out HI2.out s2)
    clear hr2 q2 hb2 C2 HG HM HR HLI HB1
    go_wp2_with fail
    with_reducible refine (C3.out).mono ?_
    rintro e w3 hr3
    obtain ⟨A3, c3, rfl, q3, hb3, hlc3, hcm3⟩ := hr3.ri
    have s3 := hb3.size
    have C4 := Lib.hid (equalInts_same A2 c2 A3 c3 L _ _ _ _ w3 (HQ2.out.below hb3 (Nat.le_refl _)) q3 (by omega))
    have HG3 := Lib.hid (HG2.out.below hb3 s2)
    have HM3 := Lib.hid (HM2.out.below hb3 s2)
    have HR3 := Lib.hid (HR2.out.below hb3 s2)
    have HI3 := Lib.hid (HI2.out.below hb3 s2)
    have HQ3 := Lib.hid (HQ2.out.below hb3 (Nat.le_refl _))
    have HB3 := Lib.hid (HB2.out.trans (hb3.mono (Nat.le_trans s1 s2)))
    clear hr3 q3 hb3 C3 HQ2 HB2 HG2 HM2 HR2 HI2
    go_wp2_with fail
    with_reducible refine (C4.out).mono ?_
    rintro e w4 ⟨rfl, n, rfl⟩
    clear C4
    obtain ⟨W3, rfl⟩ : ∃ W3, W3 = w3 := ⟨_, rfl⟩
    have hs3 : w1.heap.size ≤ (W3.drewN n).heap.size := Nat.le_trans s2 s3
    by_cases h0 : wk = 4
    · have hq0 : (wk == 4) = true := by simp [h0]
      clear h0 HL
      have hsA : w1.heap.size ≤ (W3.drewN n).heap.size := hs3
      have hsB : w2.heap.size ≤ (W3.drewN n).heap.size := by first | exact s3 | exact hs25 | omega
      go_wp2_with fail
      with_reducible refine (CS.out (W3.drewN n) (HG3.out.drewN n) (HM3.out.drewN n) (HR3.out.drewN n) (HI3.out.drewN n) hsA).mono ?_
      rintro e wA hrA
      obtain ⟨AA, cA, rfl, qA, hbA, _, _⟩ := hrA.ri
      have sA := hbA.size
      have CB := Lib.hid (equalInts_same A2 c2 AA cA L _ _ _ _ wA ((HQ3.out.drewN n).below hbA (by first | exact hsA | exact hsB | omega)) qA (by omega))
      have HBA := Lib.hid ((HB3.out.drewN n).trans (hbA.mono (Nat.le_trans s1 hsA)))
      clear hrA qA hbA
      go_wp2_with fail
      with_reducible refine (CB.out).mono ?_
      rintro e wB ⟨rfl, nB, rfl⟩
      go_wp2
      go_ret
      exact ⟨rfl, HBA.out.drewN _⟩
    · have hq0 : (wk == 4) = false := by rw [beq_eq_false_iff_ne]; omega
      obtain ⟨M, hM⟩ : ∃ M, M = Bs.admL g m r q (wrap64 (wk + 1)) := ⟨_, rfl⟩
      have hMl : M.length ≤ 1000 := by rw [hM]; have := Bs.admL_len g m r q (wrap64 (wk + 1)); omega
      have c5 := AdmitTasks_any A1 c1 g Am cm m Ar cr r Al cl q (wrap64 (wk + 1)) w.heap.size w1.heap.size w.heap.size w1.heap.size w.heap.size w1.heap.size w.heap.size w1.heap.size (W3.drewN n) (HG3.out.drewN n) hs3 (HM3.out.drewN n) hs3 (HR3.out.drewN n) hs3 (HI3.out.drewN n) hs3 hl9 hm9 hr9 hq9
      rw [← hM] at c5
      have C5 := Lib.hid c5
      have HMM := Lib.hid hM
      clear c5 hM CS
      go_wp2_with fail
      with_reducible refine (C5.out).mono ?_
      rintro e w5 hr5
      obtain ⟨A5, c5, rfl, q5, hb5, hlc5, hcm5⟩ := hr5.ri
      have HB5 := Lib.hid (((HB3.out.drewN n).trans (hb5.mono (Nat.le_trans (Nat.le_trans s1 s2) s3))))
      have HQ5 := Lib.hid ((HQ3.out.drewN n).below hb5 s3)
      have HM5 := Lib.hid q5
      clear hr5 q5 hb5 C5 HG3 HM3 HR3 HI3 HQ3 HB3
      obtain ⟨W5, rfl⟩ : ∃ W5, W5 = w5 := ⟨_, rfl⟩
      by_cases hw1 : wk < 1
      · have d1 : decide (wk < 1) = true := by simpa using hw1
        clear hw1 HL HMM h0
        go_wp2
        go_ret
        exact ⟨rfl, HB5.out⟩
      · have d1 : decide (wk < 1) = false := by simpa using hw1
        obtain ⟨f1, f2⟩ := Bs.adm_more_wrap HL.out (show M = Bs.admL g m r q (IntKind.i64.wrap (wk + 1)) from by rw [HMM.out, IntWalk.i64_left]) h0 hw1
        have hT := HM5.out.take L.length
        rw [f2] at hT
        have c6 := equalInts_same A5 c5 A2 c2 L _ _ _ _ W5 hT HQ5.out (by omega)
        have C6 := Lib.hid c6
        have e1 : decide ((L.length : Int) ≤ (M.length : Int)) = true := by simpa using f1
        have e1' : decide (L.length ≤ M.length) = true := by simpa using f1
        have e2 : (0 : Int) ≤ (L.length : Int) := by omega
        have e3 : (L.length : Int) ≤ (c5 : Int) := by omega
        have e4 : L.length ≤ c5 := by omega
        clear c6 f2 hT HL HMM hw1 h0
        go_wp2_with fail
        with_reducible refine (C6.out).mono ?_
        rintro e w6 ⟨rfl, n6, rfl⟩
        go_wp2
        go_ret
        exact ⟨rfl, HB5.out.drewN _⟩
end Go.Proofs.Ytcddjgiclnnilab
