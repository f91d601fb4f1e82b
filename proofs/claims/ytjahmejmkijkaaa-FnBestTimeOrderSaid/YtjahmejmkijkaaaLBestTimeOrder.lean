/-
  THE WALK OF laws.FnBestTimeOrder.
-/
import Derived.Test.YtjahmejmkijkaaaX9
import Derived.Test.YtjahmejmkijkaaaK18
import Derived.Test.YtjahmejmkijkaaaK19
import Derived.Test.YtjahmejmkijkaaaK20
import Derived.Test.YtjahmejmkijkaaaK23
import Derived.Test.YtjahmejmkijkaaaMath65
import Derived.Test.YtjahmejmkijkaaaK14
namespace Go.Proofs.Ytjahmejmkijkaaa
open Go.RowKit
set_option maxRecDepth 20000 in
set_option maxHeartbeats 6400000 in
theorem fnBestTimeOrder_walk (A : Option Addr) (c : Nat) (l : List Int) (w : World) (hb : RB w 0 w.heap.size A l) (hlc : l.length ≤ c ∧ c ≤ maxLen) :
    Calls Try.prog 5 #[.slice A l.length c] w fun e w' => e = .returned (.bool true) ∧ Below w.heap.size w w' := by
  have hl63 : l.length ≤ 9223372036854775807 := by have := hlc.2; unfold maxLen at this; omega
  by_cases hbig : 1048576 < l.length
  · go_enter Try.func5, Try.ntmps5
    go_wp2
    go_ret
    exact ⟨rfl, Below.refl _ _⟩
  · have C1 := Lib.hid (DrawOrderStarts_any A c l w hb hlc.1 hlc.2)
    clear hb
    go_enter Try.func5, Try.ntmps5
    go_wp2_with fail
    refine (C1.out).mono ?_
    rintro e w1 ⟨⟨A1, c1, g, Am, cm, m, wk, Al, cl, q, rfl, hg, hg16, hgc, hcm, hm, hm100, hmc, hmm, hq, hq100, hqc, hqm⟩, hb1⟩
    have HG := Lib.hid hg
    have HM := Lib.hid hm
    have HLI := Lib.hid hq
    have s1 := hb1.size
    have hl9 : g.length ≤ 9223372036854775807 := by omega
    have hm9 : m.length ≤ 9223372036854775807 := by omega
    have hq9 : q.length ≤ 9223372036854775807 := by omega
    obtain ⟨L, hL⟩ : ∃ L, L = Bs.osL g m wk q := ⟨_, rfl⟩
    have c2 := OrderStarts_any A1 c1 g Am cm m Al cl q wk w.heap.size w1.heap.size w.heap.size w1.heap.size w.heap.size w1.heap.size w1 HG.out (Nat.le_refl _) HM.out (Nat.le_refl _) HLI.out (Nat.le_refl _) hl9 hm9 hq9
    have hlen : L.length ≤ 5 := by rw [hL]; exact Bs.osL_len g m wk q
    rw [← hL] at c2
    have C2 := Lib.hid c2
    have CS := Lib.hid (fun w2 hg hm hq hs => OrderStartsS_any A1 c1 g Am cm m Al cl q wk w.heap.size w1.heap.size w.heap.size w1.heap.size w.heap.size w1.heap.size w2 hg hs hm hs hq hs hl9 hm9 hqc hq9)
    rw [← hL] at CS
    have HL := Lib.hid hL
    have HB1 := Lib.hid hb1
    clear C1 hg hm hq hL c2 hb1
    go_wp2_with fail
    with_reducible refine (C2.out).mono ?_
    rintro e w2 hr2
    obtain ⟨A2, c2, rfl, q2, hb2, hlc2, hcm2⟩ := hr2.ri
    have s2 := hb2.size
    have HQ2 := Lib.hid q2
    have HG2 := Lib.hid (HG.out.below hb2 (Nat.le_refl _))
    have HM2 := Lib.hid (HM.out.below hb2 (Nat.le_refl _))
    have HI2 := Lib.hid (HLI.out.below hb2 (Nat.le_refl _))
    have HB2 := Lib.hid (HB1.out.trans (hb2.mono s1))
    have C3 := Lib.hid (CS.out w2 HG2.out HM2.out HI2.out s2)
    clear hr2 q2 hb2 C2 HG HM HLI HB1
    go_wp2_with fail
    with_reducible refine (C3.out).mono ?_
    rintro e w3 hr3
    obtain ⟨A3, c3, rfl, q3, hb3, hlc3, hcm3⟩ := hr3.ri
    have s3 := hb3.size
    have C4 := Lib.hid (equalInts_same A2 c2 A3 c3 L _ _ _ _ w3 (HQ2.out.below hb3 (Nat.le_refl _)) q3 (by omega))
    have HG3 := Lib.hid (HG2.out.below hb3 s2)
    have HM3 := Lib.hid (HM2.out.below hb3 s2)
    have HI3 := Lib.hid (HI2.out.below hb3 s2)
    have HQ3 := Lib.hid (HQ2.out.below hb3 (Nat.le_refl _))
    have HB3 := Lib.hid (HB2.out.trans (hb3.mono (Nat.le_trans s1 s2)))
    clear hr3 q3 hb3 C3 HQ2 HB2 HG2 HM2 HI2
    go_wp2_with fail
    with_reducible refine (C4.out).mono ?_
    rintro e w4 ⟨rfl, n, rfl⟩
    clear C4
    obtain ⟨W3, rfl⟩ : ∃ W3, W3 = w3 := ⟨_, rfl⟩
    have hs3 : w1.heap.size ≤ (W3.drewN n).heap.size := Nat.le_trans s2 s3
    have hs32 : w2.heap.size ≤ (W3.drewN n).heap.size := s3
    by_cases h0 : L.length = 0
    · have hq0 : ((L.length : Int) == 0) = true := by simp [h0]
      clear h0 HL
      have hsA : w1.heap.size ≤ (W3.drewN n).heap.size := hs3
      have hsB : w2.heap.size ≤ (W3.drewN n).heap.size := by first | exact s3 | exact hs25 | omega
      go_wp2_with fail
      with_reducible refine (CS.out (W3.drewN n) (HG3.out.drewN n) (HM3.out.drewN n) (HI3.out.drewN n) hsA).mono ?_
      rintro e wA hrA
      obtain ⟨AA, cA, rfl, qA, hbA, _, _⟩ := hrA.ri
      have sA := hbA.size
      have CB := Lib.hid (equalInts_same A2 c2 AA cA L _ _ _ _ wA ((HQ3.out.drewN n).below hbA (by first | exact hsA | exact hsB | omega)) qA (by omega))
      have HBA := Lib.hid ((HB3.out.drewN n).trans (hbA.mono (Nat.le_trans s1 hsA)))
      clear hrA qA hbA
      go_wp2_with fail
      with_reducible refine (CB.out).mono ?_
      rintro e wB ⟨rfl, nB, rfl⟩
      go_wp2
      go_ret
      exact ⟨rfl, HBA.out.drewN _⟩
    · have hq0 : ((L.length : Int) == 0) = false := by rw [beq_eq_false_iff_ne]; omega
      obtain ⟨hst, hle⟩ := Bs.time_law HL.out h0
      have c5 := EndTime_any A1 c1 g Am cm m A2 c2 L wk w.heap.size w1.heap.size w.heap.size w1.heap.size _ _ (W3.drewN n) (HG3.out.drewN n) hs3 (HM3.out.drewN n) hs3 (HQ3.out.drewN n) hs32 hl9 hm9 (by omega)
      rw [Bs.endT_yes hst] at c5
      have c6 := fun W (hb : Below w2.heap.size (W3.drewN n) W) => BestTime_any A1 c1 g Am cm m wk w.heap.size w1.heap.size w.heap.size w1.heap.size W ((HG3.out.drewN n).below hb s2) (Nat.le_trans hs3 hb.size) ((HM3.out.drewN n).below hb s2) (Nat.le_trans hs3 hb.size) hl9 hm9
      have C5 := Lib.hid c5
      have C6 := Lib.hid c6
      generalize Bs.endC g L = E at *
      generalize Bs.timeL g m wk = T at *
      have d1 : decide (E ≥ T) = true := by simpa using hle
      have d2 : decide (T ≤ E) = true := by simpa using hle
      clear c5 c6 hst hle HL CS h0
      go_wp2_with fail
      with_reducible refine (C5.out).mono ?_
      rintro e w5 ⟨rfl, hb5⟩
      have hb25 := hb5.mono hs32
      have HB5 := Lib.hid ((HB3.out.drewN n).trans (hb5.mono (Nat.le_trans s1 hs3)))
      have C6b := Lib.hid (C6.out w5 hb25)
      clear hb5 C5
      go_wp2_with fail
      with_reducible refine (C6b.out).mono ?_
      rintro e w6 ⟨rfl, hb6⟩
      have HB6 := Lib.hid (HB5.out.trans (hb6.mono HB5.out.size))
      clear hb6 C6 C6b
      go_wp2
      go_ret
      exact ⟨rfl, HB6.out⟩
end Go.Proofs.Ytjahmejmkijkaaa
