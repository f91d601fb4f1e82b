/-
  THE WALK OF laws.FnRunningAtEnd.
-/
import Derived.Test.YtnbgekbfccejdacK17
import Derived.Test.YtnbgekbfccejdacK16
import Derived.Test.YtnbgekbfccejdacK14
import Derived.Test.YtnbgekbfccejdacK15
namespace Go.Proofs.Ytnbgekbfccejdac
open Go.RowKit
set_option maxRecDepth 20000 in
set_option maxHeartbeats 6400000 in
theorem fnRunningAtEnd_walk (A : Option Addr) (c : Nat) (l : List Int) (w : World) (hb : RB w 0 w.heap.size A l) (hlc : l.length ≤ c ∧ c ≤ maxLen) :
    Calls Try.prog 5 #[.slice A l.length c] w fun e w' => e = .returned (.bool true) ∧ Below w.heap.size w w' := by
  have hl63 : l.length ≤ 9223372036854775807 := by have := hlc.2; unfold maxLen at this; omega
  by_cases hbig : 1048576 < l.length
  · go_enter Try.func5, Try.ntmps5
    go_wp2
    go_ret
    exact ⟨rfl, Below.refl _ _⟩
  · have C1 := Lib.hid (DrawRunningAt_any A c l w hb hlc.1 hlc.2)
    clear hb
    go_enter Try.func5, Try.ntmps5
    go_wp2_with fail
    refine (C1.out).mono ?_
    rintro e w1 ⟨⟨A1, c1, g, A2, c2, m, wk, A3, c3, S, now, rfl, hg, hg16, hgc, hcm, hm, hm100, hmc, hmm, hS, hS100, hSc, hSm⟩, hb1⟩
    have HG := Lib.hid hg
    have HM := Lib.hid hm
    have HS := Lib.hid hS
    have s1 := hb1.size
    have hl9 : g.length ≤ 9223372036854775807 := by omega
    have hm9 : m.length ≤ 9223372036854775807 := by omega
    have hS9 : S.length ≤ 9223372036854775807 := by omega
    obtain ⟨L, hL⟩ : ∃ L, L = Bs.runL g m wk S now := ⟨_, rfl⟩
    have q2 := RunningAt_any A1 c1 g A2 c2 m A3 c3 S wk now w.heap.size w1.heap.size w.heap.size w1.heap.size w.heap.size w1.heap.size w1 HG.out (Nat.le_refl _) HM.out (Nat.le_refl _) HS.out (Nat.le_refl _) hl9 hm9 hS9
    have qs := fun W hg hm hr hs => RunningAtS_any A1 c1 g A2 c2 m A3 c3 S wk now w.heap.size w1.heap.size w.heap.size w1.heap.size w.heap.size w1.heap.size W hg hs hm hs hr hs hl9 hm9 hS9
    have qv := fun W hg hm hr hs => ValidStarts_any A1 c1 g A2 c2 m A3 c3 S wk w.heap.size w1.heap.size w.heap.size w1.heap.size w.heap.size w1.heap.size W hg hs hm hs hr hs hl9 hm9 hS9
    have qr := fun now' W hg hm hr hs => RunningAt_any A1 c1 g A2 c2 m A3 c3 S wk now' w.heap.size w1.heap.size w.heap.size w1.heap.size w.heap.size w1.heap.size W hg hs hm hs hr hs hl9 hm9 hS9
    have qe := fun W hg hm hr hs => EndTime_any A1 c1 g A2 c2 m A3 c3 S wk w.heap.size w1.heap.size w.heap.size w1.heap.size w.heap.size w1.heap.size W hg hs hm hs hr hs hl9 hm9 hS9
    have hlen : L.length ≤ 1000 := by rw [hL]; exact runL_k g m wk S now
    rw [← hL] at q2 qs
    have HL := Lib.hid hL
    have C2 := Lib.hid q2
    have CS := Lib.hid qs
    have CV := Lib.hid qv
    have CR := Lib.hid qr
    have CE := Lib.hid qe
    have HB1 := Lib.hid hb1
    clear C1 hg hm hS q2 qs qv qr qe hb1 hL
    go_wp2_with fail
    with_reducible refine (C2.out).mono ?_
    rintro e w2 hr2
    obtain ⟨A4, c4, rfl, q4, hb2, hlc4, hcm4⟩ := hr2.ri
    have s2 := hb2.size
    have HQ2 := Lib.hid q4
    have HG2 := Lib.hid (HG.out.below hb2 (Nat.le_refl _))
    have HM2 := Lib.hid (HM.out.below hb2 (Nat.le_refl _))
    have HS2 := Lib.hid (HS.out.below hb2 (Nat.le_refl _))
    have HB2 := Lib.hid (HB1.out.trans (hb2.mono s1))
    have C3 := Lib.hid (CS.out w2 HG2.out HM2.out HS2.out s2)
    clear hb2 hr2 q4 C2 HG HM HS HB1
    go_wp2_with fail
    with_reducible refine (C3.out).mono ?_
    rintro e w3 hr3
    obtain ⟨A5, c5, rfl, q5, hb3, hlc5, hcm5⟩ := hr3.ri
    have s3 := hb3.size
    have hs3 : w1.heap.size ≤ w3.heap.size := Nat.le_trans s2 s3
    have HQ3 := Lib.hid (HQ2.out.below hb3 (Nat.le_refl _))
    have HG3 := Lib.hid (HG2.out.below hb3 s2)
    have HM3 := Lib.hid (HM2.out.below hb3 s2)
    have HS3 := Lib.hid (HS2.out.below hb3 s2)
    have HB3 := Lib.hid (HB2.out.trans (hb3.mono (Nat.le_trans s1 s2)))
    have C4 := Lib.hid (equalInts_same A4 c4 A5 c5 L _ _ _ _ w3 HQ3.out q5 (by omega))
    clear hb3 hr3 q5 C3 HG2 HM2 HS2 HB2 HQ2
    go_wp2_with fail
    with_reducible refine (C4.out).mono ?_
    rintro e w4 ⟨rfl, n, rfl⟩
    have hs4 : w1.heap.size ≤ (w3.drewN n).heap.size := hs3
    have c5 := CV.out (w3.drewN n) (HG3.out.drewN n) (HM3.out.drewN n) (HS3.out.drewN n) hs4
    obtain ⟨V, hV⟩ : ∃ V, V = Bs.stV g m wk S := ⟨_, rfl⟩
    rw [← hV] at c5
    have C5 := Lib.hid c5
    have HV := Lib.hid hV
    clear C4 c5 hV CV
    go_wp2_with fail
    with_reducible refine (C5.out).mono ?_
    rintro e w5 ⟨rfl, hb5⟩
    have s5 : w3.heap.size ≤ w5.heap.size := hb5.size
    have hs5 : w1.heap.size ≤ w5.heap.size := Nat.le_trans hs3 s5
    have HG5 := Lib.hid ((HG3.out.drewN n).below hb5 hs4)
    have HM5 := Lib.hid ((HM3.out.drewN n).below hb5 hs4)
    have HS5 := Lib.hid ((HS3.out.drewN n).below hb5 hs4)
    have HQ5 := Lib.hid ((HQ3.out.drewN n).below hb5 s3)
    have HB5 := Lib.hid ((HB3.out.drewN n).trans (hb5.mono (Nat.le_trans s1 hs3)))
    clear hb5 C5 HG3 HM3 HS3 HQ3 HB3
    obtain ⟨W5, rfl⟩ : ∃ W5, W5 = w5 := ⟨_, rfl⟩
    cases V
    · have C6 := Lib.hid (CS.out W5 HG5.out HM5.out HS5.out hs5)
      clear HV CS CR CE
      go_wp2_with fail
      with_reducible refine (C6.out).mono ?_
      rintro e w6 hr6
      obtain ⟨A6, c6, rfl, q6, hb6, _, _⟩ := hr6.ri
      have HB6 := Lib.hid (HB5.out.trans (hb6.mono (Nat.le_trans s1 hs5)))
      have C7 := Lib.hid (equalInts_same A4 c4 A6 c6 L _ _ _ _ w6 (HQ5.out.below hb6 (Nat.le_trans s3 s5)) q6 (by omega))
      clear hb6 hr6 q6 C6
      go_wp2_with fail
      with_reducible refine (C7.out).mono ?_
      rintro e w7 ⟨rfl, n7, rfl⟩
      go_wp2
      go_ret
      exact ⟨rfl, HB6.out.drewN _⟩
    · have HV2 := Lib.hid HV.out.symm
      have HLR := Lib.hid (show L = Bs.runAt g S now from by rw [HL.out, Bs.runL_yes HV2.out])
      clear HV HL CS
      obtain ⟨hcan, hk, _⟩ := Bs.stV_iff.1 HV2.out
      have hF := valid_fine (Bs.canV_iff.1 hcan).1
      have HE1 := Lib.hid (show Bs.runL g m wk S (Bs.endC g S) = [] from by rw [Bs.runL_yes HV2.out]; exact Bs.run_end)
      have HE2 := Lib.hid (show Bs.runL g m wk S (-1) = [] from by rw [Bs.runL_yes HV2.out]; exact Bs.run_before hk)
      have HE3 := Lib.hid (fun h => show 0 < (Bs.runL g m wk S (Bs.endC g S - 1)).length from by rw [Bs.runL_yes HV2.out]; exact Bs.run_last hF hk h)
      have hEb : 0 ≤ Bs.endC g S ∧ Bs.endC g S ≤ 1000 := ⟨Bs.end_nonneg g S, Bs.end_le (by omega) (fun i _ => by have a := Bs.clk_at hk i; have b := Bs.time_b hF i; omega)⟩
      have c6 := CE.out W5 HG5.out HM5.out HS5.out hs5
      rw [Bs.endT_yes HV2.out] at c6
      have C6 := Lib.hid c6
      clear hcan hk hF HLR CE c6
      generalize Bs.endC g S = E at *
      go_wp2_with fail
      with_reducible refine (C6.out).mono ?_
      rintro e w6 ⟨rfl, hb6⟩
      have s6 := hb6.size
      have hs6 : w1.heap.size ≤ w6.heap.size := Nat.le_trans hs5 s6
      have HG6 := Lib.hid (HG5.out.below hb6 hs5)
      have HM6 := Lib.hid (HM5.out.below hb6 hs5)
      have HS6 := Lib.hid (HS5.out.below hb6 hs5)
      have HB6 := Lib.hid (HB5.out.trans (hb6.mono (Nat.le_trans s1 hs5)))
      have c7 := CR.out E w6 HG6.out HM6.out HS6.out hs6
      rw [HE1.out] at c7
      have C7 := Lib.hid c7
      clear hb6 C6 c7 HG5 HM5 HS5 HB5
      go_wp2_with fail
      with_reducible refine (C7.out).mono ?_
      rintro e w7 ⟨⟨A7, c7, rfl, ho7⟩, hb7⟩
      have s7 := hb7.size
      have hs7 : w1.heap.size ≤ w7.heap.size := Nat.le_trans hs6 s7
      have HG7 := Lib.hid (HG6.out.below hb7 hs6)
      have HM7 := Lib.hid (HM6.out.below hb7 hs6)
      have HS7 := Lib.hid (HS6.out.below hb7 hs6)
      have HB7 := Lib.hid (HB6.out.trans (hb7.mono (Nat.le_trans s1 hs6)))
      have c8 := CR.out (-1) w7 HG7.out HM7.out HS7.out hs7
      rw [HE2.out] at c8
      have C8 := Lib.hid c8
      clear hb7 ho7 C7 c8 HG6 HM6 HS6 HB6
      simp only [List.length_nil] at *
      go_wp2_with fail
      with_reducible refine (C8.out).mono ?_
      rintro e w8 ⟨⟨A8, c8, rfl, ho8⟩, hb8⟩
      have s8 := hb8.size
      have hs8 : w1.heap.size ≤ w8.heap.size := Nat.le_trans hs7 s8
      have HG8 := Lib.hid (HG7.out.below hb8 hs7)
      have HM8 := Lib.hid (HM7.out.below hb8 hs7)
      have HS8 := Lib.hid (HS7.out.below hb8 hs7)
      have HB8 := Lib.hid (HB7.out.trans (hb8.mono (Nat.le_trans s1 hs7)))
      clear hb8 ho8 C8 HG7 HM7 HS7 HB7
      by_cases hE0 : E = 0
      · have hz : (E == 0) = true := by simp [hE0]
        clear hE0
        go_wp2
        go_ret
        exact ⟨rfl, HB8.out⟩
      · have hz : (E == 0) = false := by simp [hE0]
        have h3 := HE3.out hE0
        have hw : IntKind.i64.wrap (E - 1) = E - 1 := IntWalk.i64_in _ ⟨by omega, by omega⟩
        have c9 := CR.out (E - 1) w8 HG8.out HM8.out HS8.out hs8
        generalize Bs.runL g m wk S (E - 1) = R at *
        have C9 := Lib.hid c9
        have d1 : decide ((R.length : Int) > 0) = true := by simp; omega
        have d2 : decide ((0 : Int) < (R.length : Int)) = true := by simp; omega
        have d3 : decide (0 < R.length) = true := by simp; omega
        clear c9 hE0 HE3
        go_wp2_with fail
        with_reducible refine (C9.out).mono ?_
        rintro e w9 ⟨⟨A9, c9, rfl, ho9⟩, hb9⟩
        have HB9 := Lib.hid (HB8.out.trans (hb9.mono (Nat.le_trans s1 hs8)))
        clear hb9 ho9 C9
        go_wp2
        go_ret
        exact ⟨rfl, HB9.out⟩
end Go.Proofs.Ytnbgekbfccejdac
