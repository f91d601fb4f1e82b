/-
  THE WALK OF laws.FnDoneByEnd.
-/
import Derived.Test.YtihgakbopkaemaaLEvents
import Derived.Test.YtihgakbopkaemaaK40
import Derived.Test.YtihgakbopkaemaaK29
import Derived.Test.YtihgakbopkaemaaK39
import Derived.Test.YtihgakbopkaemaaK41
import Derived.Test.YtihgakbopkaemaaK30
import Derived.Test.YtihgakbopkaemaaK14
import Derived.Test.YtihgakbopkaemaaL5
namespace Go.Proofs.Ytihgakbopkaemaa
open Go.RowKit
set_option linter.unusedVariables false
set_option maxRecDepth 20000 in
set_option maxHeartbeats 6400000 in
theorem fnDoneByEnd_walk (A : Option Addr) (c : Nat) (l : List Int) (w : World) (hb : RB w 0 w.heap.size A l) (hlc : l.length ≤ c ∧ c ≤ maxLen) :
    Calls Try.prog 8 #[.slice A l.length c] w fun e w' => e = .returned (.bool true) ∧ Below w.heap.size w w' := by
  have hl63 : l.length ≤ 9223372036854775807 := by have := hlc.2; unfold maxLen at this; omega
  by_cases hbig : 1048576 < l.length
  · go_enter Try.func8, Try.ntmps8
    go_wp2
    go_ret
    exact ⟨rfl, Below.refl _ _⟩
  · have C1 := Lib.hid (DrawLogOf_any A c l w hb hlc.1 hlc.2)
    clear hb
    go_enter Try.func8, Try.ntmps8
    go_wp2_with fail
    refine (C1.out).mono ?_
    rintro e w1 ⟨⟨A1, c1, g, A2, c2, m, wk, A3, c3, S, rfl, hg, hg16, hgc, hcm, hm, hm100, hmc, hmm, hS, hS100, hSc, hSm⟩, hb1⟩
    have HG := Lib.hid hg
    have HM := Lib.hid hm
    have HS := Lib.hid hS
    have s1 := hb1.size
    have hl9 : g.length ≤ 9223372036854775807 := by omega
    have hm9 : m.length ≤ 9223372036854775807 := by omega
    have hS9 : S.length ≤ 9223372036854775807 := by omega
    obtain ⟨L, hL⟩ : ∃ L, L = Bs.logL g m wk S := ⟨_, rfl⟩
    have q2 := LogOf_any A1 c1 g A2 c2 m A3 c3 S wk w.heap.size w1.heap.size w.heap.size w1.heap.size w.heap.size w1.heap.size w1 HG.out (Nat.le_refl _) HM.out (Nat.le_refl _) HS.out (Nat.le_refl _) hl9 hm9 hS9
    have qs := fun W hg hm hr hs => LogOfS_any A1 c1 g A2 c2 m A3 c3 S wk w.heap.size w1.heap.size w.heap.size w1.heap.size w.heap.size w1.heap.size W hg hs hm hs hr hs hl9 hm9 hS9
    have hlen : L.length ≤ 4000 := by
      rw [hL]
      cases h : Bs.stV g m wk S
      · rw [Bs.logL_no h]; simp
      · rw [Bs.logL_yes h, Bs.lg_len h]; omega
    rw [← hL] at q2 qs
    have HL := Lib.hid hL
    have C2 := Lib.hid q2
    have CS := Lib.hid qs
    have HB1 := Lib.hid hb1
    clear C1 hg hm hS q2 qs hb1 hL
    go_wp2_with fail
    with_reducible refine (C2.out).mono ?_
    rintro e w2 ⟨⟨A4, c4, rfl, ho4⟩, hb2⟩
    have s2 := hb2.size
    have hcap4 := ho4.cap
    have HQ2 := Lib.hid (ho4.re.more (lo' := w1.heap.size) (hi' := w2.heap.size) (Nat.le_refl _) (Nat.le_refl _))
    have HG2 := Lib.hid (HG.out.below hb2 (Nat.le_refl _))
    have HM2 := Lib.hid (HM.out.below hb2 (Nat.le_refl _))
    have HS2 := Lib.hid (HS.out.below hb2 (Nat.le_refl _))
    have HB2 := Lib.hid (HB1.out.trans (hb2.mono s1))
    have C3 := Lib.hid (CS.out w2 HG2.out HM2.out HS2.out s2)
    clear hb2 ho4 C2 HG HM HS HB1
    go_wp2_with fail
    with_reducible refine (C3.out).mono ?_
    rintro e w3 ⟨⟨A5, c5, rfl, ho5⟩, hb3⟩
    have s3 := hb3.size
    have hs3 : w1.heap.size ≤ w3.heap.size := Nat.le_trans s2 s3
    have HQ3 := Lib.hid (HQ2.out.below hb3 (Nat.le_refl _))
    have HG3 := Lib.hid (HG2.out.below hb3 s2)
    have HM3 := Lib.hid (HM2.out.below hb3 s2)
    have HS3 := Lib.hid (HS2.out.below hb3 s2)
    have HB3 := Lib.hid (HB2.out.trans (hb3.mono (Nat.le_trans s1 s2)))
    have C4 := Lib.hid (equalEvents_same A4 c4 A5 c5 L _ _ _ _ w3 HQ3.out ho5.re (by omega))
    clear hb3 ho5 C3 HG2 HM2 HS2 HB2 HQ2
    go_wp2_with fail
    with_reducible refine (C4.out).mono ?_
    rintro e w4 ⟨rfl, n, rfl⟩
    have hs4 : w1.heap.size ≤ (w3.drewN n).heap.size := hs3
    by_cases h0 : L.length = 0
    · have C6 := Lib.hid (CS.out (w3.drewN n) (HG3.out.drewN n) (HM3.out.drewN n) (HS3.out.drewN n) hs4)
      have z1 : ((L.length : Int) == 0) = true := by rw [h0]; rfl
      have z2 : (L.length == 0) = true := by rw [h0]; rfl
      clear HL CS C4 h0
      go_wp2_with fail
      with_reducible refine (C6.out).mono ?_
      rintro e w6 ⟨⟨A6, c6, rfl, ho6⟩, hb6⟩
      have HB6 := Lib.hid ((HB3.out.drewN n).trans (hb6.mono (Nat.le_trans s1 hs3)))
      have C7 := Lib.hid (equalEvents_same A4 c4 A6 c6 L _ _ _ _ w6 ((HQ3.out.drewN n).below hb6 s3) ho6.re (by omega))
      clear hb6 ho6 C6
      go_wp2_with fail
      with_reducible refine (C7.out).mono ?_
      rintro e w7 ⟨rfl, n7, rfl⟩
      go_wp2
      go_ret
      exact ⟨rfl, HB6.out.drewN _⟩
    have z1 : ((L.length : Int) == 0) = false := by rw [beq_eq_false_iff_ne]; omega
    have z2 : (L.length == 0) = false := by rw [beq_eq_false_iff_ne]; omega
    have HV2 := Lib.hid (show Bs.stV g m wk S = true from by
      cases h : Bs.stV g m wk S
      · rw [HL.out, Bs.logL_no h] at h0; exact absurd rfl h0
      · rfl)
    have hLL : L = Bs.lgK g S 221 := by rw [HL.out, Bs.logL_yes HV2.out]
    have HLG := Lib.hid hLL
    have hll : L.length = 2 * g.length := by rw [hLL, Bs.lg_len HV2.out]
    have hpos : 0 < L.length := by omega
    have HLL := Lib.hid hll
    clear HL C4 hLL h0 hll
    obtain ⟨W3, hW3⟩ : ∃ W3, W3 = w3.drewN n := ⟨_, rfl⟩
    replace HG3 := Lib.hid (HG3.out.drewN n)
    replace HM3 := Lib.hid (HM3.out.drewN n)
    replace HS3 := Lib.hid (HS3.out.drewN n)
    replace HQ3 := Lib.hid (HQ3.out.drewN n)
    replace HB3 := Lib.hid (HB3.out.drewN n)
    replace s3 : w2.heap.size ≤ (w3.drewN n).heap.size := s3
    rw [← hW3] at HG3 HM3 HS3 HQ3 HB3 hs4 s3 ⊢
    clear hW3 hs3
    have HT := Lib.hid (Bs.stV_facts HV2.out)
    have h8 : g.length ≤ 8 := HT.out.2.1
    have hF : Bs.fine g = true := HT.out.1
    have s13 : w.heap.size ≤ W3.heap.size := Nat.le_trans s1 hs4
    have hs2 : w2.heap.size ≤ W3.heap.size := s3
    have cv := ValidLog_any A1 c1 g A4 c4 L w.heap.size w1.heap.size w1.heap.size w2.heap.size W3 HG3.out hs4 HQ3.out s3 hl9 (by omega)
    cases hlog : Bs.logV g L
    · rw [hlog] at cv
      have CV := Lib.hid cv
      clear cv hlog HLG HV2
      go_wp2_with fail
      with_reducible refine (CV.out).mono ?_
      rintro e w5 ⟨rfl, hb5⟩
      have s5 := hb5.size
      have hs5 : w1.heap.size ≤ w5.heap.size := Nat.le_trans hs4 s5
      have C6 := Lib.hid (CS.out w5 (HG3.out.below hb5 hs4) (HM3.out.below hb5 hs4) (HS3.out.below hb5 hs4) hs5)
      have HQ5 := Lib.hid (HQ3.out.below hb5 s3)
      have HB5 := Lib.hid (HB3.out.trans (hb5.mono s13))
      clear hb5 CV CS
      go_wp2_with fail
      with_reducible refine (C6.out).mono ?_
      rintro e w6 ⟨⟨A6, c6, rfl, ho6⟩, hb6⟩
      have HB6 := Lib.hid (HB5.out.trans (hb6.mono (Nat.le_trans s13 s5)))
      have C7 := Lib.hid (equalEvents_same A4 c4 A6 c6 L _ _ _ _ w6 (HQ5.out.below hb6 (Nat.le_trans s3 s5)) ho6.re (by omega))
      clear hb6 ho6 C6
      go_wp2_with fail
      with_reducible refine (C7.out).mono ?_
      rintro e w7 ⟨rfl, n7, rfl⟩
      go_wp2
      go_ret
      exact ⟨rfl, HB6.out.drewN _⟩
    · rw [hlog] at cv
      have CV := Lib.hid cv
      have g0 : 0 < g.length := by have := HLL.out; omega
      have e1 := Bs.lg_end1 HV2.out
      have e2 := Bs.lg_end2 HV2.out g0
      have e3 := Bs.lg_busy HV2.out (by rw [← HLG.out]; exact hlog)
      rw [← HLG.out] at e1 e2 e3
      have hEb : 0 ≤ Bs.endC g S ∧ Bs.endC g S ≤ 1000 := ⟨Bs.end_nonneg g S, Bs.end_le (by omega) (fun i hi => by have a := HT.out.2.2.2.1 i hi; have b := HT.out.2.2.2.2.1 i hi; omega)⟩
      have ce := fun W hg hm hr hs => EndTime_any A1 c1 g A2 c2 m A3 c3 S wk w.heap.size w1.heap.size w.heap.size w1.heap.size w.heap.size w1.heap.size W hg hs hm hs hr hs hl9 hm9 hS9
      rw [Bs.endT_yes HV2.out] at ce
      have CE := Lib.hid ce
      have CD := Lib.hid (fun now W hg hs hq hq2 => DoneBy_any A1 c1 g A4 c4 L now w.heap.size w1.heap.size w1.heap.size w2.heap.size W hg hs hq hq2 hl9 (by omega))
      have cb := fun W hg hs hq hq2 => BusyTime_any A1 c1 g A4 c4 L w.heap.size w1.heap.size w1.heap.size w2.heap.size W hg hs hq hq2 hl9 (by omega)
      rw [e3] at cb
      have CB := Lib.hid cb
      have CA := Lib.hid (fun W hg => allTime_any A1 c1 g w.heap.size w1.heap.size W hg hF)
      have HD := Lib.hid (fun now => Bs.doneL_yes (now := now) hlog)
      have hl100 : ∀ now, (Bs.doneC g L now).length ≤ g.length := fun now => Bs.doneC_len g L now
      have b2 := hl100 (Bs.endC g S - 1)
      clear cv ce cb e3 CS hl100
      generalize Bs.endC g S = E at *
      generalize Bs.sumT g = X at *
      have HDE := Lib.hid (HD.out E)
      have HDE1 := Lib.hid (HD.out (E - 1))
      generalize hD1 : Bs.doneC g L E = D1 at *
      generalize hD2 : Bs.doneC g L (E - 1) = D2 at *
      have HX1 := Lib.hid hD1
      have HX2 := Lib.hid hD2
      clear hlog hD1 hD2 HD HLG HV2 HT
      have hxx : (X == X) = true := by simp
      have z3 : ((D1.length : Int) == (g.length : Int)) = true := by rw [e1]; simp
      have z4 : (D1.length == g.length) = true := by rw [e1]; simp
      have z5 : decide ((D2.length : Int) < (g.length : Int)) = true := by rw [decide_eq_true_eq]; omega
      have hd1 : D1.length ≤ 8 := by omega
      have E1 := Lib.hid e1
      clear e1
      go_wp2_with fail
      with_reducible refine (CV.out).mono ?_
      rintro e w5 ⟨rfl, hb5⟩
      have s5 := hb5.size
      have hs5 : w1.heap.size ≤ w5.heap.size := Nat.le_trans hs4 s5
      have HG5 := Lib.hid (HG3.out.below hb5 hs4)
      have HQ5 := Lib.hid (HQ3.out.below hb5 s3)
      have hq5 : w2.heap.size ≤ w5.heap.size := Nat.le_trans s3 s5
      have C6 := Lib.hid (CE.out w5 HG5.out (HM3.out.below hb5 hs4) (HS3.out.below hb5 hs4) hs5)
      have HB5 := Lib.hid (HB3.out.trans (hb5.mono s13))
      clear hb5 CV CE HM3 HS3 HG3 HQ3 HB3
      go_wp2_with fail
      with_reducible refine (C6.out).mono ?_
      rintro e w6 ⟨rfl, hb6⟩
      have s6 := hb6.size
      have hs6 : w1.heap.size ≤ w6.heap.size := Nat.le_trans hs5 s6
      have hq6 : w2.heap.size ≤ w6.heap.size := Nat.le_trans hq5 s6
      have HG6 := Lib.hid (HG5.out.below hb6 hs5)
      have HQ6 := Lib.hid (HQ5.out.below hb6 hq5)
      have HB6 := Lib.hid (HB5.out.trans (hb6.mono (by omega)))
      have c7 := CD.out E w6 HG6.out hs6 HQ6.out hq6
      rw [HDE.out] at c7
      have C7 := Lib.hid c7
      clear hb6 C6 c7 HG5 HQ5 HB5
      go_wp2_with fail
      with_reducible refine (C7.out).mono ?_
      rintro e w7 ⟨⟨A7, c7, rfl, ho7⟩, hb7⟩
      have s7 := hb7.size
      have hs7 : w1.heap.size ≤ w7.heap.size := Nat.le_trans hs6 s7
      have hq7 : w2.heap.size ≤ w7.heap.size := Nat.le_trans hq6 s7
      have HG7 := Lib.hid (HG6.out.below hb7 hs6)
      have HQ7 := Lib.hid (HQ6.out.below hb7 hq6)
      have HB7 := Lib.hid (HB6.out.trans (hb7.mono (by omega)))
      have c8 := CD.out (E - 1) w7 HG7.out hs7 HQ7.out hq7
      rw [HDE1.out] at c8
      have C8 := Lib.hid c8
      clear hb7 ho7 C7 c8 HG6 HQ6 HB6 CD
      go_wp2_with fail
      with_reducible refine (C8.out).mono ?_
      rintro e w8 ⟨⟨A8, c8, rfl, ho8⟩, hb8⟩
      have s8 := hb8.size
      have hs8 : w1.heap.size ≤ w8.heap.size := Nat.le_trans hs7 s8
      have hq8 : w2.heap.size ≤ w8.heap.size := Nat.le_trans hq7 s8
      have HG8 := Lib.hid (HG7.out.below hb8 hs7)
      have HQ8 := Lib.hid (HQ7.out.below hb8 hq7)
      have HB8 := Lib.hid (HB7.out.trans (hb8.mono (by omega)))
      have C9 := Lib.hid (CB.out w8 HG8.out hs8 HQ8.out hq8)
      clear hb8 ho8 C8 HG7 HQ7 HB7 CB
      go_wp2_with fail
      with_reducible refine (C9.out).mono ?_
      rintro e w9 ⟨rfl, hb9⟩
      have HB9 := Lib.hid (HB8.out.trans (hb9.mono (by omega)))
      have C10 := Lib.hid (CA.out w9 (HG8.out.below hb9 hs8))
      clear hb9 C9 CA HG8 HQ8 HB8
      go_wp2_with fail
      with_reducible refine (C10.out).mono ?_
      rintro e w10 ⟨rfl, rfl⟩
      go_wp2
      go_ret
      exact ⟨rfl, HB9.out⟩
end Go.Proofs.Ytihgakbopkaemaa
