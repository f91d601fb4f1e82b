/-
  THE WALK OF laws.FnMostTogetherWorkers.
-/
import Derived.Test.YtihgakbopkaemaaLEvents
import Derived.Test.YtihgakbopkaemaaK40
import Derived.Test.YtihgakbopkaemaaK29
import Derived.Test.YtihgakbopkaemaaK39
import Derived.Test.YtihgakbopkaemaaK41
import Derived.Test.YtihgakbopkaemaaK30
import Derived.Test.YtihgakbopkaemaaK14
import Derived.Test.YtihgakbopkaemaaK15
import Derived.Test.YtihgakbopkaemaaK16
namespace Go.Proofs.Ytihgakbopkaemaa
open Go.RowKit
set_option linter.unusedVariables false
set_option maxRecDepth 20000 in
set_option maxHeartbeats 6400000 in
theorem fnMostTogetherWorkers_walk (A : Option Addr) (c : Nat) (l : List Int) (w : World) (hb : RB w 0 w.heap.size A l) (hlc : l.length ≤ c ∧ c ≤ maxLen) :
    Calls Try.prog 7 #[.slice A l.length c] w fun e w' => e = .returned (.bool true) ∧ Below w.heap.size w w' := by
  have hl63 : l.length ≤ 9223372036854775807 := by have := hlc.2; unfold maxLen at this; omega
  by_cases hbig : 1048576 < l.length
  · go_enter Try.func7, Try.ntmps7
    go_wp2
    go_ret
    exact ⟨rfl, Below.refl _ _⟩
  · have C1 := Lib.hid (DrawLogOf_any A c l w hb hlc.1 hlc.2)
    clear hb
    go_enter Try.func7, Try.ntmps7
    go_wp2_with fail
    refine (C1.out).mono ?_
    rintro e w1 ⟨⟨A1, c1, g, A2, c2, m, wk, A3, c3, S, rfl, hg, hg16, hgc, hcm, hm, hm100, hmc, hmm, hS, hS100, hSc, hSm⟩, hb1⟩
    have HG := Lib.hid hg
    have HM := Lib.hid hm
    have HS := Lib.hid hS
    have s1 := hb1.size
    have hl9 : g.length ≤ 9223372036854775807 := by omega
    have hm9 : m.length ≤ 9223372036854775807 := by omega
    have hS9 : S.length ≤ 9223372036854775807 := by omega
    obtain ⟨L, hL⟩ : ∃ L, L = Bs.logL g m wk S := ⟨_, rfl⟩
    have q2 := LogOf_any A1 c1 g A2 c2 m A3 c3 S wk w.heap.size w1.heap.size w.heap.size w1.heap.size w.heap.size w1.heap.size w1 HG.out (Nat.le_refl _) HM.out (Nat.le_refl _) HS.out (Nat.le_refl _) hl9 hm9 hS9
    have qs := fun W hg hm hr hs => LogOfS_any A1 c1 g A2 c2 m A3 c3 S wk w.heap.size w1.heap.size w.heap.size w1.heap.size w.heap.size w1.heap.size W hg hs hm hs hr hs hl9 hm9 hS9
    have hlen : L.length ≤ 4000 := by
      rw [hL]
      cases h : Bs.stV g m wk S
      · rw [Bs.logL_no h]; simp
      · rw [Bs.logL_yes h, Bs.lg_len h]; omega
    rw [← hL] at q2 qs
    have HL := Lib.hid hL
    have C2 := Lib.hid q2
    have CS := Lib.hid qs
    have HB1 := Lib.hid hb1
    clear C1 hg hm hS q2 qs hb1 hL
    go_wp2_with fail
    with_reducible refine (C2.out).mono ?_
    rintro e w2 ⟨⟨A4, c4, rfl, ho4⟩, hb2⟩
    have s2 := hb2.size
    have hcap4 := ho4.cap
    have HQ2 := Lib.hid (ho4.re.more (lo' := w1.heap.size) (hi' := w2.heap.size) (Nat.le_refl _) (Nat.le_refl _))
    have HG2 := Lib.hid (HG.out.below hb2 (Nat.le_refl _))
    have HM2 := Lib.hid (HM.out.below hb2 (Nat.le_refl _))
    have HS2 := Lib.hid (HS.out.below hb2 (Nat.le_refl _))
    have HB2 := Lib.hid (HB1.out.trans (hb2.mono s1))
    have C3 := Lib.hid (CS.out w2 HG2.out HM2.out HS2.out s2)
    clear hb2 ho4 C2 HG HM HS HB1
    go_wp2_with fail
    with_reducible refine (C3.out).mono ?_
    rintro e w3 ⟨⟨A5, c5, rfl, ho5⟩, hb3⟩
    have s3 := hb3.size
    have hs3 : w1.heap.size ≤ w3.heap.size := Nat.le_trans s2 s3
    have HQ3 := Lib.hid (HQ2.out.below hb3 (Nat.le_refl _))
    have HG3 := Lib.hid (HG2.out.below hb3 s2)
    have HM3 := Lib.hid (HM2.out.below hb3 s2)
    have HS3 := Lib.hid (HS2.out.below hb3 s2)
    have HB3 := Lib.hid (HB2.out.trans (hb3.mono (Nat.le_trans s1 s2)))
    have C4 := Lib.hid (equalEvents_same A4 c4 A5 c5 L _ _ _ _ w3 HQ3.out ho5.re (by omega))
    clear hb3 ho5 C3 HG2 HM2 HS2 HB2 HQ2
    go_wp2_with fail
    with_reducible refine (C4.out).mono ?_
    rintro e w4 ⟨rfl, n, rfl⟩
    have hs4 : w1.heap.size ≤ (w3.drewN n).heap.size := hs3
    by_cases h0 : L.length = 0
    · have C6 := Lib.hid (CS.out (w3.drewN n) (HG3.out.drewN n) (HM3.out.drewN n) (HS3.out.drewN n) hs4)
      have z1 : ((L.length : Int) == 0) = true := by rw [h0]; rfl
      have z2 : (L.length == 0) = true := by rw [h0]; rfl
      clear HL CS C4 h0
      go_wp2_with fail
      with_reducible refine (C6.out).mono ?_
      rintro e w6 ⟨⟨A6, c6, rfl, ho6⟩, hb6⟩
      have HB6 := Lib.hid ((HB3.out.drewN n).trans (hb6.mono (Nat.le_trans s1 hs3)))
      have C7 := Lib.hid (equalEvents_same A4 c4 A6 c6 L _ _ _ _ w6 ((HQ3.out.drewN n).below hb6 s3) ho6.re (by omega))
      clear hb6 ho6 C6
      go_wp2_with fail
      with_reducible refine (C7.out).mono ?_
      rintro e w7 ⟨rfl, n7, rfl⟩
      go_wp2
      go_ret
      exact ⟨rfl, HB6.out.drewN _⟩
    have z1 : ((L.length : Int) == 0) = false := by rw [beq_eq_false_iff_ne]; omega
    have z2 : (L.length == 0) = false := by rw [beq_eq_false_iff_ne]; omega
    have HV2 := Lib.hid (show Bs.stV g m wk S = true from by
      cases h : Bs.stV g m wk S
      · rw [HL.out, Bs.logL_no h] at h0; exact absurd rfl h0
      · rfl)
    have hLL : L = Bs.lgK g S 221 := by rw [HL.out, Bs.logL_yes HV2.out]
    have HLG := Lib.hid hLL
    have hll : L.length = 2 * g.length := by rw [hLL, Bs.lg_len HV2.out]
    have hpos : 0 < L.length := by omega
    have HLL := Lib.hid hll
    clear HL C4 hLL h0 hll
    obtain ⟨W3, hW3⟩ : ∃ W3, W3 = w3.drewN n := ⟨_, rfl⟩
    replace HG3 := Lib.hid (HG3.out.drewN n)
    replace HM3 := Lib.hid (HM3.out.drewN n)
    replace HS3 := Lib.hid (HS3.out.drewN n)
    replace HQ3 := Lib.hid (HQ3.out.drewN n)
    replace HB3 := Lib.hid (HB3.out.drewN n)
    replace s3 : w2.heap.size ≤ (w3.drewN n).heap.size := s3
    rw [← hW3] at HG3 HM3 HS3 HQ3 HB3 hs4 s3 ⊢
    clear hW3 hs3
    have HT := Lib.hid (Bs.stV_facts HV2.out)
    have h8 : g.length ≤ 8 := HT.out.2.1
    have hF : Bs.fine g = true := HT.out.1
    have s13 : w.heap.size ≤ W3.heap.size := Nat.le_trans s1 hs4
    have hs2 : w2.heap.size ≤ W3.heap.size := s3
    have cv := ValidLog_any A1 c1 g A4 c4 L w.heap.size w1.heap.size w1.heap.size w2.heap.size W3 HG3.out hs4 HQ3.out s3 hl9 (by omega)
    cases hlog : Bs.logV g L
    · rw [hlog] at cv
      have CV := Lib.hid cv
      clear cv hlog HLG HV2
      go_wp2_with fail
      with_reducible refine (CV.out).mono ?_
      rintro e w5 ⟨rfl, hb5⟩
      have s5 := hb5.size
      have hs5 : w1.heap.size ≤ w5.heap.size := Nat.le_trans hs4 s5
      have C6 := Lib.hid (CS.out w5 (HG3.out.below hb5 hs4) (HM3.out.below hb5 hs4) (HS3.out.below hb5 hs4) hs5)
      have HQ5 := Lib.hid (HQ3.out.below hb5 s3)
      have HB5 := Lib.hid (HB3.out.trans (hb5.mono s13))
      clear hb5 CV CS
      go_wp2_with fail
      with_reducible refine (C6.out).mono ?_
      rintro e w6 ⟨⟨A6, c6, rfl, ho6⟩, hb6⟩
      have HB6 := Lib.hid (HB5.out.trans (hb6.mono (Nat.le_trans s13 s5)))
      have C7 := Lib.hid (equalEvents_same A4 c4 A6 c6 L _ _ _ _ w6 (HQ5.out.below hb6 (Nat.le_trans s3 s5)) ho6.re (by omega))
      clear hb6 ho6 C6
      go_wp2_with fail
      with_reducible refine (C7.out).mono ?_
      rintro e w7 ⟨rfl, n7, rfl⟩
      go_wp2
      go_ret
      exact ⟨rfl, HB6.out.drewN _⟩
    · rw [hlog] at cv
      have CV := Lib.hid cv
      have e1 := Bs.lg_most HV2.out (by rw [← HLG.out]; exact hlog)
      rw [← HLG.out] at e1
      have cm := fun W hg hs hq hq2 => MostTogether_any A1 c1 g A4 c4 L w.heap.size w1.heap.size w1.heap.size w2.heap.size W hg hs hq hq2 hl9 (by omega)
      have HE1 := Lib.hid e1.1
      have hle : Bs.mtL g L ≤ wk := e1.2
      have CM := Lib.hid cm
      have cr := fun now' W hg hm hr hs => RunningAt_any A1 c1 g A2 c2 m A3 c3 S wk now' w.heap.size w1.heap.size w.heap.size w1.heap.size w.heap.size w1.heap.size W hg hs hm hs hr hs hl9 hm9 hS9
      simp only [Bs.runL_yes HV2.out] at cr
      have CR := Lib.hid cr
      have HSG := Lib.hid (show S.length = g.length from HT.out.2.2.1)
      have HRL := Lib.hid (fun now => Bs.runAt_len g S now)
      obtain ⟨F, hF'⟩ : ∃ F : Nat → Int, F = fun i => ((Bs.runAt g S (Bs.giZ S i)).length : Int) := ⟨_, rfl⟩
      have HFF := Lib.hid (fun i => congrFun hF' i)
      have HMX := Lib.hid (show Bs.mtL g L = Bs.mxK F S.length from by rw [hF', HSG.out]; exact HE1.out)
      clear cv cm cr e1 hlog HLG HV2 HE1 hF' CS
      generalize Bs.mtL g L = X at *
      go_wp2_with fail
      with_reducible refine (CV.out).mono ?_
      rintro e w5 ⟨rfl, hb5⟩
      have s5 := hb5.size
      have hs5 : w1.heap.size ≤ w5.heap.size := Nat.le_trans hs4 s5
      have hq5 : w2.heap.size ≤ w5.heap.size := Nat.le_trans s3 s5
      have HG5 := Lib.hid (HG3.out.below hb5 hs4)
      have HM5 := Lib.hid (HM3.out.below hb5 hs4)
      have HS5 := Lib.hid (HS3.out.below hb5 hs4)
      have HQ5 := Lib.hid (HQ3.out.below hb5 s3)
      have HB5 := Lib.hid (HB3.out.trans (hb5.mono s13))
      have C6 := Lib.hid (CM.out w5 HG5.out hs5 HQ5.out hq5)
      clear hb5 CV CM HG3 HM3 HS3 HQ3 HB3
      go_wp2_with fail
      with_reducible refine (C6.out).mono ?_
      rintro e w6 ⟨rfl, hb6⟩
      have s6 := hb6.size
      have hs6 : w1.heap.size ≤ w6.heap.size := Nat.le_trans hs5 s6
      have HG6 := Lib.hid (HG5.out.below hb6 hs5)
      have HM6 := Lib.hid (HM5.out.below hb6 hs5)
      have HS6 := Lib.hid (HS5.out.below hb6 hs5)
      have HB6 := Lib.hid (HB5.out.trans (hb6.mono (by omega)))
      have s16 : w.heap.size ≤ w6.heap.size := by omega
      clear hb6 C6 HG5 HM5 HS5 HQ5 HB5
      go_wp2
      go_loopw [9, 10] (fun s i wr => ∃ (k : Nat) (q : Int), k ≤ S.length ∧ s = .int .i64 q ∧ i = .int .i64 (k : Int) ∧ q = Bs.mxK F k ∧ 0 ≤ q ∧ q ≤ 8 ∧ Below w6.heap.size w6 wr) (fun _ i _ => S.length - (intOf i).toNat)
      case atStart => exact ⟨0, 0, Nat.zero_le _, rfl, rfl, rfl, by omega, by omega, Below.refl _ _⟩
      case round =>
        obtain ⟨k, q, hk, rfl, rfl, hq, hq0, hq1, hbw⟩ := hrel
        have s7 := hbw.size
        have hsr : w1.heap.size ≤ wr.heap.size := Nat.le_trans hs6 s7
        have HQ := Lib.hid hq
        have HBW := Lib.hid hbw
        by_cases hlt : k < S.length
        · have HGr := Lib.hid (HG6.out.below hbw hs6)
          have HMr := Lib.hid (HM6.out.below hbw hs6)
          have HSr := Lib.hid (HS6.out.below hbw hs6)
          obtain ⟨b, o, hA3, _, _, q0⟩ := HSr.out k hlt
          subst hA3
          rw [← Bs.giZ_at hlt] at q0
          have C7 := Lib.hid (CR.out (Bs.giZ S k) wr HGr.out HMr.out HSr.out hsr)
          have hrl : (Bs.runAt g S (Bs.giZ S k)).length ≤ 8 := by have := HRL.out (Bs.giZ S k); omega
          have HNX := Lib.hid (show max q ((Bs.runAt g S (Bs.giZ S k)).length : Int) = Bs.mxK F (k + 1) from by
            show _ = max (Bs.mxK F k) (F k)
            rw [HQ.out, HFF.out k])
          have i0 : (0 : Int) ≤ (k : Int) := by omega
          have i1 : (k : Int) < (S.length : Int) := by omega
          clear hbw hq
          generalize Bs.runAt g S (Bs.giZ S k) = R at *
          generalize Bs.giZ S k = x at *
          have HMB := Lib.hid (show 0 ≤ max q (R.length : Int) ∧ max q (R.length : Int) ≤ 8 from by omega)
          go_wp2_with fail
          with_reducible refine (C7.out).mono ?_
          rintro e w8 ⟨⟨A8, c8, rfl, ho8⟩, hb8⟩
          have HB8 := Lib.hid (HBW.out.trans (hb8.mono s7))
          clear ho8 hb8 C7
          go_wp2
          go_roundw
          case rel => exact ⟨k + 1, max q (R.length : Int), by omega, by simp [Int.max_def]; split <;> split <;> omega, by go_num, HNX.out, HMB.out.1, HMB.out.2, HB8.out⟩
          case measure => simp [intOf]; omega
        · obtain rfl : k = S.length := by omega
          have hqx : X = q := by rw [HQ.out]; exact HMX.out
          clear hbw hq
          subst hqx
          have d1 : (X == X) = true := by simp
          have d2 : decide (X ≤ wk) = true := decide_eq_true hle
          go_wp2
          go_ret
          exact ⟨rfl, HB6.out.trans (HBW.out.mono s16)⟩
end Go.Proofs.Ytihgakbopkaemaa
