/-
  THE WALK OF laws.FnRunningAtTime.
-/
import Derived.Test.YtnbgekbfccejdaaK17
import Derived.Test.YtnbgekbfccejdaaK16
import Derived.Test.YtnbgekbfccejdaaK14
import Derived.Test.YtnbgekbfccejdaaK15
import Derived.Test.YtnbgekbfccejdaaMath44
import Derived.Test.YtnbgekbfccejdaaL5
namespace Go.Proofs.Ytnbgekbfccejdaa
open Go.RowKit
set_option maxRecDepth 20000 in
set_option maxHeartbeats 6400000 in
theorem fnRunningAtTime_walk (A : Option Addr) (c : Nat) (l : List Int) (w : World) (hb : RB w 0 w.heap.size A l) (hlc : l.length ≤ c ∧ c ≤ maxLen) :
    Calls Try.prog 12 #[.slice A l.length c] w fun e w' => e = .returned (.bool true) ∧ Below w.heap.size w w' := by
  have hl63 : l.length ≤ 9223372036854775807 := by have := hlc.2; unfold maxLen at this; omega
  by_cases hbig : 1048576 < l.length
  · go_enter Try.func12, Try.ntmps12
    go_wp2
    go_ret
    exact ⟨rfl, Below.refl _ _⟩
  · have C1 := Lib.hid (DrawRunningAt_any A c l w hb hlc.1 hlc.2)
    clear hb
    go_enter Try.func12, Try.ntmps12
    go_wp2_with fail
    refine (C1.out).mono ?_
    rintro e w1 ⟨⟨A1, c1, g, A2, c2, m, wk, A3, c3, S, now, rfl, hg, hg16, hgc, hcm, hm, hm100, hmc, hmm, hS, hS100, hSc, hSm⟩, hb1⟩
    have HG := Lib.hid hg
    have HM := Lib.hid hm
    have HS := Lib.hid hS
    have s1 := hb1.size
    have hl9 : g.length ≤ 9223372036854775807 := by omega
    have hm9 : m.length ≤ 9223372036854775807 := by omega
    have hS9 : S.length ≤ 9223372036854775807 := by omega
    obtain ⟨L, hL⟩ : ∃ L, L = Bs.runL g m wk S now := ⟨_, rfl⟩
    have q2 := RunningAt_any A1 c1 g A2 c2 m A3 c3 S wk now w.heap.size w1.heap.size w.heap.size w1.heap.size w.heap.size w1.heap.size w1 HG.out (Nat.le_refl _) HM.out (Nat.le_refl _) HS.out (Nat.le_refl _) hl9 hm9 hS9
    have qs := fun W hg hm hr hs => RunningAtS_any A1 c1 g A2 c2 m A3 c3 S wk now w.heap.size w1.heap.size w.heap.size w1.heap.size w.heap.size w1.heap.size W hg hs hm hs hr hs hl9 hm9 hS9
    have qv := fun W hg hm hr hs => ValidStarts_any A1 c1 g A2 c2 m A3 c3 S wk w.heap.size w1.heap.size w.heap.size w1.heap.size w.heap.size w1.heap.size W hg hs hm hs hr hs hl9 hm9 hS9
    have qr := fun now' W hg hm hr hs => RunningAt_any A1 c1 g A2 c2 m A3 c3 S wk now' w.heap.size w1.heap.size w.heap.size w1.heap.size w.heap.size w1.heap.size W hg hs hm hs hr hs hl9 hm9 hS9
    have qe := fun W hg hm hr hs => EndTime_any A1 c1 g A2 c2 m A3 c3 S wk w.heap.size w1.heap.size w.heap.size w1.heap.size w.heap.size w1.heap.size W hg hs hm hs hr hs hl9 hm9 hS9
    have hlen : L.length ≤ 1000 := by rw [hL]; exact runL_k g m wk S now
    rw [← hL] at q2 qs
    have HL := Lib.hid hL
    have C2 := Lib.hid q2
    have CS := Lib.hid qs
    have CV := Lib.hid qv
    have CR := Lib.hid qr
    have CE := Lib.hid qe
    have HB1 := Lib.hid hb1
    clear C1 hg hm hS q2 qs qv qr qe hb1 hL
    go_wp2_with fail
    with_reducible refine (C2.out).mono ?_
    rintro e w2 hr2
    obtain ⟨A4, c4, rfl, q4, hb2, hlc4, hcm4⟩ := hr2.ri
    have s2 := hb2.size
    have HQ2 := Lib.hid q4
    have HG2 := Lib.hid (HG.out.below hb2 (Nat.le_refl _))
    have HM2 := Lib.hid (HM.out.below hb2 (Nat.le_refl _))
    have HS2 := Lib.hid (HS.out.below hb2 (Nat.le_refl _))
    have HB2 := Lib.hid (HB1.out.trans (hb2.mono s1))
    have C3 := Lib.hid (CS.out w2 HG2.out HM2.out HS2.out s2)
    clear hb2 hr2 q4 C2 HG HM HS HB1
    go_wp2_with fail
    with_reducible refine (C3.out).mono ?_
    rintro e w3 hr3
    obtain ⟨A5, c5, rfl, q5, hb3, hlc5, hcm5⟩ := hr3.ri
    have s3 := hb3.size
    have hs3 : w1.heap.size ≤ w3.heap.size := Nat.le_trans s2 s3
    have HQ3 := Lib.hid (HQ2.out.below hb3 (Nat.le_refl _))
    have HG3 := Lib.hid (HG2.out.below hb3 s2)
    have HM3 := Lib.hid (HM2.out.below hb3 s2)
    have HS3 := Lib.hid (HS2.out.below hb3 s2)
    have HB3 := Lib.hid (HB2.out.trans (hb3.mono (Nat.le_trans s1 s2)))
    have C4 := Lib.hid (equalInts_same A4 c4 A5 c5 L _ _ _ _ w3 HQ3.out q5 (by omega))
    clear hb3 hr3 q5 C3 HG2 HM2 HS2 HB2 HQ2
    go_wp2_with fail
    with_reducible refine (C4.out).mono ?_
    rintro e w4 ⟨rfl, n, rfl⟩
    have hs4 : w1.heap.size ≤ (w3.drewN n).heap.size := hs3
    have c5 := CV.out (w3.drewN n) (HG3.out.drewN n) (HM3.out.drewN n) (HS3.out.drewN n) hs4
    obtain ⟨V, hV⟩ : ∃ V, V = Bs.stV g m wk S := ⟨_, rfl⟩
    rw [← hV] at c5
    have C5 := Lib.hid c5
    have HV := Lib.hid hV
    clear C4 c5 hV CV
    go_wp2_with fail
    with_reducible refine (C5.out).mono ?_
    rintro e w5 ⟨rfl, hb5⟩
    have s5 : w3.heap.size ≤ w5.heap.size := hb5.size
    have hs5 : w1.heap.size ≤ w5.heap.size := Nat.le_trans hs3 s5
    have HG5 := Lib.hid ((HG3.out.drewN n).below hb5 hs4)
    have HM5 := Lib.hid ((HM3.out.drewN n).below hb5 hs4)
    have HS5 := Lib.hid ((HS3.out.drewN n).below hb5 hs4)
    have HQ5 := Lib.hid ((HQ3.out.drewN n).below hb5 s3)
    have HB5 := Lib.hid ((HB3.out.drewN n).trans (hb5.mono (Nat.le_trans s1 hs3)))
    clear hb5 C5 HG3 HM3 HS3 HQ3 HB3
    obtain ⟨W5, rfl⟩ : ∃ W5, W5 = w5 := ⟨_, rfl⟩
    cases V
    · have C6 := Lib.hid (CS.out W5 HG5.out HM5.out HS5.out hs5)
      clear HV CS CR CE
      go_wp2_with fail
      with_reducible refine (C6.out).mono ?_
      rintro e w6 hr6
      obtain ⟨A6, c6, rfl, q6, hb6, _, _⟩ := hr6.ri
      have HB6 := Lib.hid (HB5.out.trans (hb6.mono (Nat.le_trans s1 hs5)))
      have C7 := Lib.hid (equalInts_same A4 c4 A6 c6 L _ _ _ _ w6 (HQ5.out.below hb6 (Nat.le_trans s3 s5)) q6 (by omega))
      clear hb6 hr6 q6 C6
      go_wp2_with fail
      with_reducible refine (C7.out).mono ?_
      rintro e w7 ⟨rfl, n7, rfl⟩
      go_wp2
      go_ret
      exact ⟨rfl, HB6.out.drewN _⟩
    · have HV2 := Lib.hid HV.out.symm
      have HLR := Lib.hid (show L = Bs.runAt g S now from by rw [HL.out, Bs.runL_yes HV2.out])
      clear HV HL CS
      obtain ⟨hcan, hk, _⟩ := Bs.stV_iff.1 HV2.out
      have hF := valid_fine (Bs.canV_iff.1 hcan).1
      have h8 := Bs.fine_len hF
      have hEb : 0 ≤ Bs.endC g S ∧ Bs.endC g S ≤ 1000 := ⟨Bs.end_nonneg g S, Bs.end_le (by omega) (fun i _ => by have a := Bs.clk_at hk i; have b := Bs.time_b hF i; omega)⟩
      obtain ⟨E, hE⟩ : ∃ E : Nat, (E : Int) = Bs.endC g S := ⟨(Bs.endC g S).toNat, by omega⟩
      have HSUM := Lib.hid (Bs.run_time (E := E) hF hk (fun i hi => by rw [hE]; exact Bs.end_ge hi))
      have ce := CE.out
      rw [Bs.endT_yes HV2.out, ← hE] at ce
      have cr := CR.out
      simp only [Bs.runL_yes HV2.out] at cr
      have CE2 := Lib.hid ce
      have CR2 := Lib.hid cr
      have HRL := Lib.hid (fun now => Bs.runAt_len g S now)
      have HRS := Lib.hid (Bs.rs_succ)
      have CA := Lib.hid (fun W hg => allTime_any A1 c1 g w.heap.size w1.heap.size W hg hF)
      clear hcan hk hF HLR CE CR ce cr HV2
      have hE2 : E ≤ 1000 := by omega
      clear hE hEb
      go_wp2
      go_loopw [9, 10] (fun s i wr => ∃ (t : Nat) (q : Int), t ≤ E ∧ s = .int .i64 q ∧ i = .int .i64 t ∧ q = Bs.rs t (fun t => ((Bs.runAt g S (t : Int)).length : Int)) ∧ 0 ≤ q ∧ q ≤ 8 * t ∧ Below W5.heap.size W5 wr) (fun _ i _ => E - (intOf i).toNat)
      case atStart => exact ⟨0, 0, Nat.zero_le _, rfl, rfl, rfl, by omega, by omega, Below.refl _ _⟩
      case round =>
        obtain ⟨t, q, ht, rfl, rfl, hq, hq0, hq1, hbw⟩ := hrel
        have s6 := hbw.size
        have hsr : w1.heap.size ≤ wr.heap.size := Nat.le_trans hs5 s6
        have HGr := Lib.hid (HG5.out.below hbw hs5)
        have HMr := Lib.hid (HM5.out.below hbw hs5)
        have HSr := Lib.hid (HS5.out.below hbw hs5)
        have C6 := Lib.hid (CE2.out wr HGr.out HMr.out HSr.out hsr)
        have HBW := Lib.hid hbw
        have HQ := Lib.hid hq
        clear hbw hq
        by_cases hlt : t < E
        · have d1 : decide ((t : Int) < (E : Int)) = true := by simp; omega
          have d2 : decide (t < E) = true := by simp [hlt]
          go_wp2_with fail
          with_reducible refine (C6.out).mono ?_
          rintro e w6 ⟨rfl, hb6⟩
          have hs6 : w1.heap.size ≤ w6.heap.size := Nat.le_trans hsr hb6.size
          have C7 := Lib.hid (CR2.out (t : Int) w6 (HGr.out.below hb6 hsr) (HMr.out.below hb6 hsr) (HSr.out.below hb6 hsr) hs6)
          have HB6 := Lib.hid (HBW.out.trans (hb6.mono s6))
          have hrl := HRL.out (t : Int)
          have hrs := HRS.out t (fun t => ((Bs.runAt g S (t : Int)).length : Int))
          rw [← HQ.out] at hrs
          have HNX := Lib.hid hrs.symm
          have s7 : W5.heap.size ≤ w6.heap.size := Nat.le_trans s6 hb6.size
          clear hb6 C6 hrs
          generalize Bs.runAt g S (t : Int) = R at *
          have hw : IntKind.i64.wrap (q + (R.length : Int)) = q + (R.length : Int) := IntWalk.i64_in _ ⟨by omega, by omega⟩
          go_wp2_with fail
          with_reducible refine (C7.out).mono ?_
          rintro e w7 ⟨⟨A7, c7, rfl, ho7⟩, hb7⟩
          have HB7 := Lib.hid (HB6.out.trans (hb7.mono s7))
          clear ho7 hb7 C7
          go_wp2
          go_roundw
          case rel => exact ⟨t + 1, q + (R.length : Int), by omega, by first | rfl | rw [hw], by go_num, HNX.out, by omega, by omega, HB7.out⟩
          case measure => simp [intOf]; omega
        · obtain rfl : t = E := by omega
          have d1 : decide ((t : Int) < (t : Int)) = false := by simp
          have d2 : decide (t < t) = false := by simp
          go_wp2_with fail
          with_reducible refine (C6.out).mono ?_
          rintro e w6 ⟨rfl, hb6⟩
          have HG6 := Lib.hid (HGr.out.below hb6 hsr)
          have HB6 := Lib.hid (HB5.out.trans ((HBW.out.trans (hb6.mono s6)).mono (Nat.le_trans s1 hs5)))
          have c8 := CA.out w6 HG6.out
          have hqs : q = Bs.sumT g := by rw [HQ.out]; exact HSUM.out
          rw [← hqs] at c8
          have C8 := Lib.hid c8
          have hqq : (q == q) = true := by simp
          clear hb6 C6 c8 hqs
          go_wp2_with fail
          with_reducible refine (C8.out).mono ?_
          rintro e w8 ⟨rfl, rfl⟩
          go_wp2
          go_ret
          exact ⟨rfl, HB6.out⟩
end Go.Proofs.Ytnbgekbfccejdaa
