/-
  THE WALK OF laws.FnRunningAt.
-/
import Derived.Test.YtnbgekbfccejdaaK17
import Derived.Test.YtnbgekbfccejdaaK16
import Derived.Test.YtnbgekbfccejdaaK14
import Derived.Test.YtnbgekbfccejdaaK15
import Derived.Test.YtnbgekbfccejdaaW37
namespace Go.Proofs.Ytnbgekbfccejdaa
open Go.RowKit
set_option maxRecDepth 20000 in
set_option maxHeartbeats 6400000 in
theorem fnRunningAt_walk (A : Option Addr) (c : Nat) (l : List Int) (w : World) (hb : RB w 0 w.heap.size A l) (hlc : l.length ≤ c ∧ c ≤ maxLen) :
    Calls Try.prog 11 #[.slice A l.length c] w fun e w' => e = .returned (.bool true) ∧ Below w.heap.size w w' := by
  have hl63 : l.length ≤ 9223372036854775807 := by have := hlc.2; unfold maxLen at this; omega
  by_cases hbig : 1048576 < l.length
  · go_enter Try.func11, Try.ntmps11
    go_wp2
    go_ret
    exact ⟨rfl, Below.refl _ _⟩
  · have C1 := Lib.hid (DrawRunningAt_any A c l w hb hlc.1 hlc.2)
    clear hb
    go_enter Try.func11, Try.ntmps11
    go_wp2_with fail
    refine (C1.out).mono ?_
    rintro e w1 ⟨⟨A1, c1, g, A2, c2, m, wk, A3, c3, S, now, rfl, hg, hg16, hgc, hcm, hm, hm100, hmc, hmm, hS, hS100, hSc, hSm⟩, hb1⟩
    have HG := Lib.hid hg
    have HM := Lib.hid hm
    have HS := Lib.hid hS
    have s1 := hb1.size
    have hl9 : g.length ≤ 9223372036854775807 := by omega
    have hm9 : m.length ≤ 9223372036854775807 := by omega
    have hS9 : S.length ≤ 9223372036854775807 := by omega
    obtain ⟨L, hL⟩ : ∃ L, L = Bs.runL g m wk S now := ⟨_, rfl⟩
    have q2 := RunningAt_any A1 c1 g A2 c2 m A3 c3 S wk now w.heap.size w1.heap.size w.heap.size w1.heap.size w.heap.size w1.heap.size w1 HG.out (Nat.le_refl _) HM.out (Nat.le_refl _) HS.out (Nat.le_refl _) hl9 hm9 hS9
    have qs := fun W hg hm hr hs => RunningAtS_any A1 c1 g A2 c2 m A3 c3 S wk now w.heap.size w1.heap.size w.heap.size w1.heap.size w.heap.size w1.heap.size W hg hs hm hs hr hs hl9 hm9 hS9
    have qv := fun W hg hm hr hs => ValidStarts_any A1 c1 g A2 c2 m A3 c3 S wk w.heap.size w1.heap.size w.heap.size w1.heap.size w.heap.size w1.heap.size W hg hs hm hs hr hs hl9 hm9 hS9
    have qr := fun now' W hg hm hr hs => RunningAt_any A1 c1 g A2 c2 m A3 c3 S wk now' w.heap.size w1.heap.size w.heap.size w1.heap.size w.heap.size w1.heap.size W hg hs hm hs hr hs hl9 hm9 hS9
    have qe := fun W hg hm hr hs => EndTime_any A1 c1 g A2 c2 m A3 c3 S wk w.heap.size w1.heap.size w.heap.size w1.heap.size w.heap.size w1.heap.size W hg hs hm hs hr hs hl9 hm9 hS9
    have hlen : L.length ≤ 1000 := by rw [hL]; exact runL_k g m wk S now
    rw [← hL] at q2 qs
    have HL := Lib.hid hL
    have C2 := Lib.hid q2
    have CS := Lib.hid qs
    have CV := Lib.hid qv
    have CR := Lib.hid qr
    have CE := Lib.hid qe
    have HB1 := Lib.hid hb1
    clear C1 hg hm hS q2 qs qv qr qe hb1 hL
    go_wp2_with fail
    with_reducible refine (C2.out).mono ?_
    rintro e w2 hr2
    obtain ⟨A4, c4, rfl, q4, hb2, hlc4, hcm4⟩ := hr2.ri
    have s2 := hb2.size
    have HQ2 := Lib.hid q4
    have HG2 := Lib.hid (HG.out.below hb2 (Nat.le_refl _))
    have HM2 := Lib.hid (HM.out.below hb2 (Nat.le_refl _))
    have HS2 := Lib.hid (HS.out.below hb2 (Nat.le_refl _))
    have HB2 := Lib.hid (HB1.out.trans (hb2.mono s1))
    have C3 := Lib.hid (CS.out w2 HG2.out HM2.out HS2.out s2)
    clear hb2 hr2 q4 C2 HG HM HS HB1
    go_wp2_with fail
    with_reducible refine (C3.out).mono ?_
    rintro e w3 hr3
    obtain ⟨A5, c5, rfl, q5, hb3, hlc5, hcm5⟩ := hr3.ri
    have s3 := hb3.size
    have hs3 : w1.heap.size ≤ w3.heap.size := Nat.le_trans s2 s3
    have HQ3 := Lib.hid (HQ2.out.below hb3 (Nat.le_refl _))
    have HG3 := Lib.hid (HG2.out.below hb3 s2)
    have HM3 := Lib.hid (HM2.out.below hb3 s2)
    have HS3 := Lib.hid (HS2.out.below hb3 s2)
    have HB3 := Lib.hid (HB2.out.trans (hb3.mono (Nat.le_trans s1 s2)))
    have C4 := Lib.hid (equalInts_same A4 c4 A5 c5 L _ _ _ _ w3 HQ3.out q5 (by omega))
    clear hb3 hr3 q5 C3 HG2 HM2 HS2 HB2 HQ2
    go_wp2_with fail
    with_reducible refine (C4.out).mono ?_
    rintro e w4 ⟨rfl, n, rfl⟩
    have hs4 : w1.heap.size ≤ (w3.drewN n).heap.size := hs3
    have c5 := CV.out (w3.drewN n) (HG3.out.drewN n) (HM3.out.drewN n) (HS3.out.drewN n) hs4
    obtain ⟨V, hV⟩ : ∃ V, V = Bs.stV g m wk S := ⟨_, rfl⟩
    rw [← hV] at c5
    have C5 := Lib.hid c5
    have HV := Lib.hid hV
    clear C4 c5 hV CV
    go_wp2_with fail
    with_reducible refine (C5.out).mono ?_
    rintro e w5 ⟨rfl, hb5⟩
    have s5 : w3.heap.size ≤ w5.heap.size := hb5.size
    have hs5 : w1.heap.size ≤ w5.heap.size := Nat.le_trans hs3 s5
    have HG5 := Lib.hid ((HG3.out.drewN n).below hb5 hs4)
    have HM5 := Lib.hid ((HM3.out.drewN n).below hb5 hs4)
    have HS5 := Lib.hid ((HS3.out.drewN n).below hb5 hs4)
    have HQ5 := Lib.hid ((HQ3.out.drewN n).below hb5 s3)
    have HB5 := Lib.hid ((HB3.out.drewN n).trans (hb5.mono (Nat.le_trans s1 hs3)))
    clear hb5 C5 HG3 HM3 HS3 HQ3 HB3
    obtain ⟨W5, rfl⟩ : ∃ W5, W5 = w5 := ⟨_, rfl⟩
    cases V
    · have C6 := Lib.hid (CS.out W5 HG5.out HM5.out HS5.out hs5)
      clear HV CS CR CE
      go_wp2_with fail
      with_reducible refine (C6.out).mono ?_
      rintro e w6 hr6
      obtain ⟨A6, c6, rfl, q6, hb6, _, _⟩ := hr6.ri
      have HB6 := Lib.hid (HB5.out.trans (hb6.mono (Nat.le_trans s1 hs5)))
      have C7 := Lib.hid (equalInts_same A4 c4 A6 c6 L _ _ _ _ w6 (HQ5.out.below hb6 (Nat.le_trans s3 s5)) q6 (by omega))
      clear hb6 hr6 q6 C6
      go_wp2_with fail
      with_reducible refine (C7.out).mono ?_
      rintro e w7 ⟨rfl, n7, rfl⟩
      go_wp2
      go_ret
      exact ⟨rfl, HB6.out.drewN _⟩
    · have HV2 := Lib.hid HV.out.symm
      have HLR := Lib.hid (show L = Bs.runAt g S now from by rw [HL.out, Bs.runL_yes HV2.out])
      clear HV HL CS
      obtain ⟨hcan, hk, _⟩ := Bs.stV_iff.1 HV2.out
      have hF := valid_fine (Bs.canV_iff.1 hcan).1
      have h8 := Bs.fine_len hF
      have HSB := Lib.hid (fun i => Bs.clk_at hk i)
      have HTT := Lib.hid (fun i (hi : i < g.length) => Bs.fine_time' hF hi)
      have HLEN := Lib.hid (Bs.clk_len hk)
      have HCT := Lib.hid (fun (k : Nat) (hk : k < g.length) => show L.contains (k : Int) = (decide (Bs.giZ S k ≤ now) && decide (now < Bs.giZ S k + Bs.timeOf g k)) from by
        rw [HLR.out, Bool.eq_iff_iff, Bs.contains_iff']
        unfold Bs.runAt
        rw [Bs.mem_pick_nat]
        exact ⟨fun h => h.2, fun h => ⟨hk, h⟩⟩)
      have hfit := Bs.run_fits HV2.out now
      have HRO := Lib.hid (Bs.run_ok HV2.out now)
      rw [← HLR.out] at hfit HRO
      have HWK := Lib.hid hfit.1
      have CT := Lib.hid (fun W hg hm hq hs hs2 => RunsTogether_any A1 c1 g A2 c2 m A4 c4 L w.heap.size w1.heap.size w.heap.size w1.heap.size w1.heap.size w2.heap.size W hg hs hm hs hq hs2 hl9 hm9 (by omega))
      clear hcan hk hF hfit HLR CR CE
      go_wp2
      go_loopw [9] (fun i wr => ∃ (k n : Nat), k ≤ g.length ∧ i = .int .i64 k ∧ wr = W5.drewN n) (fun i _ => g.length - (intOf i).toNat)
      case atStart => exact ⟨0, 0, Nat.zero_le _, rfl, rfl⟩
      case round =>
        obtain ⟨k, n, hk, rfl, rfl⟩ := hrel
        by_cases hlt : k < g.length
        · have hks : k < S.length := by have := HLEN.out; omega
          obtain ⟨bS, oS, rfl, _, _, hc⟩ := HS5.out.at_ hks
          obtain ⟨bg, og, N, cN, rfl, _, _, t0, _, _, _, hnc, hcN, hN⟩ := HG5.out k hlt
          rw [← Bs.giZ_at hks] at hc
          have hsb := HSB.out k
          have htt := HTT.out k hlt
          have hct := HCT.out k hlt
          rw [time_at hlt] at hct
          have q4 := fun j => lisIn_quiet2 A4 c4 L (k : Int) _ _ W5 HQ5.out (by omega) n j
          have i0 : (0 : Int) ≤ (k : Int) := by omega
          have i1 : (k : Int) < (S.length : Int) := by omega
          have i2 : (k : Int) < (g.length : Int) := by omega
          clear hN
          generalize g[k].time = tk at *
          generalize Bs.giZ S k = sk at *
          have hw : IntKind.i64.wrap (sk + tk) = sk + tk := IntWalk.i64_in _ ⟨by omega, by omega⟩
          by_cases g1 : sk ≤ now
          · have d1 : decide (sk ≤ now) = true := by simp [g1]
            by_cases g2 : now < sk + tk
            · have d2 : decide (now < sk + tk) = true := by simp [g2]
              rw [hct, d1, d2] at q4
              have C6 := fun j => Lib.hid (q4 j)
              clear q4 hct CT
              go_wp2
              go_quiet ((go_at_call 25; with_reducible exact (C6 _).out))
              go_wp2
              go_roundw
              case rel => exact ⟨k + 1, _, by omega, by go_num, by first | rfl | rw [World.drewN_drewN]⟩
              case measure => simp [intOf]; omega
            · have d2 : decide (now < sk + tk) = false := by simp; omega
              rw [hct, d1, d2] at q4
              have C6 := fun j => Lib.hid (q4 j)
              clear q4 hct CT
              go_wp2
              go_quiet ((go_at_call 25; with_reducible exact (C6 _).out))
              go_wp2
              go_roundw
              case rel => exact ⟨k + 1, _, by omega, by go_num, by first | rfl | rw [World.drewN_drewN]⟩
              case measure => simp [intOf]; omega
          · have d1 : decide (sk ≤ now) = false := by simp; omega
            rw [hct, d1] at q4
            have C6 := fun j => Lib.hid (q4 j)
            clear q4 hct CT
            go_wp2
            go_quiet ((go_at_call 25; with_reducible exact (C6 _).out))
            go_wp2
            go_roundw
            case rel => exact ⟨k + 1, _, by omega, by go_num, by first | rfl | rw [World.drewN_drewN]⟩
            case measure => simp [intOf]; omega
        · obtain rfl : k = g.length := by omega
          have c7 := CT.out (W5.drewN n) (HG5.out.drewN n) (HM5.out.drewN n) (HQ5.out.drewN n) hs5 (Nat.le_trans s3 s5)
          rw [HRO.out] at c7
          have C7 := Lib.hid c7
          have hd : decide ((L.length : Int) ≤ wk) = true := by have := HWK.out; simpa using this
          clear c7 CT HCT
          go_wp2_with fail
          with_reducible refine (C7.out).mono ?_
          rintro e w7 ⟨rfl, hb7⟩
          have HB7 := Lib.hid ((HB5.out.drewN n).trans (hb7.mono (Nat.le_trans s1 hs5)))
          clear hb7 C7
          go_wp2
          go_ret
          exact ⟨rfl, HB7.out⟩
end Go.Proofs.Ytnbgekbfccejdaa
