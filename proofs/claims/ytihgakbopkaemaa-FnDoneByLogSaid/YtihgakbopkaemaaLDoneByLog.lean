/-
  THE WALK OF laws.FnDoneByLog.
-/
import Derived.Test.YtihgakbopkaemaaLEvents
import Derived.Test.YtihgakbopkaemaaK40
import Derived.Test.YtihgakbopkaemaaK29
import Derived.Test.YtihgakbopkaemaaK39
import Derived.Test.YtihgakbopkaemaaK41
import Derived.Test.YtihgakbopkaemaaK30
import Derived.Test.YtihgakbopkaemaaK14
import Derived.Test.YtihgakbopkaemaaK15
import Derived.Test.YtihgakbopkaemaaL5
namespace Go.Proofs.Ytihgakbopkaemaa
open Go.RowKit
set_option linter.unusedVariables false
set_option maxRecDepth 20000 in
set_option maxHeartbeats 6400000 in
theorem fnDoneByLog_walk (A : Option Addr) (c : Nat) (l : List Int) (w : World) (hb : RB w 0 w.heap.size A l) (hlc : l.length ≤ c ∧ c ≤ maxLen) :
    Calls Try.prog 6 #[.slice A l.length c] w fun e w' => e = .returned (.bool true) ∧ Below w.heap.size w w' := by
  have hl63 : l.length ≤ 9223372036854775807 := by have := hlc.2; unfold maxLen at this; omega
  by_cases hbig : 1048576 < l.length
  · go_enter Try.func6, Try.ntmps6
    go_wp2
    go_ret
    exact ⟨rfl, Below.refl _ _⟩
  · have C1 := Lib.hid (DrawRunningAt_any A c l w hb hlc.1 hlc.2)
    clear hb
    go_enter Try.func6, Try.ntmps6
    go_wp2_with fail
    refine (C1.out).mono ?_
    rintro e w1 ⟨⟨A1, c1, g, A2, c2, m, wk, A3, c3, S, now, rfl, hg, hg16, hgc, hcm, hm, hm100, hmc, hmm, hS, hS100, hSc, hSm⟩, hb1⟩
    have HG := Lib.hid hg
    have HM := Lib.hid hm
    have HS := Lib.hid hS
    have s1 := hb1.size
    have hl9 : g.length ≤ 9223372036854775807 := by omega
    have hm9 : m.length ≤ 9223372036854775807 := by omega
    have hS9 : S.length ≤ 9223372036854775807 := by omega
    obtain ⟨R, hR⟩ : ∃ R, R = Bs.runL g m wk S now := ⟨_, rfl⟩
    obtain ⟨L, hL⟩ : ∃ L, L = Bs.logL g m wk S := ⟨_, rfl⟩
    obtain ⟨V, hV⟩ : ∃ V, V = Bs.stV g m wk S := ⟨_, rfl⟩
    obtain ⟨b, hlb⟩ : ∃ b, b = Bs.logV g L := ⟨_, rfl⟩
    have q2 := RunningAt_any A1 c1 g A2 c2 m A3 c3 S wk now w.heap.size w1.heap.size w.heap.size w1.heap.size w.heap.size w1.heap.size w1 HG.out (Nat.le_refl _) HM.out (Nat.le_refl _) HS.out (Nat.le_refl _) hl9 hm9 hS9
    have q3 := fun W hg hm hr hs => LogOf_any A1 c1 g A2 c2 m A3 c3 S wk w.heap.size w1.heap.size w.heap.size w1.heap.size w.heap.size w1.heap.size W hg hs hm hs hr hs hl9 hm9 hS9
    have qs := fun W hg hm hr hs => RunningAtS_any A1 c1 g A2 c2 m A3 c3 S wk now w.heap.size w1.heap.size w.heap.size w1.heap.size w.heap.size w1.heap.size W hg hs hm hs hr hs hl9 hm9 hS9
    have qv := fun W hg hm hr hs => ValidStarts_any A1 c1 g A2 c2 m A3 c3 S wk w.heap.size w1.heap.size w.heap.size w1.heap.size w.heap.size w1.heap.size W hg hs hm hs hr hs hl9 hm9 hS9
    have hlen : R.length ≤ 1000 := by rw [hR]; exact runL_k g m wk S now
    have hlog : L.length ≤ 4000 := by
      rw [hL]
      cases h : Bs.stV g m wk S
      · rw [Bs.logL_no h]; simp
      · rw [Bs.logL_yes h, Bs.lg_len h]; omega
    rw [← hR] at q2 qs
    rw [← hL] at q3
    rw [← hV] at qv
    have HL := Lib.hid hL
    have HV := Lib.hid hV
    have HLB := Lib.hid hlb
    have C2 := Lib.hid q2
    have CL := Lib.hid q3
    have CS := Lib.hid qs
    have CV := Lib.hid qv
    have HB1 := Lib.hid hb1
    clear C1 hg hm hS q2 q3 qs qv hb1 hL hR hV hlb
    go_wp2_with fail
    with_reducible refine (C2.out).mono ?_
    rintro e w2 hr2
    obtain ⟨A4, c4, rfl, q4, hb2, hlc4, hcm4⟩ := hr2.ri
    have s2 := hb2.size
    have HR2 := Lib.hid q4
    have HG2 := Lib.hid (HG.out.below hb2 (Nat.le_refl _))
    have HM2 := Lib.hid (HM.out.below hb2 (Nat.le_refl _))
    have HS2 := Lib.hid (HS.out.below hb2 (Nat.le_refl _))
    have HB2 := Lib.hid (HB1.out.trans (hb2.mono s1))
    have C3 := Lib.hid (CL.out w2 HG2.out HM2.out HS2.out s2)
    clear hb2 hr2 q4 C2 CL HG HM HS HB1
    go_wp2_with fail
    with_reducible refine (C3.out).mono ?_
    rintro e w3 ⟨⟨A5, c5, rfl, ho5⟩, hb3⟩
    have s3 := hb3.size
    have hcap5 := ho5.cap
    have hs3 : w1.heap.size ≤ w3.heap.size := Nat.le_trans s2 s3
    have HQ3 := Lib.hid (ho5.re.more (lo' := w2.heap.size) (hi' := w3.heap.size) (Nat.le_refl _) (Nat.le_refl _))
    have HR3 := Lib.hid (HR2.out.below hb3 (Nat.le_refl _))
    have HG3 := Lib.hid (HG2.out.below hb3 s2)
    have HM3 := Lib.hid (HM2.out.below hb3 s2)
    have HS3 := Lib.hid (HS2.out.below hb3 s2)
    have HB3 := Lib.hid (HB2.out.trans (hb3.mono (Nat.le_trans s1 s2)))
    have C4 := Lib.hid (CS.out w3 HG3.out HM3.out HS3.out hs3)
    clear hb3 ho5 C3 HG2 HM2 HS2 HB2 HR2
    go_wp2_with fail
    with_reducible refine (C4.out).mono ?_
    rintro e w4 hr4
    obtain ⟨A6, c6, rfl, q6, hb4, _, _⟩ := hr4.ri
    have s4 := hb4.size
    have hs4 : w1.heap.size ≤ w4.heap.size := Nat.le_trans hs3 s4
    have HQ4 := Lib.hid (HQ3.out.below hb4 (Nat.le_refl _))
    have HR4 := Lib.hid (HR3.out.below hb4 s3)
    have HG4 := Lib.hid (HG3.out.below hb4 hs3)
    have HM4 := Lib.hid (HM3.out.below hb4 hs3)
    have HS4 := Lib.hid (HS3.out.below hb4 hs3)
    have HB4 := Lib.hid (HB3.out.trans (hb4.mono (by omega)))
    have C5 := Lib.hid (equalInts_same A4 c4 A6 c6 R _ _ _ _ w4 HR4.out q6 (by omega))
    clear hb4 hr4 q6 C4 HG3 HM3 HS3 HB3 HR3 HQ3
    go_wp2_with fail
    with_reducible refine (C5.out).mono ?_
    rintro e w5 ⟨rfl, n, rfl⟩
    obtain ⟨W5, hW5⟩ : ∃ W5, W5 = w4.drewN n := ⟨_, rfl⟩
    have sW : W5.heap.size = w4.heap.size := by rw [hW5]; rfl
    replace HG4 := Lib.hid (HG4.out.drewN n)
    replace HM4 := Lib.hid (HM4.out.drewN n)
    replace HS4 := Lib.hid (HS4.out.drewN n)
    replace HQ4 := Lib.hid (HQ4.out.drewN n)
    replace HR4 := Lib.hid (HR4.out.drewN n)
    replace HB4 := Lib.hid (HB4.out.drewN n)
    rw [← hW5] at HG4 HM4 HS4 HQ4 HR4 HB4 ⊢
    clear hW5 C5
    have hs5 : w1.heap.size ≤ W5.heap.size := by omega
    have hq5 : w3.heap.size ≤ W5.heap.size := by omega
    have cg := ValidLog_any A1 c1 g A5 c5 L w.heap.size w1.heap.size w2.heap.size w3.heap.size W5 HG4.out hs5 HQ4.out hq5 hl9 (by omega)
    rw [← HLB.out] at cg
    have CG := Lib.hid cg
    clear cg
    cases b
    · clear HLB HV HL CV HQ4
      go_wp2_with fail
      with_reducible refine (CG.out).mono ?_
      rintro e w6 ⟨rfl, hb6⟩
      have s6 := hb6.size
      have hs6 : w1.heap.size ≤ w6.heap.size := Nat.le_trans hs5 s6
      have C8 := Lib.hid (CS.out w6 (HG4.out.below hb6 hs5) (HM4.out.below hb6 hs5) (HS4.out.below hb6 hs5) hs6)
      have HBX := Lib.hid (HB4.out.trans (hb6.mono (by omega)))
      have HRX := Lib.hid (HR4.out.below hb6 (by omega))
      have sX : w2.heap.size ≤ w6.heap.size := by omega
      clear CS hb6 CG
      go_wp2_with fail
      with_reducible refine (C8.out).mono ?_
      rintro e w8 hr8
      obtain ⟨A8, c8, rfl, q8, hb8, _, _⟩ := hr8.ri
      have HB8 := Lib.hid (HBX.out.trans (hb8.mono (by omega)))
      have C9 := Lib.hid (equalInts_same A4 c4 A8 c8 R _ _ _ _ w8 (HRX.out.below hb8 sX) q8 (by omega))
      clear hb8 hr8 q8 C8
      go_wp2_with fail
      with_reducible refine (C9.out).mono ?_
      rintro e w9 ⟨rfl, n9, rfl⟩
      go_wp2
      go_ret
      exact ⟨rfl, HB8.out.drewN _⟩
    by_cases hll : L.length = 2 * g.length
    · have z3 : ((L.length : Int) != 2 * (g.length : Int)) = false := by simp; omega
      have z4 : (L.length != 2 * g.length) = false := by simp; omega
      clear hll
      have CVW := CV
      clear CV
      cases V
      · clear HLB HV HL
        go_wp2_with fail
        with_reducible refine (CG.out).mono ?_
        rintro e w6 ⟨rfl, hb6⟩
        have s6 := hb6.size
        have hs6 : w1.heap.size ≤ w6.heap.size := Nat.le_trans hs5 s6
        have HG6 := Lib.hid (HG4.out.below hb6 hs5)
        have HM6 := Lib.hid (HM4.out.below hb6 hs5)
        have HS6 := Lib.hid (HS4.out.below hb6 hs5)
        have HR6 := Lib.hid (HR4.out.below hb6 (by omega))
        have HB6 := Lib.hid (HB4.out.trans (hb6.mono (by omega)))
        have C6 := Lib.hid (CVW.out w6 HG6.out HM6.out HS6.out hs6)
        clear hb6 CG HG4 HM4 HS4 HR4 HB4 CVW HQ4
        go_wp2_with fail
        with_reducible refine (C6.out).mono ?_
        rintro e w7 ⟨rfl, hb7⟩
        have s7 := hb7.size
        have hs7 : w1.heap.size ≤ w7.heap.size := Nat.le_trans hs6 s7
        have C8 := Lib.hid (CS.out w7 (HG6.out.below hb7 hs6) (HM6.out.below hb7 hs6) (HS6.out.below hb7 hs6) hs7)
        have HBX := Lib.hid (HB6.out.trans (hb7.mono (by omega)))
        have HRX := Lib.hid (HR6.out.below hb7 (by omega))
        have sX : w2.heap.size ≤ w7.heap.size := by omega
        clear CS hb7 C6
        go_wp2_with fail
        with_reducible refine (C8.out).mono ?_
        rintro e w8 hr8
        obtain ⟨A8, c8, rfl, q8, hb8, _, _⟩ := hr8.ri
        have HB8 := Lib.hid (HBX.out.trans (hb8.mono (by omega)))
        have C9 := Lib.hid (equalInts_same A4 c4 A8 c8 R _ _ _ _ w8 (HRX.out.below hb8 sX) q8 (by omega))
        clear hb8 hr8 q8 C8
        go_wp2_with fail
        with_reducible refine (C9.out).mono ?_
        rintro e w9 ⟨rfl, n9, rfl⟩
        go_wp2
        go_ret
        exact ⟨rfl, HB8.out.drewN _⟩
      · have HV2 := Lib.hid HV.out.symm
        have HT := Lib.hid (Bs.stV_facts HV2.out)
        have hLL : L = Bs.lgK g S 221 := by rw [HL.out, Bs.logL_yes HV2.out]
        have HLL := Lib.hid hLL
        have HSG := Lib.hid (show S.length = g.length from HT.out.2.2.1)
        have h8 : g.length ≤ 8 := HT.out.2.1
        have cd := fun W hg hs hq hq2 => DoneBy_any A1 c1 g A5 c5 L now w.heap.size w1.heap.size w2.heap.size w3.heap.size W hg hs hq hq2 hl9 (by omega)
        rw [Bs.doneL_yes HLB.out.symm] at cd
        have hdn := Bs.doneC_len g L now
        have HD := Lib.hid (fun i (hi : i < g.length) => show (Bs.doneC g L now).contains (i : Int) = decide (Bs.giZ S i + Bs.timeOf g i ≤ now) from by
          have h := HLL.out
          rw [h]
          exact Bs.lg_done HV2.out hi now)
        generalize Bs.doneC g L now = D at *
        have CD := Lib.hid cd
        clear cd hLL HLL HLB HV HL CS
        go_wp2_with fail
        with_reducible refine (CG.out).mono ?_
        rintro e w6 ⟨rfl, hb6⟩
        have s6 := hb6.size
        have hs6 : w1.heap.size ≤ w6.heap.size := Nat.le_trans hs5 s6
        have HG6 := Lib.hid (HG4.out.below hb6 hs5)
        have HM6 := Lib.hid (HM4.out.below hb6 hs5)
        have HS6 := Lib.hid (HS4.out.below hb6 hs5)
        have HQ6 := Lib.hid (HQ4.out.below hb6 hq5)
        have HB6 := Lib.hid (HB4.out.trans (hb6.mono (by omega)))
        have C6 := Lib.hid (CVW.out w6 HG6.out HM6.out HS6.out hs6)
        clear hb6 CG HG4 HM4 HS4 HR4 HB4 CVW HQ4
        go_wp2_with fail
        with_reducible refine (C6.out).mono ?_
        rintro e w7 ⟨rfl, hb7⟩
        have s7 := hb7.size
        have hs7 : w1.heap.size ≤ w7.heap.size := Nat.le_trans hs6 s7
        have HG7 := Lib.hid (HG6.out.below hb7 hs6)
        have HS7 := Lib.hid (HS6.out.below hb7 hs6)
        have HQ7 := Lib.hid (HQ6.out.below hb7 (by omega))
        have HB7 := Lib.hid (HB6.out.trans (hb7.mono (by omega)))
        have C7 := Lib.hid (CD.out w7 HG7.out hs7 HQ7.out (by omega))
        clear hb7 C6 HG6 HM6 HS6 HQ6 HB6 CD
        go_wp2_with fail
        with_reducible refine (C7.out).mono ?_
        rintro e w8 hr8
        obtain ⟨A8, c8, rfl, q8, hb8, _, _⟩ := hr8.ri
        have s8 := hb8.size
        have HG8 := Lib.hid (HG7.out.below hb8 hs7)
        have HS8 := Lib.hid (HS7.out.below hb8 hs7)
        have HB8 := Lib.hid (HB7.out.trans (hb8.mono (by omega)))
        have HQ8 := Lib.hid q8
        clear hb8 hr8 q8 C7 HG7 HS7 HQ7 HB7 HV2 z3 z4
        go_wp2
        go_loopw [11] (fun i wr => ∃ k q : Nat, k ≤ g.length ∧ i = .int .i64 (k : Int) ∧ wr = w8.drewN q) (fun i _ => g.length - (intOf i).toNat)
        case atStart => exact ⟨0, 0, Nat.zero_le _, rfl, rfl⟩
        case round =>
          obtain ⟨k, q, hk, rfl, rfl⟩ := hrel
          by_cases hlt : k < g.length
          · obtain ⟨bS, oS, rfl, _, _, qS⟩ := HS8.out k (by have := HSG.out; omega)
            rw [← Bs.giZ_at (by have := HSG.out; omega)] at qS
            obtain ⟨bG, oG, N, cN, rfl, _, _, qG, _⟩ := HG8.out k hlt
            rw [← time_at hlt] at qG
            have hx := HT.out.2.2.2.1 k hlt
            have hy := HT.out.2.2.2.2.1 k hlt
            have i0 : (0 : Int) ≤ (k : Int) := by omega
            have i1 : (k : Int) < (g.length : Int) := by omega
            have i2 : (k : Int) < (S.length : Int) := by have := HSG.out; omega
            have hd := HD.out k hlt
            have c77 := fun (j : Nat) => lisIn_quiet A8 c8 D (k : Int) _ _ w8 HQ8.out (by omega) j
            have c88 := fun (p j : Nat) => lisIn_quiet2 A8 c8 D (k : Int) _ _ w8 HQ8.out (by omega) p j
            rw [hd] at c77 c88
            have C7 := Lib.hid c77
            have C8 := Lib.hid c88
            generalize Bs.giZ S k = x at *
            generalize Bs.timeOf g k = y at *
            have d0 : (decide (x + y ≤ now) != decide (x + y ≤ now)) = false := by simp
            clear hd c77 c88
            go_wp2
            go_quiet ((first | (go_at_call 19; with_reducible exact C8.out _ _) | (go_at_call 19; with_reducible exact C7.out _)))
            go_wp2
            go_roundw
            case rel => exact ⟨k + 1, _, by omega, by go_num, by first | rfl | rw [World.drewN_drewN]⟩
            case measure => simp [intOf]; omega
          · have d1 : ¬ (k : Int) < (g.length : Int) := by omega
            go_wp2
            go_ret
            exact ⟨rfl, HB8.out.drewN _⟩
    · have z3 : ((L.length : Int) != 2 * (g.length : Int)) = true := by simp; omega
      have z4 : (L.length != 2 * g.length) = true := by simp; omega
      clear hll
      clear HLB HV HL CV HQ4
      go_wp2_with fail
      with_reducible refine (CG.out).mono ?_
      rintro e w6 ⟨rfl, hb6⟩
      have s6 := hb6.size
      have hs6 : w1.heap.size ≤ w6.heap.size := Nat.le_trans hs5 s6
      have C8 := Lib.hid (CS.out w6 (HG4.out.below hb6 hs5) (HM4.out.below hb6 hs5) (HS4.out.below hb6 hs5) hs6)
      have HBX := Lib.hid (HB4.out.trans (hb6.mono (by omega)))
      have HRX := Lib.hid (HR4.out.below hb6 (by omega))
      have sX : w2.heap.size ≤ w6.heap.size := by omega
      clear CS hb6 CG
      go_wp2_with fail
      with_reducible refine (C8.out).mono ?_
      rintro e w8 hr8
      obtain ⟨A8, c8, rfl, q8, hb8, _, _⟩ := hr8.ri
      have HB8 := Lib.hid (HBX.out.trans (hb8.mono (by omega)))
      have C9 := Lib.hid (equalInts_same A4 c4 A8 c8 R _ _ _ _ w8 (HRX.out.below hb8 sX) q8 (by omega))
      clear hb8 hr8 q8 C8
      go_wp2_with fail
      with_reducible refine (C9.out).mono ?_
      rintro e w9 ⟨rfl, n9, rfl⟩
      go_wp2
      go_ret
      exact ⟨rfl, HB8.out.drewN _⟩
end Go.Proofs.Ytihgakbopkaemaa
