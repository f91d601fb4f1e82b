/-
  THE WALK OF laws.FnLogOf.
-/
import Derived.Test.YtihgakbopkaemaaLEvents
import Derived.Test.YtihgakbopkaemaaW119
import Derived.Test.YtihgakbopkaemaaK29
import Derived.Test.YtihgakbopkaemaaMath100
import Derived.Test.YtihgakbopkaemaaW114
namespace Go.Proofs.Ytihgakbopkaemaa
open Go.RowKit
set_option linter.unusedVariables false
set_option maxRecDepth 20000 in
set_option maxHeartbeats 6400000 in
theorem fnLogOf_walk (A : Option Addr) (c : Nat) (l : List Int) (w : World) (hb : RB w 0 w.heap.size A l) (hlc : l.length ≤ c ∧ c ≤ maxLen) :
    Calls Try.prog 3 #[.slice A l.length c] w fun e w' => e = .returned (.bool true) ∧ Below w.heap.size w w' := by
  have hl63 : l.length ≤ 9223372036854775807 := by have := hlc.2; unfold maxLen at this; omega
  by_cases hbig : 1048576 < l.length
  · go_enter Try.func3, Try.ntmps3
    go_wp2
    go_ret
    exact ⟨rfl, Below.refl _ _⟩
  · have C1 := Lib.hid (DrawLogOf_any A c l w hb hlc.1 hlc.2)
    clear hb
    go_enter Try.func3, Try.ntmps3
    go_wp2_with fail
    refine (C1.out).mono ?_
    rintro e w1 ⟨⟨A1, c1, g, A2, c2, m, wk, A3, c3, S, rfl, hg, hg16, hgc, hcm, hm, hm100, hmc, hmm, hS, hS100, hSc, hSm⟩, hb1⟩
    have HG := Lib.hid hg
    have HM := Lib.hid hm
    have HS := Lib.hid hS
    have s1 := hb1.size
    have hl9 : g.length ≤ 9223372036854775807 := by omega
    have hm9 : m.length ≤ 9223372036854775807 := by omega
    have hS9 : S.length ≤ 9223372036854775807 := by omega
    obtain ⟨L, hL⟩ : ∃ L, L = Bs.logL g m wk S := ⟨_, rfl⟩
    have q2 := LogOf_any A1 c1 g A2 c2 m A3 c3 S wk w.heap.size w1.heap.size w.heap.size w1.heap.size w.heap.size w1.heap.size w1 HG.out (Nat.le_refl _) HM.out (Nat.le_refl _) HS.out (Nat.le_refl _) hl9 hm9 hS9
    have qs := fun W hg hm hr hs => LogOfS_any A1 c1 g A2 c2 m A3 c3 S wk w.heap.size w1.heap.size w.heap.size w1.heap.size w.heap.size w1.heap.size W hg hs hm hs hr hs hl9 hm9 hS9
    have hlen : L.length ≤ 4000 := by
      rw [hL]
      cases h : Bs.stV g m wk S
      · rw [Bs.logL_no h]; simp
      · rw [Bs.logL_yes h, Bs.lg_len h]; omega
    rw [← hL] at q2 qs
    have HL := Lib.hid hL
    have C2 := Lib.hid q2
    have CS := Lib.hid qs
    have HB1 := Lib.hid hb1
    clear C1 hg hm hS q2 qs hb1 hL
    go_wp2_with fail
    with_reducible refine (C2.out).mono ?_
    rintro e w2 ⟨⟨A4, c4, rfl, ho4⟩, hb2⟩
    have s2 := hb2.size
    have hcap4 := ho4.cap
    have HQ2 := Lib.hid (ho4.re.more (lo' := w1.heap.size) (hi' := w2.heap.size) (Nat.le_refl _) (Nat.le_refl _))
    have HG2 := Lib.hid (HG.out.below hb2 (Nat.le_refl _))
    have HM2 := Lib.hid (HM.out.below hb2 (Nat.le_refl _))
    have HS2 := Lib.hid (HS.out.below hb2 (Nat.le_refl _))
    have HB2 := Lib.hid (HB1.out.trans (hb2.mono s1))
    have C3 := Lib.hid (CS.out w2 HG2.out HM2.out HS2.out s2)
    clear hb2 ho4 C2 HG HM HS HB1
    go_wp2_with fail
    with_reducible refine (C3.out).mono ?_
    rintro e w3 ⟨⟨A5, c5, rfl, ho5⟩, hb3⟩
    have s3 := hb3.size
    have hs3 : w1.heap.size ≤ w3.heap.size := Nat.le_trans s2 s3
    have HQ3 := Lib.hid (HQ2.out.below hb3 (Nat.le_refl _))
    have HG3 := Lib.hid (HG2.out.below hb3 s2)
    have HM3 := Lib.hid (HM2.out.below hb3 s2)
    have HS3 := Lib.hid (HS2.out.below hb3 s2)
    have HB3 := Lib.hid (HB2.out.trans (hb3.mono (Nat.le_trans s1 s2)))
    have C4 := Lib.hid (equalEvents_same A4 c4 A5 c5 L _ _ _ _ w3 HQ3.out ho5.re (by omega))
    clear hb3 ho5 C3 HG2 HM2 HS2 HB2 HQ2
    go_wp2_with fail
    with_reducible refine (C4.out).mono ?_
    rintro e w4 ⟨rfl, n, rfl⟩
    have hs4 : w1.heap.size ≤ (w3.drewN n).heap.size := hs3
    by_cases h0 : L.length = 0
    · have C6 := Lib.hid (CS.out (w3.drewN n) (HG3.out.drewN n) (HM3.out.drewN n) (HS3.out.drewN n) hs4)
      have z1 : ((L.length : Int) == 0) = true := by rw [h0]; rfl
      have z2 : (L.length == 0) = true := by rw [h0]; rfl
      clear HL CS C4 h0
      go_wp2_with fail
      with_reducible refine (C6.out).mono ?_
      rintro e w6 ⟨⟨A6, c6, rfl, ho6⟩, hb6⟩
      have HB6 := Lib.hid ((HB3.out.drewN n).trans (hb6.mono (Nat.le_trans s1 hs3)))
      have C7 := Lib.hid (equalEvents_same A4 c4 A6 c6 L _ _ _ _ w6 ((HQ3.out.drewN n).below hb6 s3) ho6.re (by omega))
      clear hb6 ho6 C6
      go_wp2_with fail
      with_reducible refine (C7.out).mono ?_
      rintro e w7 ⟨rfl, n7, rfl⟩
      go_wp2
      go_ret
      exact ⟨rfl, HB6.out.drewN _⟩
    have z1 : ((L.length : Int) == 0) = false := by rw [beq_eq_false_iff_ne]; omega
    have z2 : (L.length == 0) = false := by rw [beq_eq_false_iff_ne]; omega
    have HV2 := Lib.hid (show Bs.stV g m wk S = true from by
      cases h : Bs.stV g m wk S
      · rw [HL.out, Bs.logL_no h] at h0; exact absurd rfl h0
      · rfl)
    have hLL : L = Bs.lgK g S 221 := by rw [HL.out, Bs.logL_yes HV2.out]
    have HLG := Lib.hid hLL
    have hll : L.length = 2 * g.length := by rw [hLL, Bs.lg_len HV2.out]
    have hpos : 0 < L.length := by omega
    have HLL := Lib.hid hll
    clear HL C4 hLL h0 hll
    obtain ⟨W3, hW3⟩ : ∃ W3, W3 = w3.drewN n := ⟨_, rfl⟩
    replace HG3 := Lib.hid (HG3.out.drewN n)
    replace HM3 := Lib.hid (HM3.out.drewN n)
    replace HS3 := Lib.hid (HS3.out.drewN n)
    replace HQ3 := Lib.hid (HQ3.out.drewN n)
    replace HB3 := Lib.hid (HB3.out.drewN n)
    replace s3 : w2.heap.size ≤ (w3.drewN n).heap.size := s3
    rw [← hW3] at HG3 HM3 HS3 HQ3 HB3 hs4 s3 ⊢
    clear hW3 hs3
    clear CS
    have HT := Lib.hid (Bs.stV_facts HV2.out)
    have hSg : S.length = g.length := HT.out.2.2.1
    have HAT := Lib.hid (fun i (hi : i < S.length) => show 0 ≤ Bs.giZ S i ∧ Bs.giZ S i ≤ 200 from HT.out.2.2.2.1 i (by omega))
    have CV := Lib.hid (ValidLog_any A1 c1 g A4 c4 L w.heap.size w1.heap.size w1.heap.size w2.heap.size W3 HG3.out hs4 HQ3.out s3 hl9 (by omega))
    have s13 : w.heap.size ≤ W3.heap.size := Nat.le_trans s1 hs4
    go_wp2
    go_loop [8] (fun i => ∃ k : Nat, k ≤ S.length ∧ i = .int .i64 (k : Int) ∧ ∀ j, j < k → Bs.giZ S j ≤ 180) (fun i => S.length - (intOf i).toNat)
    case atStart => exact ⟨0, Nat.zero_le _, rfl, fun j hj => by omega⟩
    case round =>
      obtain ⟨k, hk, rfl, hle⟩ := hrel
      have HLE := Lib.hid hle
      clear hle
      by_cases hlt : k < S.length
      · obtain ⟨b, o, rfl, _, _, q0⟩ := HS3.out k hlt
        rw [← Bs.giZ_at hlt] at q0
        have hxb := HAT.out k hlt
        have HNX := Lib.hid (fun (h : Bs.giZ S k ≤ 180) j (hj : j < k + 1) => show Bs.giZ S j ≤ 180 from by
          by_cases e : j = k
          · rw [e]; exact h
          · exact HLE.out j (by omega))
        generalize Bs.giZ S k = x at *
        have i0 : (0 : Int) ≤ (k : Int) := by omega
        have i1 : (k : Int) < (S.length : Int) := by omega
        by_cases h180 : 180 < x
        · go_wp2
          go_ret
          exact ⟨rfl, HB3.out⟩
        · go_wp2
          go_round
          case rel => exact ⟨k + 1, by omega, by go_num, HNX.out (by omega)⟩
          case measure => simp [intOf]; omega
      · have hv := Bs.lg_valid HV2.out (fun i hi => HLE.out i (by omega))
        rw [← HLG.out] at hv
        have c5 := CV.out
        rw [hv] at c5
        have C5 := Lib.hid c5
        have z3 : ((L.length : Int) == 2 * (g.length : Int)) = true := by have := HLL.out; rw [beq_iff_eq]; omega
        have z4 : (L.length == 2 * g.length) = true := by have := HLL.out; rw [beq_iff_eq]; omega
        clear c5 hv CV
        go_wp2_with fail
        with_reducible refine (C5.out).mono ?_
        rintro e w5 ⟨rfl, hb5⟩
        have HB5 := Lib.hid (HB3.out.trans (hb5.mono s13))
        clear hb5 C5
        go_wp2
        go_ret
        exact ⟨rfl, HB5.out⟩
end Go.Proofs.Ytihgakbopkaemaa
