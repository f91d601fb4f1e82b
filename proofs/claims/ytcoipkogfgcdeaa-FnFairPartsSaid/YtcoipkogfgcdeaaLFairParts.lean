/-
  THE WALK OF laws.FnFairParts.
-/
import Derived.Test.YtcoipkogfgcdeaaX14
import Derived.Test.YtcoipkogfgcdeaaMath83
import Derived.Test.YtcoipkogfgcdeaaR61
namespace Go.Proofs.Ytcoipkogfgcdeaa
open Go.RowKit
set_option maxRecDepth 20000 in
set_option maxHeartbeats 6400000 in
theorem fnFairParts_walk (A : Option Addr) (c : Nat) (l : List Int) (w : World) (hb : RB w 0 w.heap.size A l) (hlc : l.length ≤ c ∧ c ≤ maxLen) :
    Calls Try.prog 13 #[.slice A l.length c] w fun e w' => e = .returned (.bool true) ∧ Below w.heap.size w w' := by
  have hl63 : l.length ≤ 9223372036854775807 := by have := hlc.2; unfold maxLen at this; omega
  by_cases hbig : 1048576 < l.length
  · go_enter Try.func13, Try.ntmps13
    go_wp2
    go_ret
    exact ⟨rfl, Below.refl _ _⟩
  · have C1 := Lib.hid (DrawFairParts_any A c l w hb hlc.1 hlc.2)
    clear hb
    go_enter Try.func13, Try.ntmps13
    go_wp2_with fail
    refine (C1.out).mono ?_
    rintro e w1 ⟨⟨A1, c1, g, a, rfl, hg, hg6, hgc, hcm⟩, hb1⟩
    have HG := Lib.hid hg
    have s1 := hb1.size
    have hl9 : g.length ≤ 9223372036854775807 := by omega
    obtain ⟨L, hL⟩ : ∃ L, L = Bs.partL g a := ⟨_, rfl⟩
    have c2 := FairParts_any A1 c1 g a w.heap.size w1.heap.size w1 HG.out (Nat.le_refl _) hl9
    have hlen : L.length ≤ 1000 := by rw [hL]; exact FairParts_len100 g a (by omega)
    rw [← hL] at c2
    have C2 := Lib.hid c2
    have CS := Lib.hid (fun w2 hg hs => FairPartsS_any A1 c1 g a w.heap.size w1.heap.size w2 hg hs hl9)
    rw [← hL] at CS
    have HL := Lib.hid hL
    have HB1 := Lib.hid hb1
    clear C1 hg hL c2 hb1
    go_wp2_with fail
    refine (C2.out).mono ?_
    rintro e w2 hr2
    obtain ⟨A2, c2, rfl, q2, hb2, hlc2, hcm2⟩ := hr2.ri
    have s2 := hb2.size
    have HQ2 := Lib.hid q2
    have HG2 := Lib.hid (HG.out.below hb2 (Nat.le_refl _))
    have HB2 := Lib.hid (HB1.out.trans (hb2.mono s1))
    have C3 := Lib.hid (CS.out w2 HG2.out s2)
    clear hr2 q2 hb2 C2 HG HB1
    go_wp2_with fail
    refine (C3.out).mono ?_
    rintro e w3 hr3
    obtain ⟨A3, c3, rfl, q3, hb3, hlc3, hcm3⟩ := hr3.ri
    have s3 := hb3.size
    have C4 := Lib.hid (equalInts_same A2 c2 A3 c3 L _ _ _ _ w3 (HQ2.out.below hb3 (Nat.le_refl _)) q3 (by omega))
    have HG3 := Lib.hid (HG2.out.below hb3 s2)
    have HQ3 := Lib.hid (HQ2.out.below hb3 (Nat.le_refl _))
    have HB3 := Lib.hid (HB2.out.trans (hb3.mono (Nat.le_trans s1 s2)))
    clear hr3 q3 hb3 C3 HQ2 HB2 HG2
    go_wp2_with fail
    refine (C4.out).mono ?_
    rintro e w4 ⟨rfl, n, rfl⟩
    clear C4
    obtain ⟨W3, rfl⟩ : ∃ W3, W3 = w3 := ⟨_, rfl⟩
    have hs3 : w1.heap.size ≤ (W3.drewN n).heap.size := Nat.le_trans s2 s3
    have hs23 : w2.heap.size ≤ (W3.drewN n).heap.size := s3
    by_cases h0 : L.length = 0
    · have hq0 : ((L.length : Int) == 0) = true := by simp [h0]
      clear h0 HL
      have hsA : w1.heap.size ≤ (W3.drewN n).heap.size := hs3
      go_wp2_with fail
      refine (CS.out (W3.drewN n) (HG3.out.drewN n) hsA).mono ?_
      rintro e wA hrA
      obtain ⟨AA, cA, rfl, qA, hbA, _, _⟩ := hrA.ri
      have sA := hbA.size
      have CB := Lib.hid (equalInts_same A2 c2 AA cA L _ _ _ _ wA ((HQ3.out.drewN n).below hbA (by first | exact hsA | omega)) qA (by omega))
      have HBA := Lib.hid ((HB3.out.drewN n).trans (hbA.mono (Nat.le_trans s1 hsA)))
      clear hrA qA hbA
      go_wp2_with fail
      refine (CB.out).mono ?_
      rintro e wB ⟨rfl, nB, rfl⟩
      go_wp2
      go_ret
      exact ⟨rfl, HBA.out.drewN _⟩
    · have hq0 : ((L.length : Int) == 0) = false := by rw [beq_eq_false_iff_ne]; omega
      have hok := part_can HL.out h0
      obtain ⟨hu, ha⟩ := Bs.partOk_iff.1 hok
      obtain ⟨h1, h5⟩ := (Bs.usersOk_iff.1 hu).1
      obtain ⟨z1, z2, z3⟩ := part_law hok
      have z4 := part_small hok
      rw [← HL.out] at z1 z2 z3 z4
      have hS := Bs.shS_pos hu
      have hS1 : 1 ≤ Bs.shS g := hS.1
      have c5 := lsumB_any A2 c2 L _ _ (W3.drewN n) (HQ3.out.drewN n) hlen z4
      rw [z2, z1] at c5
      have C5 := Lib.hid c5
      have HG4 := Lib.hid (HG3.out.drewN n)
      have HQ4 := Lib.hid (HQ3.out.drewN n)
      have HB4 := Lib.hid (HB3.out.drewN n)
      have HSK := Lib.hid (fun k (hk : k < g.length) => shK_succ g k hk)
      have HSB := Lib.hid (fun k (hk : k ≤ g.length) => shK_b hu k hk)
      have HSE := Lib.hid (show shK g g.length = Bs.shS g from shK_rs g _ (Nat.le_refl _))
      have HS0 := Lib.hid (shK_zero g)
      have HUS := Lib.hid (fun k (hk : k < g.length) => show 1 ≤ (Bs.gu g k).share ∧ (Bs.gu g k).share ≤ 10 from Bs.shF_b hu hk)
      have HFP := Lib.hid (fun k (hk : k < g.length) => And.intro (Bs.flP_b hu ha hk).1 (Bs.flP_b hu ha hk).2.1)
      have HFE := Lib.hid (fun k => show Bs.flP g a k = a * (Bs.gu g k).share / Bs.shS g from rfl)
      have HZ3 := Lib.hid z3
      have e1 : ((L.length : Int) == (g.length : Int)) = true := by rw [z1]; simp
      clear HL CS h0 HQ3 HB3 HG3 c5 z2 z3 z4 hok
      generalize Bs.flP g a = fp at *
      generalize Bs.shS g = S at *
      generalize shK g = sk at *
      generalize W3.drewN n = W4 at *
      have hS0 : (S == 0) = false := by rw [beq_eq_false_iff_ne]; omega
      go_wp2
      go_loop [6, 7] (fun s i => ∃ k : Nat, k ≤ g.length ∧ i = .int .i64 k ∧ s = .int .i64 (sk k)) (fun _ i => g.length - (intOf i).toNat)
      case atStart => exact ⟨0, Nat.zero_le _, rfl, by rw [HS0.out]⟩
      case round =>
        obtain ⟨k, hk, rfl, rfl⟩ := hrel
        by_cases hlt : k < g.length
        · obtain ⟨b, o, rfl, _, _, q0, q1, q2⟩ := HG4.out.at_ hlt
          have hs := HSK.out k hlt
          have hsb := HSB.out k (by omega)
          have hus := HUS.out k hlt
          have HSS := Lib.hid hs
          clear hs HSK HSB HUS HSE HS0 q1 q2 HFE
          generalize (Bs.gu g k).share = us at *
          generalize sk k = t at *
          have hw : IntKind.i64.wrap (t + us) = t + us := IntWalk.i64_in _ ⟨by omega, by omega⟩
          go_wp2
          go_round
          case rel => exact ⟨k + 1, by omega, by go_num, by rw [HSS.out]⟩
          case measure => simp [intOf]; omega
        · obtain rfl : k = g.length := by omega
          rw [HSE.out]
          clear HSK HSB HSE HS0
          go_wp2
          go_loop [8, 9] (fun i _ => ∃ k : Nat, k ≤ g.length ∧ i = .int .i64 k) (fun i _ => g.length - (intOf i).toNat)
          case atStart => exact ⟨0, Nat.zero_le _, rfl⟩
          case round =>
            obtain ⟨k, hk, rfl⟩ := hrel
            by_cases hlt : k < g.length
            · obtain ⟨b, o, rfl, _, _, q0, q1, q2⟩ := HG4.out.at_ hlt
              have hkL : k < L.length := by omega
              obtain ⟨b2, o2, rfl, _, _, r0⟩ := HQ4.out.at_ hkL
              rw [← Bs.gi_at hkL] at r0
              obtain ⟨y1, y2⟩ := HZ3.out k hlt
              have hfe := HFE.out k
              have hff := HFP.out k hlt
              have hus := HUS.out k hlt
              have HFEk := Lib.hid hfe
              clear hfe q1 q2 HUS HFP HFE HZ3
              generalize (Bs.gu g k).share = us at *
              generalize fp k = y at *
              generalize Bs.gi L k = x at *
              have hp : 0 ≤ a * us := Int.mul_nonneg ha.1 (by omega)
              have hp2 : a * us ≤ 1000000000 := by
                calc a * us ≤ 10000 * us := Int.mul_le_mul_of_nonneg_right ha.2 (by omega)
                  _ ≤ 1000000000 := by omega
              have hw1 : IntKind.i64.wrap (a * us) = a * us := IntWalk.i64_in _ ⟨by omega, by omega⟩
              have hq : a * us / S = y := HFEk.out.symm
              have hw2 : IntKind.i64.wrap (y + 1) = y + 1 := IntWalk.i64_in _ ⟨by omega, by omega⟩
              have d1 : (k : Int) < (L.length : Int) := by omega
              have d2 : (k : Int) < (g.length : Int) := by omega
              have d3 : ¬ x < y := by omega
              have d4 : ¬ y + 1 < x := by omega
              go_wp2
              go_round
              case rel => exact ⟨k + 1, by omega, by go_num⟩
              case measure => simp [intOf]; omega
            · have d1 : ¬ (k : Int) < (L.length : Int) := by omega
              clear HFE HFP HUS HZ3
              go_wp2_with fail
              with_reducible refine (C5.out).mono ?_
              rintro e _ ⟨rfl, rfl⟩
              go_wp2
              go_ret
              exact ⟨rfl, HB4.out⟩
end Go.Proofs.Ytcoipkogfgcdeaa
