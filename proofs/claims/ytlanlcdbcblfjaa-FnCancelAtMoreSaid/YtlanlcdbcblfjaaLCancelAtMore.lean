/-
  THE WALK OF laws.FnCancelAtMore.
-/
import Derived.Test.YtlanlcdbcblfjaaX11
import Derived.Test.YtlanlcdbcblfjaaLSum
import Derived.Test.YtlanlcdbcblfjaaMath64
import Derived.Test.YtlanlcdbcblfjaaR44
namespace Go.Proofs.Ytlanlcdbcblfjaa
open Go.RowKit
set_option linter.unusedVariables false
set_option maxRecDepth 20000 in
set_option maxHeartbeats 6400000 in
theorem fnCancelAtMore_walk (A : Option Addr) (c : Nat) (l : List Int) (w : World) (hb : RB w 0 w.heap.size A l) (hlc : l.length ≤ c ∧ c ≤ maxLen) :
    Calls Try.prog 14 #[.slice A l.length c] w fun e w' => e = .returned (.bool true) ∧ Below w.heap.size w w' := by
  have hl63 : l.length ≤ 9223372036854775807 := by have := hlc.2; unfold maxLen at this; omega
  by_cases hbig : 1048576 < l.length
  · go_enter Try.func14, Try.ntmps14
    go_wp2
    go_ret
    exact ⟨rfl, Below.refl _ _⟩
  · have C1 := Lib.hid (DrawCancelAt_any A c l w hb hlc.1 hlc.2)
    clear hb
    go_enter Try.func14, Try.ntmps14
    go_wp2_with fail
    refine (C1.out).mono ?_
    rintro e w1 ⟨⟨A1, c1, g, A2, c2, m, wk, A3, c3, S, now, rfl, hg, hg16, hgc, hcm, hm, hm100, hmc, hmm, hS, hS100, hSc, hSm⟩, hb1⟩
    have HG := Lib.hid hg
    have HM := Lib.hid hm
    have HS := Lib.hid hS
    have s1 := hb1.size
    have hl9 : g.length ≤ 9223372036854775807 := by omega
    have hm9 : m.length ≤ 9223372036854775807 := by omega
    have hS9 : S.length ≤ 9223372036854775807 := by omega
    obtain ⟨L, hL⟩ : ∃ L, L = Bs.canL g m wk S now := ⟨_, rfl⟩
    have CI := Lib.hid (fun now' W (hb : Below w1.heap.size w1 W) => CancelAt_any A1 c1 g A2 c2 m A3 c3 S wk now' w.heap.size w1.heap.size w.heap.size w1.heap.size w.heap.size w1.heap.size W (HG.out.below hb (Nat.le_refl _)) hb.size (HM.out.below hb (Nat.le_refl _)) hb.size (HS.out.below hb (Nat.le_refl _)) hb.size hl9 hm9 hS9)
    have qs := fun W (hb : Below w1.heap.size w1 W) => CancelAtS_any A1 c1 g A2 c2 m A3 c3 S wk now w.heap.size w1.heap.size w.heap.size w1.heap.size w.heap.size w1.heap.size W (HG.out.below hb (Nat.le_refl _)) hb.size (HM.out.below hb (Nat.le_refl _)) hb.size (HS.out.below hb (Nat.le_refl _)) hb.size hl9 hm9 hS9
    have CE := Lib.hid (fun W (hb : Below w1.heap.size w1 W) => EndTime_any A1 c1 g A2 c2 m A3 c3 S wk w.heap.size w1.heap.size w.heap.size w1.heap.size w.heap.size w1.heap.size W (HG.out.below hb (Nat.le_refl _)) hb.size (HM.out.below hb (Nat.le_refl _)) hb.size (HS.out.below hb (Nat.le_refl _)) hb.size hl9 hm9 hS9)
    have q2 := CI.out now w1 (Below.refl _ _)
    have hlen : L.length ≤ 1000 := by rw [hL]; exact canL_len1000 g m wk S now
    rw [← hL] at q2 qs
    have HL := Lib.hid hL
    have C2 := Lib.hid q2
    have CS := Lib.hid qs
    have HB1 := Lib.hid hb1
    clear C1 hg hm hS q2 qs hb1 hL
    go_wp2_with fail
    with_reducible refine (C2.out).mono ?_
    rintro e w2 ⟨⟨A4, c4, rfl, ho4⟩, hb2⟩
    have s2 := hb2.size
    have hr4 := ho4.ri
    have HX2 := Lib.hid hb2
    have HB2 := Lib.hid (HB1.out.trans (hb2.mono s1))
    have C3 := Lib.hid (CS.out w2 HX2.out)
    clear hb2 ho4 C2
    go_wp2_with fail
    with_reducible refine (C3.out).mono ?_
    rintro e w3 ⟨⟨A5, c5, rfl, ho5⟩, hb3⟩
    have s3 := hb3.size
    have hr43 := hr4.below hb3 (Nat.le_refl _)
    have C4 := Lib.hid (equalInts_same A4 c4 A5 c5 L _ _ _ _ w3 hr43 ho5.ri (by omega))
    have HQ3 := Lib.hid hr43
    have HX3 := Lib.hid (HX2.out.trans (hb3.mono s2))
    have HB3 := Lib.hid (HB2.out.trans (hb3.mono (Nat.le_trans s1 s2)))
    clear hb3 ho5 hr4 hr43 C3
    go_wp2_with fail
    with_reducible refine (C4.out).mono ?_
    rintro e w4 ⟨rfl, n, rfl⟩
    clear C4
    have HQ4 := Lib.hid (HQ3.out.drewN n)
    have HX4 := Lib.hid (HX3.out.drewN n)
    have HB4 := Lib.hid (HB3.out.drewN n)
    have hs24 : w2.heap.size ≤ (w3.drewN n).heap.size := s3
    clear HQ3 HX3 HB3 HX2 HB2
    generalize w3.drewN n = W4 at *
    have hs4 : w1.heap.size ≤ W4.heap.size := HX4.out.size
    by_cases h0 : L.length = 0
    · have hq0 : ((L.length : Int) == 0) = true := by simp [h0]
      clear h0 HL
      have CA := Lib.hid (CS.out W4 HX4.out)
      go_wp2_with fail
      with_reducible refine (CA.out).mono ?_
      rintro e wA ⟨⟨AA, cA, rfl, oA⟩, hbA⟩
      have sA := hbA.size
      have CB := Lib.hid (equalInts_same A4 c4 AA cA L _ _ _ _ wA (HQ4.out.below hbA hs24) oA.ri (by omega))
      have HBA := Lib.hid (HB4.out.trans (hbA.mono (Nat.le_trans s1 hs4)))
      clear hbA oA CA
      go_wp2_with fail
      with_reducible refine (CB.out).mono ?_
      rintro e wB ⟨rfl, nB, rfl⟩
      go_wp2
      go_ret
      exact ⟨rfl, HBA.out.drewN _⟩
    · have hq0 : ((L.length : Int) == 0) = false := by rw [beq_eq_false_iff_ne]; omega
      have hq0' : (L.length == 0) = false := by rw [beq_eq_false_iff_ne]; omega
      by_cases h2 : now = 200
      · subst h2
        clear HL h0
        have CA := Lib.hid (CS.out W4 HX4.out)
        go_wp2_with fail
        with_reducible refine (CA.out).mono ?_
        rintro e wA ⟨⟨AA, cA, rfl, oA⟩, hbA⟩
        have sA := hbA.size
        have CB := Lib.hid (equalInts_same A4 c4 AA cA L _ _ _ _ wA (HQ4.out.below hbA hs24) oA.ri (by omega))
        have HBA := Lib.hid (HB4.out.trans (hbA.mono (Nat.le_trans s1 hs4)))
        clear hbA oA CA
        go_wp2_with fail
        with_reducible refine (CB.out).mono ?_
        rintro e wB ⟨rfl, nB, rfl⟩
        go_wp2
        go_ret
        exact ⟨rfl, HBA.out.drewN _⟩
      · obtain ⟨k1, k2, k3, k4, k5⟩ := cancel_more HL.out h0 h2
        have d5 : (now == 200) = false := by rw [beq_eq_false_iff_ne]; exact h2
        have hwt : IntKind.i64.wrap (now + 1) = now + 1 := IntWalk.i64_in _ ⟨by omega, by omega⟩
        have C5 := Lib.hid (CI.out (now + 1) W4 HX4.out)
        have HK5 := Lib.hid k5
        clear HL CI CS CE h2 h0 k5
        generalize Bs.canL g m wk S (now + 1) = M at *
        have HK1 := Lib.hid k1
        have hML : L.length ≤ M.length := by omega
        have hML2 : M.length ≤ L.length := by omega
        clear k1
        go_wp2_with fail
        with_reducible refine (C5.out).mono ?_
        rintro e w5 ⟨⟨A5, c5, rfl, ho5⟩, hb5⟩
        have HB5 := Lib.hid (HB4.out.trans (hb5.mono (Nat.le_trans s1 hs4)))
        have HQ5 := Lib.hid (HQ4.out.below hb5 hs24)
        have HM5 := Lib.hid ho5.ri
        have hq5 : ((M.length : Int) == (L.length : Int)) = true := by rw [beq_iff_eq]; omega
        have hq5' : (M.length == L.length) = true := by rw [beq_iff_eq]; omega
        clear ho5 hb5 C5 HQ4
        go_wp2
        go_loop [10] (fun i => ∃ k : Nat, k ≤ L.length ∧ i = .int .i64 k) (fun i => L.length - (intOf i).toNat)
        case atStart => exact ⟨0, Nat.zero_le _, rfl⟩
        case round =>
          obtain ⟨k, hk, rfl⟩ := hrel
          by_cases hlt : k < L.length
          · have hlm : k < M.length := by omega
            obtain ⟨b, o, rfl, _, _, hc⟩ := HQ5.out.at_ hlt
            obtain ⟨b2, o2, rfl, _, _, hc2⟩ := HM5.out.at_ hlm
            rw [← Bs.gi_at hlt] at hc
            rw [← Bs.gi_at hlm] at hc2
            have ht := HK5.out k hlt
            have i1 : (k : Int) < (L.length : Int) := by omega
            have i2 : (k : Int) < (M.length : Int) := by omega
            have i3 : ¬ (M.length : Int) ≤ (k : Int) := by omega
            generalize Bs.gi L k = x at *
            generalize Bs.gi M k = y at *
            rcases ht with ⟨rfl, rfl⟩ | ⟨rfl, hy⟩ | rfl
            · go_wp2
              go_round
              case rel => exact ⟨k + 1, by omega, by go_num⟩
              case measure => simp [intOf]; omega
            · have d6 : (y == 3) = false := by rw [beq_eq_false_iff_ne]; exact hy
              clear hy
              go_wp2
              go_round
              case rel => exact ⟨k + 1, by omega, by go_num⟩
              case measure => simp [intOf]; omega
            · go_wp2
              go_round
              case rel => exact ⟨k + 1, by omega, by go_num⟩
              case measure => simp [intOf]; omega
          · go_wp2
            go_ret
            exact ⟨rfl, HB5.out⟩
end Go.Proofs.Ytlanlcdbcblfjaa
