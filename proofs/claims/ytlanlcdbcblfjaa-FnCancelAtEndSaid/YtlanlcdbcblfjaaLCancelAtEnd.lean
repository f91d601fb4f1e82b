/-
  THE WALK OF laws.FnCancelAtEnd.
-/
import Derived.Test.YtlanlcdbcblfjaaX11
import Derived.Test.YtlanlcdbcblfjaaLSum
import Derived.Test.YtlanlcdbcblfjaaMath64
import Derived.Test.YtlanlcdbcblfjaaR44
namespace Go.Proofs.Ytlanlcdbcblfjaa
open Go.RowKit
set_option linter.unusedVariables false
set_option maxRecDepth 20000 in
set_option maxHeartbeats 6400000 in
theorem fnCancelAtEnd_walk (A : Option Addr) (c : Nat) (l : List Int) (w : World) (hb : RB w 0 w.heap.size A l) (hlc : l.length ≤ c ∧ c ≤ maxLen) :
    Calls Try.prog 10 #[.slice A l.length c] w fun e w' => e = .returned (.bool true) ∧ Below w.heap.size w w' := by
  have hl63 : l.length ≤ 9223372036854775807 := by have := hlc.2; unfold maxLen at this; omega
  by_cases hbig : 1048576 < l.length
  · go_enter Try.func10, Try.ntmps10
    go_wp2
    go_ret
    exact ⟨rfl, Below.refl _ _⟩
  · have C1 := Lib.hid (DrawCancelAt_any A c l w hb hlc.1 hlc.2)
    clear hb
    go_enter Try.func10, Try.ntmps10
    go_wp2_with fail
    refine (C1.out).mono ?_
    rintro e w1 ⟨⟨A1, c1, g, A2, c2, m, wk, A3, c3, S, now, rfl, hg, hg16, hgc, hcm, hm, hm100, hmc, hmm, hS, hS100, hSc, hSm⟩, hb1⟩
    have HG := Lib.hid hg
    have HM := Lib.hid hm
    have HS := Lib.hid hS
    have s1 := hb1.size
    have hl9 : g.length ≤ 9223372036854775807 := by omega
    have hm9 : m.length ≤ 9223372036854775807 := by omega
    have hS9 : S.length ≤ 9223372036854775807 := by omega
    obtain ⟨L, hL⟩ : ∃ L, L = Bs.canL g m wk S now := ⟨_, rfl⟩
    have CI := Lib.hid (fun now' W (hb : Below w1.heap.size w1 W) => CancelAt_any A1 c1 g A2 c2 m A3 c3 S wk now' w.heap.size w1.heap.size w.heap.size w1.heap.size w.heap.size w1.heap.size W (HG.out.below hb (Nat.le_refl _)) hb.size (HM.out.below hb (Nat.le_refl _)) hb.size (HS.out.below hb (Nat.le_refl _)) hb.size hl9 hm9 hS9)
    have qs := fun W (hb : Below w1.heap.size w1 W) => CancelAtS_any A1 c1 g A2 c2 m A3 c3 S wk now w.heap.size w1.heap.size w.heap.size w1.heap.size w.heap.size w1.heap.size W (HG.out.below hb (Nat.le_refl _)) hb.size (HM.out.below hb (Nat.le_refl _)) hb.size (HS.out.below hb (Nat.le_refl _)) hb.size hl9 hm9 hS9
    have CE := Lib.hid (fun W (hb : Below w1.heap.size w1 W) => EndTime_any A1 c1 g A2 c2 m A3 c3 S wk w.heap.size w1.heap.size w.heap.size w1.heap.size w.heap.size w1.heap.size W (HG.out.below hb (Nat.le_refl _)) hb.size (HM.out.below hb (Nat.le_refl _)) hb.size (HS.out.below hb (Nat.le_refl _)) hb.size hl9 hm9 hS9)
    have q2 := CI.out now w1 (Below.refl _ _)
    have hlen : L.length ≤ 1000 := by rw [hL]; exact canL_len1000 g m wk S now
    rw [← hL] at q2 qs
    have HL := Lib.hid hL
    have C2 := Lib.hid q2
    have CS := Lib.hid qs
    have HB1 := Lib.hid hb1
    clear C1 hg hm hS q2 qs hb1 hL
    go_wp2_with fail
    with_reducible refine (C2.out).mono ?_
    rintro e w2 ⟨⟨A4, c4, rfl, ho4⟩, hb2⟩
    have s2 := hb2.size
    have hr4 := ho4.ri
    have HX2 := Lib.hid hb2
    have HB2 := Lib.hid (HB1.out.trans (hb2.mono s1))
    have C3 := Lib.hid (CS.out w2 HX2.out)
    clear hb2 ho4 C2
    go_wp2_with fail
    with_reducible refine (C3.out).mono ?_
    rintro e w3 ⟨⟨A5, c5, rfl, ho5⟩, hb3⟩
    have s3 := hb3.size
    have hr43 := hr4.below hb3 (Nat.le_refl _)
    have C4 := Lib.hid (equalInts_same A4 c4 A5 c5 L _ _ _ _ w3 hr43 ho5.ri (by omega))
    have HQ3 := Lib.hid hr43
    have HX3 := Lib.hid (HX2.out.trans (hb3.mono s2))
    have HB3 := Lib.hid (HB2.out.trans (hb3.mono (Nat.le_trans s1 s2)))
    clear hb3 ho5 hr4 hr43 C3
    go_wp2_with fail
    with_reducible refine (C4.out).mono ?_
    rintro e w4 ⟨rfl, n, rfl⟩
    clear C4
    have HQ4 := Lib.hid (HQ3.out.drewN n)
    have HX4 := Lib.hid (HX3.out.drewN n)
    have HB4 := Lib.hid (HB3.out.drewN n)
    have hs24 : w2.heap.size ≤ (w3.drewN n).heap.size := s3
    clear HQ3 HX3 HB3 HX2 HB2
    generalize w3.drewN n = W4 at *
    have hs4 : w1.heap.size ≤ W4.heap.size := HX4.out.size
    by_cases h0 : L.length = 0
    · have hq0 : ((L.length : Int) == 0) = true := by simp [h0]
      clear h0 HL
      have CA := Lib.hid (CS.out W4 HX4.out)
      go_wp2_with fail
      with_reducible refine (CA.out).mono ?_
      rintro e wA ⟨⟨AA, cA, rfl, oA⟩, hbA⟩
      have sA := hbA.size
      have CB := Lib.hid (equalInts_same A4 c4 AA cA L _ _ _ _ wA (HQ4.out.below hbA hs24) oA.ri (by omega))
      have HBA := Lib.hid (HB4.out.trans (hbA.mono (Nat.le_trans s1 hs4)))
      clear hbA oA CA
      go_wp2_with fail
      with_reducible refine (CB.out).mono ?_
      rintro e wB ⟨rfl, nB, rfl⟩
      go_wp2
      go_ret
      exact ⟨rfl, HBA.out.drewN _⟩
    · have hq0 : ((L.length : Int) == 0) = false := by rw [beq_eq_false_iff_ne]; omega
      have hq0' : (L.length == 0) = false := by rw [beq_eq_false_iff_ne]; omega
      obtain ⟨hst, e0, e1, h8, hE, z1, z2⟩ := cancel_end HL.out h0
      have c5 := CE.out W4 HX4.out
      rw [Bs.endT_yes hst] at c5
      have C5 := Lib.hid c5
      have hbA := canL_b g m S wk (Bs.endC g S)
      have hb0 := canL_b g m S wk 0
      have hlA := canL_len1000 g m wk S (Bs.endC g S)
      have hl0 := canL_len1000 g m wk S 0
      have C6 := Lib.hid (fun W hb => CI.out (Bs.endC g S) W hb)
      have C7 := Lib.hid (fun W hb => CI.out 0 W hb)
      clear HL CI CS CE hst c5 h0
      generalize Bs.endC g S = E at *
      generalize Bs.canL g m wk S E = Z at *
      generalize Bs.canL g m wk S 0 = Y at *
      have HE := Lib.hid hE
      have HZ1 := Lib.hid z1
      have HZ2 := Lib.hid z2
      have HBA := Lib.hid hbA
      have HB0 := Lib.hid hb0
      clear hE z1 z2 hbA hb0
      go_wp2_with fail
      with_reducible refine (C5.out).mono ?_
      rintro e w5 ⟨rfl, hb5⟩
      have HX5 := Lib.hid (HX4.out.trans (hb5.mono hs4))
      have HB5 := Lib.hid (HB4.out.trans (hb5.mono (Nat.le_trans s1 hs4)))
      have s5 := HX5.out.size
      replace C6 := Lib.hid (C6.out w5 HX5.out)
      clear hb5 C5
      go_wp2_with fail
      with_reducible refine (C6.out).mono ?_
      rintro e w6 ⟨⟨A6, c6, rfl, ho6⟩, hb6⟩
      have HX6 := Lib.hid (HX5.out.trans (hb6.mono s5))
      have HB6 := Lib.hid (HB5.out.trans (hb6.mono (Nat.le_trans s1 s5)))
      have hr6 := ho6.ri
      have s6 := HX6.out.size
      replace C7 := Lib.hid (C7.out w6 HX6.out)
      clear hb6 ho6 C6
      go_wp2_with fail
      with_reducible refine (C7.out).mono ?_
      rintro e w7 ⟨⟨A7, c7, rfl, ho7⟩, hb7⟩
      have HB7 := Lib.hid (HB6.out.trans (hb7.mono (Nat.le_trans s1 s6)))
      have c8 := lsum_any A6 c6 Z _ _ w7 (hr6.below hb7 (Nat.le_refl _)) (by omega) HBA.out
      have c9 := lsum_any A7 c7 Y _ _ w7 ho7.ri (by omega) HB0.out
      rw [HZ2.out] at c9
      have C9 := Lib.hid c9
      have hw3 : IntKind.i64.wrap ((g.length : Int) * 3) = (g.length : Int) * 3 := IntWalk.i64_in _ ⟨by omega, by omega⟩
      by_cases h2 : E ≤ 200
      · obtain ⟨g1, g2⟩ := HE.out h2
        rw [g2] at c8
        have C8 := Lib.hid c8
        have hq1 : ((Z.length : Int) == (g.length : Int)) = true := by rw [beq_iff_eq]; omega
        have hq1' : (Z.length == g.length) = true := by rw [beq_iff_eq]; omega
        have d2 : ¬ 200 < E := by omega
        clear c8 c9 hb7 ho7 hr6 C7 g1 g2 HE h2
        go_wp2_with fail
        with_reducible refine (C8.out).mono ?_
        rintro e _ ⟨rfl, rfl⟩
        go_wp2_with fail
        with_reducible refine (C9.out).mono ?_
        rintro e _ ⟨rfl, rfl⟩
        go_wp2
        go_ret
        exact ⟨rfl, HB7.out⟩
      · have d2 : 200 < E := by omega
        clear c8 c9 hb7 ho7 hr6 C7 HE h2
        go_wp2_with fail
        with_reducible refine (C9.out).mono ?_
        rintro e _ ⟨rfl, rfl⟩
        go_wp2
        go_ret
        exact ⟨rfl, HB7.out⟩
end Go.Proofs.Ytlanlcdbcblfjaa
