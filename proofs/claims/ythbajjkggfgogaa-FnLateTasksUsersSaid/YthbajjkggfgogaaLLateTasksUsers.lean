/-
  THE WALK OF laws.FnLateTasksUsers.
-/
import Derived.Test.YthbajjkggfgogaaX17
import Derived.Test.YthbajjkggfgogaaMath121
import Derived.Test.YthbajjkggfgogaaW121
import Derived.Test.YthbajjkggfgogaaR81
import Derived.Test.YthbajjkggfgogaaL1
namespace Go.Proofs.Ythbajjkggfgogaa
open Go.RowKit
set_option linter.unusedVariables false
set_option maxRecDepth 20000 in
set_option maxHeartbeats 6400000 in
theorem fnLateTasksUsers_walk (A : Option Addr) (c : Nat) (l : List Int) (w : World) (hb : RB w 0 w.heap.size A l) (hlc : l.length ≤ c ∧ c ≤ maxLen) :
    Calls Try.prog 11 #[.slice A l.length c] w fun e w' => e = .returned (.bool true) ∧ Below w.heap.size w w' := by
  have hl63 : l.length ≤ 9223372036854775807 := by have := hlc.2; unfold maxLen at this; omega
  by_cases hbig : 1048576 < l.length
  · go_enter Try.func11, Try.ntmps11
    go_wp2
    go_ret
    exact ⟨rfl, Below.refl _ _⟩
  · have C1 := Lib.hid (DrawLateTasks_any A c l w hb hlc.1 hlc.2)
    clear hb
    go_enter Try.func11, Try.ntmps11
    go_wp2_with fail
    refine (C1.out).mono ?_
    rintro e w1 ⟨⟨A1, c1, g, A2, c2, m, wk, A3, c3, S, d, rfl, hg, hg16, hgc, hcm, hm, hm100, hmc, hmm, hS, hS100, hSc, hSm⟩, hb1⟩
    have HG := Lib.hid hg
    have HM := Lib.hid hm
    have HS := Lib.hid hS
    have hm9 : m.length ≤ 9223372036854775807 := by omega
    have hS9 : S.length ≤ 9223372036854775807 := by omega
    have s1 := hb1.size
    have hl9 : g.length ≤ 9223372036854775807 := by omega
    have HX1 := Lib.hid (Below.refl w1.heap.size w1)
    have HB1 := Lib.hid hb1
    have QLT := Lib.hid (fun (d : Int) W (hb : Below w1.heap.size w1 W) => LateTasks_any A1 c1 g A2 c2 m A3 c3 S wk d w.heap.size w1.heap.size w.heap.size w1.heap.size w.heap.size w1.heap.size W (HG.out.below hb (Nat.le_refl _)) hb.size (HM.out.below hb (Nat.le_refl _)) hb.size (HS.out.below hb (Nat.le_refl _)) hb.size hl9 hm9 hS9)
    have QLTm := Lib.hid (fun (d : Int) W (hb : Below w1.heap.size w1 W) => LateTasksS_any A1 c1 g A2 c2 m A3 c3 S wk d w.heap.size w1.heap.size w.heap.size w1.heap.size w.heap.size w1.heap.size W (HG.out.below hb (Nat.le_refl _)) hb.size (HM.out.below hb (Nat.le_refl _)) hb.size (HS.out.below hb (Nat.le_refl _)) hb.size hl9 hm9 hS9)
    have QLS := Lib.hid (fun (d : Int) W (hb : Below w1.heap.size w1 W) => LatestStarts_any A1 c1 g d w.heap.size w1.heap.size W (HG.out.below hb (Nat.le_refl _)) hb.size hl9)
    clear C1 hb1
    obtain ⟨L, hL⟩ : ∃ L, L = Bs.lateL g m wk S d := ⟨_, rfl⟩
    have hlen : L.length ≤ 1000 := by rw [hL]; exact Nat.le_trans (Bs.lateL_len g m wk S d) (by decide)
    have HL := Lib.hid hL
    have e2 := QLT.out d w1 HX1.out
    have e3 := fun W hb => QLTm.out d W hb
    rw [← hL] at e2 e3
    have E2 := Lib.hid e2
    have CS := Lib.hid e3
    clear hL e2 e3
    go_wp2_with fail
    with_reducible refine (E2.out).mono ?_
    rintro e w2 ⟨⟨A22, c22, rfl, ho2⟩, hb2⟩
    have HX2 := Lib.hid hb2
    have HB2 := Lib.hid (HB1.out.trans (hb2.mono s1))
    have hr2 := ho2.ri
    have C3 := Lib.hid (CS.out w2 HX2.out)
    clear ho2 hb2 E2
    go_wp2_with fail
    with_reducible refine (C3.out).mono ?_
    rintro e w3 ⟨⟨A23, c23, rfl, ho3⟩, hb3⟩
    have hr3 := hr2.below hb3 (Nat.le_refl _)
    have C4 := Lib.hid (equalInts_same A22 c22 A23 c23 L _ _ _ _ w3 hr3 ho3.ri (by omega))
    have HQL3 := Lib.hid hr3
    have HX3 := Lib.hid (HX2.out.trans (hb3.mono HX2.out.size))
    have HB3 := Lib.hid (HB2.out.trans (hb3.mono (Nat.le_trans s1 HX2.out.size)))
    have hqL3 := hb3.size
    clear hb3 ho3 hr2 hr3 C3
    go_wp2_with fail
    with_reducible refine (C4.out).mono ?_
    rintro e w4 ⟨rfl, n, rfl⟩
    clear C4
    have HQL4 := Lib.hid (HQL3.out.drewN n)
    have HX4 := Lib.hid (HX3.out.drewN n)
    have HB4 := Lib.hid (HB3.out.drewN n)
    have hqL4 : w2.heap.size ≤ (w3.drewN n).heap.size := hqL3
    clear HQL3 HX3 HB3 HX2 HB2 hqL3
    generalize w3.drewN n = w4 at *
    obtain ⟨hlg, hfa⟩ := Bs.late_users (L := L) HL.out
    have q5 := QLS.out d w4 HX4.out
    obtain ⟨M, hM⟩ : ∃ M, M = Bs.latL g d := ⟨_, rfl⟩
    rw [← hM] at q5
    have HFA := Lib.hid (fun k (hk : k < L.length) => hfa k hk M hM)
    have d9 : decide ((L.length : Int) ≤ (g.length : Int)) = true := decide_eq_true (by omega)
    clear HL QLS CS hM hfa QLT QLTm
    have C5 := Lib.hid (q5)
    go_wp2_with fail
    with_reducible refine (C5.out).mono ?_
    rintro e w5 ⟨⟨A25, c25, rfl, ho5⟩, hb5⟩
    have HX5 := Lib.hid (HX4.out.trans (hb5.mono HX4.out.size))
    have HB5 := Lib.hid (HB4.out.trans (hb5.mono (Nat.le_trans s1 HX4.out.size)))
    have HQL5 := Lib.hid (HQL4.out.below hb5 hqL4)
    have hqL5 := Nat.le_trans hqL4 hb5.size
    have HQM5 := Lib.hid ho5.ri
    have sqM := hb5.size
    clear hb5 ho5 C5
    have hs5 := HX5.out.size
    clear HQL4
    go_wp2
    go_loopw [10] (fun i wr => ∃ k : Nat, k ≤ L.length ∧ i = .int .i64 k ∧ ∃ n, wr = w5.drewN n) (fun i _ => L.length - (intOf i).toNat)
    case atStart => exact ⟨0, Nat.zero_le _, rfl, 0, rfl⟩
    case round =>
      obtain ⟨k, hk, rfl, n, rfl⟩ := hrel
      by_cases hlt : k < L.length
      · obtain ⟨b4, o4, rfl, _, _, k4⟩ := HQL5.out.at_ hlt
        obtain ⟨j, hj, hjM, hjS, hlate⟩ := HFA.out k hlt
        rw [hj] at k4
        obtain ⟨b5, o5, rfl, _, _, k5⟩ := HQM5.out.at_ (k := j) hjM
        obtain ⟨b6, o6, rfl, _, _, k6⟩ := (HS.out.below HX5.out (Nat.le_refl _)).at_ (k := j) hjS
        rw [← Bs.giZ_at hjM] at k5
        rw [← Bs.giZ_at hjS] at k6
        have i0 : (0 : Int) ≤ (k : Int) := by omega
        have i1 : (k : Int) < (L.length : Int) := by omega
        have j0 : (0 : Int) ≤ (j : Int) := by omega
        have j1 : (j : Int) < (M.length : Int) := by omega
        have j2 : (j : Int) < (S.length : Int) := by omega
        have e0 : decide ((j : Int) < 0) = false := decide_eq_false (by omega)
        have e1 : decide ((j : Int) ≥ (M.length : Int)) = false := decide_eq_false (by omega)
        have e1b : decide ((M.length : Int) ≤ (j : Int)) = false := decide_eq_false (by omega)
        have e1c : decide (M.length ≤ j) = false := decide_eq_false (by omega)
        have e2 : decide ((j : Int) ≥ (S.length : Int)) = false := decide_eq_false (by omega)
        have e2b : decide ((S.length : Int) ≤ (j : Int)) = false := decide_eq_false (by omega)
        have e2c : decide (S.length ≤ j) = false := decide_eq_false (by omega)
        generalize Bs.giZ M j = x at *
        generalize Bs.giZ S j = y at *
        have e3 : decide (y ≤ x) = false := decide_eq_false (by omega)
        clear hlate hj
        go_wp2
        go_quiet (fail)
        go_wp2
        go_roundw
        case rel => exact ⟨k + 1, by omega, by go_num, _, by first | rfl | rw [World.drewN_drewN]⟩
        case measure => simp [intOf]; omega
      · obtain rfl : k = L.length := by omega
        go_wp2
        go_ret
        exact ⟨rfl, HB5.out.drewN _⟩
end Go.Proofs.Ythbajjkggfgogaa
