/-
  THE WALK OF laws.FnLateTasks.
-/
import Derived.Test.YthbajjkggfgogaaX17
import Derived.Test.YthbajjkggfgogaaMath121
import Derived.Test.YthbajjkggfgogaaW121
import Derived.Test.YthbajjkggfgogaaR81
import Derived.Test.YthbajjkggfgogaaL1
namespace Go.Proofs.Ythbajjkggfgogaa
open Go.RowKit
set_option linter.unusedVariables false
set_option maxRecDepth 20000 in
set_option maxHeartbeats 6400000 in
theorem fnLateTasks_walk (A : Option Addr) (c : Nat) (l : List Int) (w : World) (hb : RB w 0 w.heap.size A l) (hlc : l.length ≤ c ∧ c ≤ maxLen) :
    Calls Try.prog 5 #[.slice A l.length c] w fun e w' => e = .returned (.bool true) ∧ Below w.heap.size w w' := by
  have hl63 : l.length ≤ 9223372036854775807 := by have := hlc.2; unfold maxLen at this; omega
  by_cases hbig : 1048576 < l.length
  · go_enter Try.func5, Try.ntmps5
    go_wp2
    go_ret
    exact ⟨rfl, Below.refl _ _⟩
  · have C1 := Lib.hid (DrawLateTasks_any A c l w hb hlc.1 hlc.2)
    clear hb
    go_enter Try.func5, Try.ntmps5
    go_wp2_with fail
    refine (C1.out).mono ?_
    rintro e w1 ⟨⟨A1, c1, g, A2, c2, m, wk, A3, c3, S, d, rfl, hg, hg16, hgc, hcm, hm, hm100, hmc, hmm, hS, hS100, hSc, hSm⟩, hb1⟩
    have HG := Lib.hid hg
    have HM := Lib.hid hm
    have HS := Lib.hid hS
    have hm9 : m.length ≤ 9223372036854775807 := by omega
    have hS9 : S.length ≤ 9223372036854775807 := by omega
    have s1 := hb1.size
    have hl9 : g.length ≤ 9223372036854775807 := by omega
    have HX1 := Lib.hid (Below.refl w1.heap.size w1)
    have HB1 := Lib.hid hb1
    have QLT := Lib.hid (fun (d : Int) W (hb : Below w1.heap.size w1 W) => LateTasks_any A1 c1 g A2 c2 m A3 c3 S wk d w.heap.size w1.heap.size w.heap.size w1.heap.size w.heap.size w1.heap.size W (HG.out.below hb (Nat.le_refl _)) hb.size (HM.out.below hb (Nat.le_refl _)) hb.size (HS.out.below hb (Nat.le_refl _)) hb.size hl9 hm9 hS9)
    have QLTm := Lib.hid (fun (d : Int) W (hb : Below w1.heap.size w1 W) => LateTasksS_any A1 c1 g A2 c2 m A3 c3 S wk d w.heap.size w1.heap.size w.heap.size w1.heap.size w.heap.size w1.heap.size W (HG.out.below hb (Nat.le_refl _)) hb.size (HM.out.below hb (Nat.le_refl _)) hb.size (HS.out.below hb (Nat.le_refl _)) hb.size hl9 hm9 hS9)
    have QVS := Lib.hid (fun W (hb : Below w1.heap.size w1 W) => ValidStarts_any A1 c1 g A2 c2 m A3 c3 S wk w.heap.size w1.heap.size w.heap.size w1.heap.size w.heap.size w1.heap.size W (HG.out.below hb (Nat.le_refl _)) hb.size (HM.out.below hb (Nat.le_refl _)) hb.size (HS.out.below hb (Nat.le_refl _)) hb.size hl9 hm9 hS9)
    have QMD := Lib.hid (fun (d : Int) W (hb : Below w1.heap.size w1 W) => MeetsDeadline_any A1 c1 g A2 c2 m A3 c3 S wk d w.heap.size w1.heap.size w.heap.size w1.heap.size w.heap.size w1.heap.size W (HG.out.below hb (Nat.le_refl _)) hb.size (HM.out.below hb (Nat.le_refl _)) hb.size (HS.out.below hb (Nat.le_refl _)) hb.size hl9 hm9 hS9)
    clear C1 hb1
    obtain ⟨L, hL⟩ : ∃ L, L = Bs.lateL g m wk S d := ⟨_, rfl⟩
    have hlen : L.length ≤ 1000 := by rw [hL]; exact Nat.le_trans (Bs.lateL_len g m wk S d) (by decide)
    have HL := Lib.hid hL
    have e2 := QLT.out d w1 HX1.out
    have e3 := fun W hb => QLTm.out d W hb
    rw [← hL] at e2 e3
    have E2 := Lib.hid e2
    have CS := Lib.hid e3
    clear hL e2 e3
    go_wp2_with fail
    with_reducible refine (E2.out).mono ?_
    rintro e w2 ⟨⟨A22, c22, rfl, ho2⟩, hb2⟩
    have HX2 := Lib.hid hb2
    have HB2 := Lib.hid (HB1.out.trans (hb2.mono s1))
    have hr2 := ho2.ri
    have C3 := Lib.hid (CS.out w2 HX2.out)
    clear ho2 hb2 E2
    go_wp2_with fail
    with_reducible refine (C3.out).mono ?_
    rintro e w3 ⟨⟨A23, c23, rfl, ho3⟩, hb3⟩
    have hr3 := hr2.below hb3 (Nat.le_refl _)
    have C4 := Lib.hid (equalInts_same A22 c22 A23 c23 L _ _ _ _ w3 hr3 ho3.ri (by omega))
    have HQL3 := Lib.hid hr3
    have HX3 := Lib.hid (HX2.out.trans (hb3.mono HX2.out.size))
    have HB3 := Lib.hid (HB2.out.trans (hb3.mono (Nat.le_trans s1 HX2.out.size)))
    have hqL3 := hb3.size
    clear hb3 ho3 hr2 hr3 C3
    go_wp2_with fail
    with_reducible refine (C4.out).mono ?_
    rintro e w4 ⟨rfl, n, rfl⟩
    clear C4
    have HQL4 := Lib.hid (HQL3.out.drewN n)
    have HX4 := Lib.hid (HX3.out.drewN n)
    have HB4 := Lib.hid (HB3.out.drewN n)
    have hqL4 : w2.heap.size ≤ (w3.drewN n).heap.size := hqL3
    clear HQL3 HX3 HB3 HX2 HB2 hqL3
    generalize w3.drewN n = w4 at *
    cases hv : Bs.stV g m wk S
    · have q5 := QVS.out w4 HX4.out
      rw [hv] at q5
      clear hv HL
      have C5 := Lib.hid (q5)
      clear q5
      go_wp2_with fail
      with_reducible refine (C5.out).mono ?_
      rintro e w5 ⟨rfl, hb5⟩
      have HX5 := Lib.hid (HX4.out.trans (hb5.mono HX4.out.size))
      have HB5 := Lib.hid (HB4.out.trans (hb5.mono (Nat.le_trans s1 HX4.out.size)))
      have HQL5 := Lib.hid (HQL4.out.below hb5 hqL4)
      have hqL5 := Nat.le_trans hqL4 hb5.size
      clear hb5 C5
      have CA := Lib.hid (CS.out w5 HX5.out)
      go_wp2_with fail
      with_reducible refine (CA.out).mono ?_
      rintro e wA ⟨⟨AA, cA, rfl, oA⟩, hbA⟩
      have CB := Lib.hid (equalInts_same A22 c22 AA cA L _ _ _ _ wA (HQL5.out.below hbA hqL5) oA.ri (by omega))
      have HBA := Lib.hid (HB5.out.trans (hbA.mono (Nat.le_trans s1 HX5.out.size)))
      clear hbA oA CA
      go_wp2_with fail
      with_reducible refine (CB.out).mono ?_
      rintro e wB ⟨rfl, nB, rfl⟩
      go_wp2
      go_ret
      exact ⟨rfl, HBA.out.drewN _⟩
    · have q5 := QVS.out w4 HX4.out
      rw [hv] at q5
      have hmd : ¬ L.length = 0 → Bs.meetB g m wk S d = false := by
        intro h0
        have h1 := HL.out
        cases hd : Bs.dlOk d
        · exact Bs.meetB_no2 hd
        · rw [Bs.meetB_yes hv hd]
          unfold Bs.dlOk at hd
          have := (Bs.late_any hv (of_decide_eq_true hd)).1 (by rw [← h1]; omega)
          exact decide_eq_false (by omega)
      have HMD := Lib.hid hmd
      clear hv HL hmd CS
      have C5 := Lib.hid (q5)
      clear q5
      go_wp2_with fail
      with_reducible refine (C5.out).mono ?_
      rintro e w5 ⟨rfl, hb5⟩
      have HX5 := Lib.hid (HX4.out.trans (hb5.mono HX4.out.size))
      have HB5 := Lib.hid (HB4.out.trans (hb5.mono (Nat.le_trans s1 HX4.out.size)))
      have HQL5 := Lib.hid (HQL4.out.below hb5 hqL4)
      have hqL5 := Nat.le_trans hqL4 hb5.size
      clear hb5 C5
      by_cases h0 : L.length = 0
      · have hq0 : ((L.length : Int) == 0) = true := by simp [h0]
        clear h0 HMD QMD
        go_wp2
        go_ret
        exact ⟨rfl, HB5.out⟩
      · have hq0 : ((L.length : Int) == 0) = false := by rw [beq_eq_false_iff_ne]; omega
        have q6 := QMD.out d w5 HX5.out
        rw [HMD.out h0] at q6
        clear h0 HMD QMD
        have C6 := Lib.hid (q6)
        clear q6
        go_wp2_with fail
        with_reducible refine (C6.out).mono ?_
        rintro e w6 ⟨rfl, hb6⟩
        have HX6 := Lib.hid (HX5.out.trans (hb6.mono HX5.out.size))
        have HB6 := Lib.hid (HB5.out.trans (hb6.mono (Nat.le_trans s1 HX5.out.size)))
        have HQL6 := Lib.hid (HQL5.out.below hb6 hqL5)
        have hqL6 := Nat.le_trans hqL5 hb6.size
        clear hb6 C6
        go_wp2
        go_ret
        exact ⟨rfl, HB6.out⟩
end Go.Proofs.Ythbajjkggfgogaa
