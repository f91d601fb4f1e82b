/-
  THE WALK OF laws.FnWorkersFor.
-/
import Derived.Test.YthbajjkggfgogaaX17
import Derived.Test.YthbajjkggfgogaaMath121
import Derived.Test.YthbajjkggfgogaaW121
import Derived.Test.YthbajjkggfgogaaR81
import Derived.Test.YthbajjkggfgogaaL1
namespace Go.Proofs.Ythbajjkggfgogaa
open Go.RowKit
set_option linter.unusedVariables false
set_option maxRecDepth 20000 in
set_option maxHeartbeats 6400000 in
theorem fnWorkersFor_walk (A : Option Addr) (c : Nat) (l : List Int) (w : World) (hb : RB w 0 w.heap.size A l) (hlc : l.length ≤ c ∧ c ≤ maxLen) :
    Calls Try.prog 8 #[.slice A l.length c] w fun e w' => e = .returned (.bool true) ∧ Below w.heap.size w w' := by
  have hl63 : l.length ≤ 9223372036854775807 := by have := hlc.2; unfold maxLen at this; omega
  by_cases hbig : 1048576 < l.length
  · go_enter Try.func8, Try.ntmps8
    go_wp2
    go_ret
    exact ⟨rfl, Below.refl _ _⟩
  · have C1 := Lib.hid (DrawWorkersFor_any A c l w hb hlc.1 hlc.2)
    clear hb
    go_enter Try.func8, Try.ntmps8
    go_wp2_with fail
    refine (C1.out).mono ?_
    rintro e w1 ⟨⟨A1, c1, g, A2, c2, m, d, rfl, hg, hg16, hgc, hcm, hm, hm100, hmc, hmm⟩, hb1⟩
    have HG := Lib.hid hg
    have HM := Lib.hid hm
    have hm9 : m.length ≤ 9223372036854775807 := by omega
    have s1 := hb1.size
    have hl9 : g.length ≤ 9223372036854775807 := by omega
    have HX1 := Lib.hid (Below.refl w1.heap.size w1)
    have HB1 := Lib.hid hb1
    have QWF := Lib.hid (fun (d : Int) W (hb : Below w1.heap.size w1 W) => WorkersFor_any A1 c1 g A2 c2 m d w.heap.size w1.heap.size w.heap.size w1.heap.size W (HG.out.below hb (Nat.le_refl _)) hb.size (HM.out.below hb (Nat.le_refl _)) hb.size hl9 hm9)
    have QWFm := Lib.hid (fun (d : Int) W (hb : Below w1.heap.size w1 W) => WorkersForS_any A1 c1 g A2 c2 m d w.heap.size w1.heap.size w.heap.size w1.heap.size W (HG.out.below hb (Nat.le_refl _)) hb.size (HM.out.below hb (Nat.le_refl _)) hb.size hl9 hm9)
    have QPS := Lib.hid (fun (k : Int) W (hb : Below w1.heap.size w1 W) => PlanStarts_any A1 c1 g A2 c2 m k w.heap.size w1.heap.size w.heap.size w1.heap.size W (HG.out.below hb (Nat.le_refl _)) hb.size (HM.out.below hb (Nat.le_refl _)) hb.size hl9 hm9)
    have QMDp := Lib.hid (fun (k : Int) A3 c3 S l2 h2 W (hb : Below w1.heap.size w1 W) (hq : RI W l2 h2 A3 S) (hh2 : h2 ≤ W.heap.size) (hql : S.length ≤ 9223372036854775807) => MeetsDeadline_any A1 c1 g A2 c2 m A3 c3 S k d w.heap.size w1.heap.size w.heap.size w1.heap.size l2 h2 W (HG.out.below hb (Nat.le_refl _)) hb.size (HM.out.below hb (Nat.le_refl _)) hb.size hq hh2 hl9 hm9 hql)
    clear C1 hb1
    obtain ⟨V, hV⟩ : ∃ V, V = Bs.wrkL g m d := ⟨_, rfl⟩
    have HV := Lib.hid hV
    have e2 := QWF.out d w1 HX1.out
    have e3 := fun W hb => QWFm.out d W hb
    rw [← hV] at e2 e3
    have E2 := Lib.hid e2
    have CS := Lib.hid e3
    have hne : (V != V) = false := by simp
    have heq : (V == V) = true := by simp
    clear hV e2 e3
    have C2 := Lib.hid (E2.out)
    go_wp2_with fail
    with_reducible refine (C2.out).mono ?_
    rintro e w2 ⟨rfl, hb2⟩
    have HX2 := Lib.hid (HX1.out.trans (hb2.mono HX1.out.size))
    have HB2 := Lib.hid (HB1.out.trans (hb2.mono (Nat.le_trans s1 HX1.out.size)))
    clear hb2 C2
    have C3 := Lib.hid (CS.out w2 HX2.out)
    go_wp2_with fail
    with_reducible refine (C3.out).mono ?_
    rintro e w3 ⟨rfl, hb3⟩
    have HX3 := Lib.hid (HX2.out.trans (hb3.mono HX2.out.size))
    have HB3 := Lib.hid (HB2.out.trans (hb3.mono (Nat.le_trans s1 HX2.out.size)))
    clear hb3 C3
    by_cases h0 : V < 0
    · have d0 : decide (V < 0) = true := decide_eq_true h0
      clear HV h0 QWF QPS QMDp
      have C30 := Lib.hid (CS.out w3 HX3.out)
      go_wp2_with fail
      with_reducible refine (C30.out).mono ?_
      rintro e w30 ⟨rfl, hb30⟩
      have HX30 := Lib.hid (HX3.out.trans (hb30.mono HX3.out.size))
      have HB30 := Lib.hid (HB3.out.trans (hb30.mono (Nat.le_trans s1 HX3.out.size)))
      clear hb30 C30
      go_wp2
      go_ret
      exact ⟨rfl, HB30.out⟩
    · have d0 : decide (V < 0) = false := decide_eq_false h0
      obtain ⟨hv, hr, hdb, v1, v4, vp, vn⟩ := Bs.wrkL_ok HV.out h0
      obtain ⟨N, rfl⟩ : ∃ N : Nat, V = N := ⟨V.toNat, by omega⟩
      have HME := Lib.hid (fun (k : Nat) (a : 1 ≤ k) (b : k ≤ N) => show Bs.meetB g m (k : Int) (Bs.planL g m (k : Int)) d = decide (k = N) from by
        rw [Bs.meetB_plan hv hr hdb (by omega) (by omega)]
        by_cases e : k = N
        · subst e; rw [vp]; simp
        · rw [vn k (by omega) (by omega)]; simp [e])
      have HPL := Lib.hid (fun (k : Int) => Bs.planL_len g m k)
      clear HV h0 QWF hne heq CS hv hr vp vn
      have d9 : decide ((N : Int) ≤ 4) = true := decide_eq_true (by omega)
      go_wp2
      go_loopw [7] (fun i wr => ∃ k : Nat, 1 ≤ k ∧ k ≤ N + 1 ∧ i = .int .i64 k ∧ Below w1.heap.size w1 wr ∧ Below w.heap.size w wr) (fun i _ => N + 1 - (intOf i).toNat)
      case atStart => exact ⟨1, by omega, by omega, rfl, HX3.out, HB3.out⟩
      case round =>
        clear HX3 HB3
        obtain ⟨k, hk1, hk, rfl, hx, hb⟩ := hrel
        have HX4 := Lib.hid hx
        have HB4 := Lib.hid hb
        clear hx hb
        by_cases hlt : k ≤ N
        · have d1 : decide ((k : Int) ≤ (N : Int)) = true := decide_eq_true (by omega)
          have hme := HME.out k hk1 hlt
          have hpl := HPL.out (k : Int)
          have C5 := Lib.hid (QPS.out (k : Int) wr HX4.out)
          have C6 := Lib.hid (fun A3 c3 lo2 W hb (hq : RI W lo2 W.heap.size A3 (Bs.planL g m (k : Int))) => QMDp.out (k : Int) A3 c3 (Bs.planL g m (k : Int)) lo2 _ W hb hq (Nat.le_refl _) (by omega))
          rw [hme] at C6
          have hwk : IntKind.i64.wrap ((k : Int) + 1) = (k : Int) + 1 := IntWalk.i64_in _ ⟨by omega, by omega⟩
          have hkn : ((k : Int) == (N : Int)) = decide (k = N) := by rw [Bool.eq_iff_iff, beq_iff_eq, decide_eq_true_eq]; omega
          clear HME HPL QPS QMDp hme
          generalize Bs.planL g m (k : Int) = P at *
          have sx := HX4.out.size
          go_wp2_with fail
          with_reducible refine (C5.out).mono ?_
          rintro e w5 ⟨⟨A5, c5, rfl, ho5⟩, hb5⟩
          have HX5 := Lib.hid (HX4.out.trans (hb5.mono sx))
          have HB5 := Lib.hid (HB4.out.trans (hb5.mono (Nat.le_trans s1 sx)))
          have C7 := Lib.hid (C6.out A5 c5 _ w5 HX5.out ho5.ri)
          have sx5 := HX5.out.size
          clear hb5 ho5 C5 C6
          go_wp2_with fail
          with_reducible refine (C7.out).mono ?_
          rintro e w6 ⟨rfl, hb6⟩
          have HX6 := Lib.hid (HX5.out.trans (hb6.mono sx5))
          have HB6 := Lib.hid (HB5.out.trans (hb6.mono (Nat.le_trans s1 sx5)))
          clear hb6 C7 HX5 HB5
          cases hdk : decide (k = N)
          · rw [hdk] at hkn
            go_wp2
            go_roundw
            case rel => exact ⟨k + 1, by omega, by omega, by go_num, HX6.out, HB6.out⟩
            case measure => simp [intOf]; omega
          · rw [hdk] at hkn
            go_wp2
            go_roundw
            case rel => exact ⟨k + 1, by omega, by omega, by go_num, HX6.out, HB6.out⟩
            case measure => simp [intOf]; omega
        · have d1 : decide ((k : Int) ≤ (N : Int)) = false := decide_eq_false (by omega)
          clear HME HPL QPS QMDp
          go_wp2
          go_ret
          exact ⟨rfl, HB4.out⟩
end Go.Proofs.Ythbajjkggfgogaa
