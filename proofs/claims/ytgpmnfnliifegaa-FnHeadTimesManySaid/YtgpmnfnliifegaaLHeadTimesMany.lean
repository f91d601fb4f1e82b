/-
  THE WALK OF laws.FnHeadTimesMany.
-/
import Derived.Test.YtgpmnfnliifegaaDrHeadTimes
import Derived.Test.YtgpmnfnliifegaaMath114
import Derived.Test.YtgpmnfnliifegaaW86
import Derived.Test.YtgpmnfnliifegaaW15b
import Derived.Test.YtgpmnfnliifegaaK11
import Derived.Test.YtgpmnfnliifegaaL1
namespace Go.Proofs.Ytgpmnfnliifegaa
open Go.RowKit
set_option linter.unusedVariables false
theorem row3_8 (w : World) : RI (w.alloc (.cells #[.int .i64 8, .int .i64 8, .int .i64 8] 3)) w.heap.size (w.alloc (.cells #[.int .i64 8, .int .i64 8, .int .i64 8] 3)).heap.size (some ⟨w.heap.size, 0, none⟩) Bs.m8 :=
  ((show Arr (w.alloc (.cells (intsA Bs.m8) 3)) w.heap.size Bs.m8 from Blk.new _ 3 _).oi (Nat.le_refl _) (by decide)).ri
set_option maxRecDepth 20000 in
set_option maxHeartbeats 6400000 in
theorem fnHeadTimesMany_walk (A : Option Addr) (c : Nat) (l : List Int) (w : World) (hb : RB w 0 w.heap.size A l) (hlc : l.length ≤ c ∧ c ≤ maxLen) :
    Calls Try.prog 9 #[.slice A l.length c] w fun e w' => e = .returned (.bool true) ∧ Below w.heap.size w w' := by
  have hl63 : l.length ≤ 9223372036854775807 := by have := hlc.2; unfold maxLen at this; omega
  by_cases hbig : 1048576 < l.length
  · go_enter Try.func9, Try.ntmps9
    go_wp2
    go_ret
    exact ⟨rfl, Below.refl _ _⟩
  · have C1 := Lib.hid (DrawHeadTimes_any A c l w hb hlc.1 hlc.2)
    clear hb
    go_enter Try.func9, Try.ntmps9
    go_wp2_with fail
    refine (C1.out).mono ?_
    rintro e w1 ⟨⟨A1, c1, g, rfl, hg, hg16, hgc, hcm⟩, hb1⟩
    have HG := Lib.hid hg
    have s1 := hb1.size
    have hl9 : g.length ≤ 9223372036854775807 := by omega
    have HX1 := Lib.hid (Below.refl w1.heap.size w1)
    have HB1 := Lib.hid hb1
    clear C1
    obtain ⟨L, hL⟩ : ∃ L, L = if Bs.valid g then Bs.headsC g else [] := ⟨_, rfl⟩
    have e2 := HeadTimes_any A1 c1 g w.heap.size w1.heap.size w1 HG.out (Nat.le_refl _) hl9
    have hlen := HeadTimes_len g
    have e3 := fun W (hb : Below w1.heap.size w1 W) => HeadTimesS_any A1 c1 g w.heap.size w1.heap.size W (HG.out.below hb (Nat.le_refl _)) hb.size hl9
    rw [← hL] at e2 e3 hlen
    have E2 := Lib.hid e2
    have CS := Lib.hid e3
    have HL := Lib.hid hL
    clear hL e2 e3 hb1
    go_wp2_with fail
    with_reducible refine (E2.out).mono ?_
    rintro e w2 ⟨⟨A22, c22, rfl, ho2⟩, hb2⟩
    have HX2 := Lib.hid hb2
    have HB2 := Lib.hid (HB1.out.trans (hb2.mono s1))
    have hr2 := ho2.ri
    have C3 := Lib.hid (CS.out w2 HX2.out)
    clear ho2 hb2 E2
    go_wp2_with fail
    with_reducible refine (C3.out).mono ?_
    rintro e w3 ⟨⟨A23, c23, rfl, ho3⟩, hb3⟩
    have hr3 := hr2.below hb3 (Nat.le_refl _)
    have C4 := Lib.hid (equalInts_same A22 c22 A23 c23 L _ _ _ _ w3 hr3 ho3.ri (by omega))
    have HQL3 := Lib.hid hr3
    have HX3 := Lib.hid (HX2.out.trans (hb3.mono HX2.out.size))
    have HB3 := Lib.hid (HB2.out.trans (hb3.mono (Nat.le_trans s1 HX2.out.size)))
    have hqL3 := hb3.size
    clear hb3 ho3 hr2 hr3 C3
    go_wp2_with fail
    with_reducible refine (C4.out).mono ?_
    rintro e w4 ⟨rfl, n, rfl⟩
    clear C4
    have HQL4 := Lib.hid (HQL3.out.drewN n)
    have HX4 := Lib.hid (HX3.out.drewN n)
    have HB4 := Lib.hid (HB3.out.drewN n)
    have hqL4 : w2.heap.size ≤ (w3.drewN n).heap.size := hqL3
    clear HQL3 HX3 HB3 HX2 HB2 hqL3
    generalize w3.drewN n = w4 at *
    have HLG := Lib.hid hlen
    clear hlen
    by_cases hlg : L.length = g.length
    · have hq0 : ((L.length : Int) != (g.length : Int)) = false := by simp [hlg]
      by_cases h0 : g.length = 0
      · have hq1 : ((g.length : Int) == 0) = true := by simp [h0]
        have hLB := HLG.out
        clear hlg h0 HL HLG
        have CA := Lib.hid (CS.out w4 HX4.out)
        go_wp2_with fail
        with_reducible refine (CA.out).mono ?_
        rintro e wA ⟨⟨AA, cA, rfl, oA⟩, hbA⟩
        have CB := Lib.hid (equalInts_same A22 c22 AA cA L _ _ _ _ wA (HQL4.out.below hbA hqL4) oA.ri (by omega))
        have HBA := Lib.hid (HB4.out.trans (hbA.mono (Nat.le_trans s1 HX4.out.size)))
        clear hbA oA CA
        go_wp2_with fail
        with_reducible refine (CB.out).mono ?_
        rintro e wB ⟨rfl, nB, rfl⟩
        go_wp2
        go_ret
        exact ⟨rfl, HBA.out.drewN _⟩
      · have hq1 : ((g.length : Int) == 0) = false := by rw [beq_eq_false_iff_ne]; omega
        obtain ⟨hv, hpl, hge, heq⟩ := Bs.heads_many HL.out hlg (by omega)
        have h8 := Bs.fine_len (valid_fine hv)
        obtain ⟨P, hP⟩ : ∃ P, P = Bs.planL g Bs.m8 4 := ⟨_, rfl⟩
        have e5 := fun W (hb : Below w1.heap.size w1 W) A2 lo2 hi2 (hm : RI W lo2 hi2 A2 Bs.m8) (hh2 : hi2 ≤ W.heap.size) => show Calls Try.prog 13 #[.slice A1 g.length c1, .slice A2 3 3, .int .i64 4] W (RetI W (Bs.planL g Bs.m8 4)) from PlanStarts_any A1 c1 g A2 3 Bs.m8 4 w.heap.size w1.heap.size lo2 hi2 W (HG.out.below hb (Nat.le_refl _)) hb.size hm hh2 hl9 (by decide)
        rw [← hP] at e5 hpl hge heq
        have HGE := Lib.hid hge
        have HEQ := Lib.hid heq
        have hpl1 := Nat.le_of_eq hpl
        have hpl2 := Nat.le_of_eq hpl.symm
        have hlg1 := Nat.le_of_eq hlg
        have hlg2 := Nat.le_of_eq hlg.symm
        have HX5 := Lib.hid (HX4.out.alloc HX4.out.size (.cells #[.int .i64 8, .int .i64 8, .int .i64 8] 3))
        have HB5 := Lib.hid (HB4.out.alloc (Nat.le_trans s1 HX4.out.size) (.cells #[.int .i64 8, .int .i64 8, .int .i64 8] 3))
        have hal := (Below.refl w4.heap.size w4).alloc (Nat.le_refl _) (.cells #[.int .i64 8, .int .i64 8, .int .i64 8] 3)
        have HQL5 := Lib.hid (HQL4.out.below hal hqL4)
        have hqL5 : w2.heap.size ≤ (w4.alloc (.cells #[.int .i64 8, .int .i64 8, .int .i64 8] 3)).heap.size := Nat.le_trans hqL4 hal.size
        have hrm := row3_8 w4
        have C6 := Lib.hid (e5 _ HX5.out _ _ _ hrm (Nat.le_refl _))
        clear hv hpl hge heq e5 hlg h0 HL CS hP hal hrm
        go_wp2_with fail
        with_reducible refine (C6.out).mono ?_
        rintro e w6 ⟨⟨A26, c26, rfl, ho6⟩, hb6⟩
        have HX6 := Lib.hid (HX5.out.trans (hb6.mono HX5.out.size))
        have HB6 := Lib.hid (HB5.out.trans (hb6.mono HB5.out.size))
        have HQL6 := Lib.hid (HQL5.out.below hb6 hqL5)
        have HQP6 := Lib.hid ho6.ri
        have HG6 := Lib.hid (HG.out.below HX6.out (Nat.le_refl _))
        clear hb6 ho6 C6 HX5 HB5 HX4 HB4 HQL5 HQL4
        have d4 : decide ((g.length : Int) ≤ 4) = decide (g.length ≤ 4) := by rw [decide_eq_decide]; omega
        go_wp2
        go_loopw [7, 8] (fun e i wr => ∃ (k : Nat) (b : Bool), k ≤ g.length ∧ e = .bool b ∧ i = .int .i64 k ∧ b = (decide (g.length ≤ 4) && (g.take k).all fun t => decide (t.units ≤ 2)) ∧ ∃ n, wr = w6.drewN n) (fun e i _ => g.length - (intOf i).toNat)
        case atStart => exact ⟨0, decide (g.length ≤ 4), Nat.zero_le _, by rw [← d4], rfl, by simp, 0, rfl⟩
        case round =>
          obtain ⟨k, b, hk, rfl, rfl, hbe, n, rfl⟩ := hrel
          by_cases hlt : k < g.length
          · obtain ⟨b1, o1, N, cN, rfl, _, _, g0, g1, g2, g3, hnc, hcN, hN⟩ := HG6.out k hlt
            obtain ⟨b5, o5, rfl, _, _, k5⟩ := HQP6.out.at_ (k := k) (by omega)
            obtain ⟨b4, o4, rfl, _, _, k4⟩ := HQL6.out.at_ (k := k) (by omega)
            rw [← Bs.giZ_at (by omega)] at k5
            rw [← Bs.giZ_at (by omega)] at k4
            have hge := HGE.out k hlt
            have hall := Bs.all_take g (fun t => decide (t.units ≤ 2)) k hlt
            have HBE := Lib.hid (show (b && decide (g[k].units ≤ 2)) = (decide (g.length ≤ 4) && (g.take (k + 1)).all fun t => decide (t.units ≤ 2)) from by rw [hall, hbe, Bool.and_assoc])
            have i0 : (0 : Int) ≤ (k : Int) := by omega
            have i1 : (k : Int) < (g.length : Int) := by omega
            have i2 : (k : Int) < (P.length : Int) := by omega
            have i3 : (k : Int) < (L.length : Int) := by omega
            have e1 : decide ((k : Int) ≥ (P.length : Int)) = false := decide_eq_false (by omega)
            have e1b : decide ((P.length : Int) ≤ (k : Int)) = false := decide_eq_false (by omega)
            have e1c : decide (P.length ≤ k) = false := decide_eq_false (by omega)
            clear g0 g1 g2 hN hall hbe HGE HEQ
            generalize Bs.giZ P k = x at *
            generalize Bs.giZ L k = y at *
            generalize g[k].units = un at *
            have e2 : decide (x < y) = false := decide_eq_false (by omega)
            clear hge hpl1 hpl2 hlg1 hlg2
            cases b
            · have HB2 := Lib.hid HBE.out.symm
              rw [Bool.false_and] at HB2
              go_wp2
              go_quiet (fail)
              go_wp2
              go_roundw
              case rel => exact ⟨k + 1, false, by omega, rfl, by go_num, HB2.out.symm, _, by first | rfl | rw [World.drewN_drewN]⟩
              case measure => simp [intOf]; omega
            · have HB2 := Lib.hid HBE.out
              rw [Bool.true_and] at HB2
              go_wp2
              go_quiet (fail)
              go_wp2
              go_roundw
              case rel => exact ⟨k + 1, decide (un ≤ 2), by omega, rfl, by go_num, HB2.out, _, by first | rfl | rw [World.drewN_drewN]⟩
              case measure => simp [intOf]; omega
          · obtain rfl : k = g.length := by omega
            rw [List.take_length] at hbe
            cases b
            · clear hbe HEQ HGE
              go_wp2
              go_ret
              exact ⟨rfl, HB6.out.drewN _⟩
            · have hboth : g.length ≤ 4 ∧ ∀ i, i < g.length → Bs.unitsOf g i ≤ 2 := by
                have h := hbe.symm
                rw [Bool.and_eq_true, decide_eq_true_eq, List.all_eq_true] at h
                refine ⟨h.1, fun i hi => ?_⟩
                have := h.2 g[i] (List.getElem_mem hi)
                rw [decide_eq_true_eq] at this
                rw [Bs.units_at hi]
                exact this
              have hPL := HEQ.out hboth.1 hboth.2
              subst hPL
              have C7 := Lib.hid (equalInts_same A26 c26 A22 c22 P _ _ _ _ (w6.drewN n) (HQP6.out.drewN n) (HQL6.out.drewN n) (by omega))
              clear hbe HEQ HGE hboth
              go_wp2_with fail
              with_reducible refine (C7.out).mono ?_
              rintro e w7 ⟨rfl, n7, rfl⟩
              go_wp2
              go_ret
              exact ⟨rfl, HB6.out.drewN _⟩
    · have hq0 : ((L.length : Int) != (g.length : Int)) = true := by rw [bne_iff_ne]; omega
      have hLB := HLG.out
      clear hlg HL HLG
      have CA := Lib.hid (CS.out w4 HX4.out)
      go_wp2_with fail
      with_reducible refine (CA.out).mono ?_
      rintro e wA ⟨⟨AA, cA, rfl, oA⟩, hbA⟩
      have CB := Lib.hid (equalInts_same A22 c22 AA cA L _ _ _ _ wA (HQL4.out.below hbA hqL4) oA.ri (by omega))
      have HBA := Lib.hid (HB4.out.trans (hbA.mono (Nat.le_trans s1 HX4.out.size)))
      clear hbA oA CA
      go_wp2_with fail
      with_reducible refine (CB.out).mono ?_
      rintro e wB ⟨rfl, nB, rfl⟩
      go_wp2
      go_ret
      exact ⟨rfl, HBA.out.drewN _⟩
end Go.Proofs.Ytgpmnfnliifegaa
