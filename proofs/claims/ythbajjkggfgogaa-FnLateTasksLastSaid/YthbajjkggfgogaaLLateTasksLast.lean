/-
  THE WALK OF laws.FnLateTasksLast.
-/
import Derived.Test.YthbajjkggfgogaaX17
import Derived.Test.YthbajjkggfgogaaMath121
import Derived.Test.YthbajjkggfgogaaW121
import Derived.Test.YthbajjkggfgogaaR81
import Derived.Test.YthbajjkggfgogaaL1
namespace Go.Proofs.Ythbajjkggfgogaa
open Go.RowKit
set_option linter.unusedVariables false
set_option maxRecDepth 20000 in
set_option maxHeartbeats 6400000 in
theorem fnLateTasksLast_walk (A : Option Addr) (c : Nat) (l : List Int) (w : World) (hb : RB w 0 w.heap.size A l) (hlc : l.length ≤ c ∧ c ≤ maxLen) :
    Calls Try.prog 6 #[.slice A l.length c] w fun e w' => e = .returned (.bool true) ∧ Below w.heap.size w w' := by
  have hl63 : l.length ≤ 9223372036854775807 := by have := hlc.2; unfold maxLen at this; omega
  by_cases hbig : 1048576 < l.length
  · go_enter Try.func6, Try.ntmps6
    go_wp2
    go_ret
    exact ⟨rfl, Below.refl _ _⟩
  · have C1 := Lib.hid (DrawLateTasks_any A c l w hb hlc.1 hlc.2)
    clear hb
    go_enter Try.func6, Try.ntmps6
    go_wp2_with fail
    refine (C1.out).mono ?_
    rintro e w1 ⟨⟨A1, c1, g, A2, c2, m, wk, A3, c3, S, d, rfl, hg, hg16, hgc, hcm, hm, hm100, hmc, hmm, hS, hS100, hSc, hSm⟩, hb1⟩
    have HG := Lib.hid hg
    have HM := Lib.hid hm
    have HS := Lib.hid hS
    have hm9 : m.length ≤ 9223372036854775807 := by omega
    have hS9 : S.length ≤ 9223372036854775807 := by omega
    have s1 := hb1.size
    have hl9 : g.length ≤ 9223372036854775807 := by omega
    have HX1 := Lib.hid (Below.refl w1.heap.size w1)
    have HB1 := Lib.hid hb1
    have QLT := Lib.hid (fun (d : Int) W (hb : Below w1.heap.size w1 W) => LateTasks_any A1 c1 g A2 c2 m A3 c3 S wk d w.heap.size w1.heap.size w.heap.size w1.heap.size w.heap.size w1.heap.size W (HG.out.below hb (Nat.le_refl _)) hb.size (HM.out.below hb (Nat.le_refl _)) hb.size (HS.out.below hb (Nat.le_refl _)) hb.size hl9 hm9 hS9)
    have QLTm := Lib.hid (fun (d : Int) W (hb : Below w1.heap.size w1 W) => LateTasksS_any A1 c1 g A2 c2 m A3 c3 S wk d w.heap.size w1.heap.size w.heap.size w1.heap.size w.heap.size w1.heap.size W (HG.out.below hb (Nat.le_refl _)) hb.size (HM.out.below hb (Nat.le_refl _)) hb.size (HS.out.below hb (Nat.le_refl _)) hb.size hl9 hm9 hS9)
    have QVS := Lib.hid (fun W (hb : Below w1.heap.size w1 W) => ValidStarts_any A1 c1 g A2 c2 m A3 c3 S wk w.heap.size w1.heap.size w.heap.size w1.heap.size w.heap.size w1.heap.size W (HG.out.below hb (Nat.le_refl _)) hb.size (HM.out.below hb (Nat.le_refl _)) hb.size (HS.out.below hb (Nat.le_refl _)) hb.size hl9 hm9 hS9)
    have QET := Lib.hid (fun W (hb : Below w1.heap.size w1 W) => EndTime_any A1 c1 g A2 c2 m A3 c3 S wk w.heap.size w1.heap.size w.heap.size w1.heap.size w.heap.size w1.heap.size W (HG.out.below hb (Nat.le_refl _)) hb.size (HM.out.below hb (Nat.le_refl _)) hb.size (HS.out.below hb (Nat.le_refl _)) hb.size hl9 hm9 hS9)
    clear C1 hb1
    obtain ⟨L, hL⟩ : ∃ L, L = Bs.lateL g m wk S d := ⟨_, rfl⟩
    have hlen : L.length ≤ 1000 := by rw [hL]; exact Nat.le_trans (Bs.lateL_len g m wk S d) (by decide)
    have HL := Lib.hid hL
    have e2 := QLT.out d w1 HX1.out
    have e3 := fun W hb => QLTm.out d W hb
    rw [← hL] at e2 e3
    have E2 := Lib.hid e2
    have CS := Lib.hid e3
    clear hL e2 e3
    go_wp2_with fail
    with_reducible refine (E2.out).mono ?_
    rintro e w2 ⟨⟨A22, c22, rfl, ho2⟩, hb2⟩
    have HX2 := Lib.hid hb2
    have HB2 := Lib.hid (HB1.out.trans (hb2.mono s1))
    have hr2 := ho2.ri
    have C3 := Lib.hid (CS.out w2 HX2.out)
    clear ho2 hb2 E2
    go_wp2_with fail
    with_reducible refine (C3.out).mono ?_
    rintro e w3 ⟨⟨A23, c23, rfl, ho3⟩, hb3⟩
    have hr3 := hr2.below hb3 (Nat.le_refl _)
    have C4 := Lib.hid (equalInts_same A22 c22 A23 c23 L _ _ _ _ w3 hr3 ho3.ri (by omega))
    have HQL3 := Lib.hid hr3
    have HX3 := Lib.hid (HX2.out.trans (hb3.mono HX2.out.size))
    have HB3 := Lib.hid (HB2.out.trans (hb3.mono (Nat.le_trans s1 HX2.out.size)))
    have hqL3 := hb3.size
    clear hb3 ho3 hr2 hr3 C3
    go_wp2_with fail
    with_reducible refine (C4.out).mono ?_
    rintro e w4 ⟨rfl, n, rfl⟩
    clear C4
    have HQL4 := Lib.hid (HQL3.out.drewN n)
    have HX4 := Lib.hid (HX3.out.drewN n)
    have HB4 := Lib.hid (HB3.out.drewN n)
    have hqL4 : w2.heap.size ≤ (w3.drewN n).heap.size := hqL3
    clear HQL3 HX3 HB3 HX2 HB2 hqL3
    generalize w3.drewN n = w4 at *
    cases hv : Bs.stV g m wk S
    · have q5 := QVS.out w4 HX4.out
      rw [hv] at q5
      clear hv HL
      have C5 := Lib.hid (q5)
      clear q5
      go_wp2_with fail
      with_reducible refine (C5.out).mono ?_
      rintro e w5 ⟨rfl, hb5⟩
      have HX5 := Lib.hid (HX4.out.trans (hb5.mono HX4.out.size))
      have HB5 := Lib.hid (HB4.out.trans (hb5.mono (Nat.le_trans s1 HX4.out.size)))
      have HQL5 := Lib.hid (HQL4.out.below hb5 hqL4)
      have hqL5 := Nat.le_trans hqL4 hb5.size
      clear hb5 C5
      have CA := Lib.hid (CS.out w5 HX5.out)
      go_wp2_with fail
      with_reducible refine (CA.out).mono ?_
      rintro e wA ⟨⟨AA, cA, rfl, oA⟩, hbA⟩
      have CB := Lib.hid (equalInts_same A22 c22 AA cA L _ _ _ _ wA (HQL5.out.below hbA hqL5) oA.ri (by omega))
      have HBA := Lib.hid (HB5.out.trans (hbA.mono (Nat.le_trans s1 HX5.out.size)))
      clear hbA oA CA
      go_wp2_with fail
      with_reducible refine (CB.out).mono ?_
      rintro e wB ⟨rfl, nB, rfl⟩
      go_wp2
      go_ret
      exact ⟨rfl, HBA.out.drewN _⟩
    · have q5 := QVS.out w4 HX4.out
      rw [hv] at q5
      have C5 := Lib.hid (q5)
      clear q5
      go_wp2_with fail
      with_reducible refine (C5.out).mono ?_
      rintro e w5 ⟨rfl, hb5⟩
      have HX5 := Lib.hid (HX4.out.trans (hb5.mono HX4.out.size))
      have HB5 := Lib.hid (HB4.out.trans (hb5.mono (Nat.le_trans s1 HX4.out.size)))
      have HQL5 := Lib.hid (HQL4.out.below hb5 hqL4)
      have hqL5 := Nat.le_trans hqL4 hb5.size
      clear hb5 C5
      by_cases h1 : d < 0
      · have d1 : decide (d < 0) = true := decide_eq_true h1
        clear hv HL h1
        have CA := Lib.hid (CS.out w5 HX5.out)
        go_wp2_with fail
        with_reducible refine (CA.out).mono ?_
        rintro e wA ⟨⟨AA, cA, rfl, oA⟩, hbA⟩
        have CB := Lib.hid (equalInts_same A22 c22 AA cA L _ _ _ _ wA (HQL5.out.below hbA hqL5) oA.ri (by omega))
        have HBA := Lib.hid (HB5.out.trans (hbA.mono (Nat.le_trans s1 HX5.out.size)))
        clear hbA oA CA
        go_wp2_with fail
        with_reducible refine (CB.out).mono ?_
        rintro e wB ⟨rfl, nB, rfl⟩
        go_wp2
        go_ret
        exact ⟨rfl, HBA.out.drewN _⟩
      · have d1 : decide (d < 0) = false := decide_eq_false h1
        by_cases h2 : 200 < d
        · have d2 : decide (200 < d) = true := decide_eq_true h2
          have d3 : decide (d > 200) = true := decide_eq_true h2
          clear hv HL h1 h2
          have CA := Lib.hid (CS.out w5 HX5.out)
          go_wp2_with fail
          with_reducible refine (CA.out).mono ?_
          rintro e wA ⟨⟨AA, cA, rfl, oA⟩, hbA⟩
          have CB := Lib.hid (equalInts_same A22 c22 AA cA L _ _ _ _ wA (HQL5.out.below hbA hqL5) oA.ri (by omega))
          have HBA := Lib.hid (HB5.out.trans (hbA.mono (Nat.le_trans s1 HX5.out.size)))
          clear hbA oA CA
          go_wp2_with fail
          with_reducible refine (CB.out).mono ?_
          rintro e wB ⟨rfl, nB, rfl⟩
          go_wp2
          go_ret
          exact ⟨rfl, HBA.out.drewN _⟩
        · have d2 : decide (200 < d) = false := decide_eq_false h2
          have d3 : decide (d > 200) = false := decide_eq_false h2
          have hF := valid_fine (Bs.canV_iff.1 (Bs.stV_iff.1 hv).1).1
          have hck := (Bs.stV_iff.1 hv).2.1
          have hsl := Bs.clk_len hck
          have q6 := QET.out w5 HX5.out
          rw [Bs.endT_yes hv] at q6
          have hany := Bs.late_any (d := d) hv (by omega)
          rw [← HL.out] at hany
          have HLA := Lib.hid (fun i (hi : i < g.length) (a : d < Bs.endC g S) (b : Bs.giZ S i + Bs.timeOf g i = Bs.endC g S) => show L.contains (i : Int) = true from by rw [HL.out, List.contains_iff_mem]; exact Bs.late_last hv (by omega) a hi b)
          have HSB := Lib.hid (fun i => Bs.clk_at hck i)
          have HTB := Lib.hid (fun i => Bs.time_b hF i)
          have HSL := Lib.hid hsl
          have HAN := Lib.hid hany
          clear hv HL QVS QLT QLTm QET CS hF hck hsl hany h1 h2
          generalize Bs.endC g S = E at *
          have C6 := Lib.hid (q6)
          clear q6
          go_wp2_with fail
          with_reducible refine (C6.out).mono ?_
          rintro e w6 ⟨rfl, hb6⟩
          have HX6 := Lib.hid (HX5.out.trans (hb6.mono HX5.out.size))
          have HB6 := Lib.hid (HB5.out.trans (hb6.mono (Nat.le_trans s1 HX5.out.size)))
          have HQL6 := Lib.hid (HQL5.out.below hb6 hqL5)
          have hqL6 := Nat.le_trans hqL5 hb6.size
          clear hb6 C6
          have hs6 := HX6.out.size
          have hg6 := HG.out.below HX6.out (Nat.le_refl _)
          have HG6 := Lib.hid hg6
          clear hg6
          go_wp2
          go_loopw [10] (fun i wr => ∃ k : Nat, k ≤ g.length ∧ i = .int .i64 k ∧ ∃ n, wr = w6.drewN n) (fun i _ => g.length - (intOf i).toNat)
          case atStart => exact ⟨0, Nat.zero_le _, rfl, 0, rfl⟩
          case round =>
            obtain ⟨k, hk, rfl, n, rfl⟩ := hrel
            by_cases hlt : k < g.length
            · obtain ⟨b1, o1, N, cN, rfl, _, _, g0, g1, g2, g3, hnc, hcN, hN⟩ := HG6.out k hlt
              have hsl := HSL.out
              obtain ⟨b5, o5, rfl, _, _, k5⟩ := (HS.out.below HX6.out (Nat.le_refl _)).at_ (k := k) (by omega)
              rw [← Bs.giZ_at (by omega)] at k5
              have hla := HLA.out k hlt
              rw [time_at hlt] at hla
              have hsb := HSB.out k
              have htb := HTB.out k
              rw [time_at hlt] at htb
              have i0 : (0 : Int) ≤ (k : Int) := by omega
              have i1 : (k : Int) < (g.length : Int) := by omega
              have i2 : (k : Int) < (S.length : Int) := by omega
              clear g1 g2 g3 hN HLA HSB HTB hsl
              generalize g[k].time = tk at *
              generalize Bs.giZ S k = sk at *
              have hw : IntKind.i64.wrap (sk + tk) = sk + tk := IntWalk.i64_in _ ⟨by omega, by omega⟩
              by_cases hde : d < E
              · have e1 : decide (d < E) = true := decide_eq_true hde
                have e2 : decide (E > d) = true := decide_eq_true hde
                by_cases hse : sk + tk = E
                · have e3 : (sk + tk == E) = true := by rw [hse]; simp
                  have hc := hla hde hse
                  have c7 := fun (j : Nat) => lisIn_quiet A22 c22 L (k : Int) _ _ w6 HQL6.out (by omega) j
                  have c8 := fun (p j : Nat) => lisIn_quiet2 A22 c22 L (k : Int) _ _ w6 HQL6.out (by omega) p j
                  rw [hc] at c7 c8
                  have C7 := Lib.hid c7
                  have C8 := Lib.hid c8
                  clear hla hde hse hc c7 c8
                  go_wp2
                  go_quiet ((first | (go_at_call 27; with_reducible exact C8.out _ _) | (go_at_call 27; with_reducible exact C7.out _)))
                  go_wp2
                  go_roundw
                  case rel => exact ⟨k + 1, by omega, by go_num, _, by first | rfl | rw [World.drewN_drewN]⟩
                  case measure => simp [intOf]; omega
                · have e3 : (sk + tk == E) = false := by rw [beq_eq_false_iff_ne]; exact hse
                  clear hla hde hse
                  go_wp2
                  go_quiet (fail)
                  go_wp2
                  go_roundw
                  case rel => exact ⟨k + 1, by omega, by go_num, _, by first | rfl | rw [World.drewN_drewN]⟩
                  case measure => simp [intOf]; omega
              · have e1 : decide (d < E) = false := decide_eq_false hde
                have e2 : decide (E > d) = false := decide_eq_false hde
                clear hla hde
                go_wp2
                go_quiet (fail)
                go_wp2
                go_roundw
                case rel => exact ⟨k + 1, by omega, by go_num, _, by first | rfl | rw [World.drewN_drewN]⟩
                case measure => simp [intOf]; omega
            · obtain rfl : k = g.length := by omega
              have e4 : decide ((0 : Int) < (L.length : Int)) = decide (d < E) := by rw [decide_eq_decide]; have := HAN.out; omega
              have e5 : decide ((L.length : Int) > 0) = decide (E > d) := by rw [decide_eq_decide]; have := HAN.out; omega
              have e4b : decide (0 < L.length) = decide (d < E) := by rw [decide_eq_decide]; exact HAN.out
              by_cases hde : d < E
              · rw [decide_eq_true hde] at e4 e4b
                rw [decide_eq_true (show E > d from hde)] at e5
                have e1 : decide (d < E) = true := decide_eq_true hde
                have e2 : decide (E > d) = true := decide_eq_true hde
                clear hde
                go_wp2
                go_ret
                exact ⟨rfl, HB6.out.drewN _⟩
              · rw [decide_eq_false hde] at e4 e4b
                rw [decide_eq_false (show ¬ E > d from hde)] at e5
                have e1 : decide (d < E) = false := decide_eq_false hde
                have e2 : decide (E > d) = false := decide_eq_false hde
                clear hde
                go_wp2
                go_ret
                exact ⟨rfl, HB6.out.drewN _⟩
end Go.Proofs.Ythbajjkggfgogaa
