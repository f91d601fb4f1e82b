/-
  THE WALK OF laws.FnStageOf.
-/
import Derived.Test.YtoaakidapgbhhaaDrC13
import Derived.Test.YtoaakidapgbhhaaMath136
import Derived.Test.YtoaakidapgbhhaaLLists
namespace Go.Proofs.Ytoaakidapgbhhaa
open Go.RowKit
set_option linter.unusedVariables false
set_option maxRecDepth 20000 in
set_option maxHeartbeats 6400000 in
theorem fnStageOf_walk (A : Option Addr) (c : Nat) (l : List Int) (w : World) (hb : RB w 0 w.heap.size A l) (hlc : l.length ≤ c ∧ c ≤ maxLen) :
    Calls Try.prog 3 #[.slice A l.length c] w fun e w' => e = .returned (.bool true) ∧ Below w.heap.size w w' := by
  have hl63 : l.length ≤ 9223372036854775807 := by have := hlc.2; unfold maxLen at this; omega
  by_cases hbig : 1048576 < l.length
  · go_enter Try.func3, Try.ntmps3
    go_wp2
    go_ret
    exact ⟨rfl, Below.refl _ _⟩
  · have C1 := Lib.hid (DrawStageOf_any A c l w hb hlc.1 hlc.2)
    clear hb
    go_enter Try.func3, Try.ntmps3
    go_wp2_with fail
    refine (C1.out).mono ?_
    rintro e w1 ⟨⟨A1, c1, g, rfl, hg, hg16, hgc, hcm⟩, hb1⟩
    have HG := Lib.hid hg
    have s1 := hb1.size
    have hl9 : g.length ≤ 9223372036854775807 := by omega
    obtain ⟨L, hL⟩ : ∃ L, L = (if Bs.valid g then Bs.levC g else []) := ⟨_, rfl⟩
    have e2 := StageOf_any A1 c1 g w.heap.size w1.heap.size w1 HG.out (Nat.le_refl _) hl9
    have e3 := fun W (hb : Below w1.heap.size w1 W) => StageOfS_any A1 c1 g w.heap.size w1.heap.size W (HG.out.below hb (Nat.le_refl _)) hb.size hl9
    have hlen : L.length ≤ 1000 := by have := StageOf_len g; rw [← hL] at this; omega
    rw [← hL] at e2 e3
    have E2 := Lib.hid e2
    have E3 := Lib.hid e3
    have HL := Lib.hid hL
    clear hL e2 e3 C1
    go_wp2_with fail
    with_reducible refine (E2.out).mono ?_
    rintro e w2 hr2
    obtain ⟨A2, c2, rfl, q2, hb2⟩ := hr2.ri2
    have C3 := Lib.hid (E3.out w2 hb2)
    have HQ2 := Lib.hid q2
    have HB2 := Lib.hid hb2
    have s2 := hb2.size
    clear hr2 q2 hb2 E2
    go_wp2_with fail
    with_reducible refine (C3.out).mono ?_
    rintro e w3 hr3
    obtain ⟨A3, c3, rfl, q3, hb3⟩ := hr3.ri2
    have s3 := hb3.size
    have C4 := Lib.hid (equalInts_same A2 c2 A3 c3 L _ _ _ _ w3 (HQ2.out.below hb3 (Nat.le_refl _)) q3 (by omega))
    have HX3 := Lib.hid (HB2.out.trans (hb3.mono s2))
    have HB3 := Lib.hid hb3
    clear hr3 q3 hb3 C3
    go_wp2_with fail
    with_reducible refine (C4.out).mono ?_
    rintro e w4 ⟨rfl, n, rfl⟩
    clear C4
    have HG4 := Lib.hid ((HG.out.below HX3.out (Nat.le_refl _)).drewN n)
    have HQ4 := Lib.hid ((HQ2.out.below HB3.out (Nat.le_refl _)).drewN n)
    have g1 : w1.heap.size ≤ (w3.drewN n).heap.size := Nat.le_trans s2 s3
    have g2 : w2.heap.size ≤ (w3.drewN n).heap.size := s3
    have g0 : w.heap.size ≤ (w3.drewN n).heap.size := Nat.le_trans s1 g1
    have HX4 := Lib.hid (HX3.out.drewN n)
    have HB4 := Lib.hid ((hb1.trans (HX3.out.mono s1)).drewN n)
    have CS := Lib.hid (fun W (hb : Below (w3.drewN n).heap.size (w3.drewN n) W) => E3.out W (HX4.out.trans (hb.mono g1)))
    clear HG HQ2 HB2 HX3 HB3 HX4 E3 hb1
    generalize w3.drewN n = w4 at *
    have HX := Lib.hid (Below.refl w4.heap.size w4)
    by_cases hlg : L.length = g.length
    · have hne : ((L.length : Int) != (g.length : Int)) = false := by simp [hlg]
      have HT := Lib.hid (Bs.stage_law HL.out hlg)
      have hll := Nat.le_of_eq hlg.symm
      clear hlg HL CS
      go_wp2
      go_loop [5, 6, 7, 8] (fun i _ _ _ => ∃ k : Nat, k ≤ g.length ∧ i = .int .i64 (k : Int)) (fun i _ _ _ => g.length + 1 - (intOf i).toNat)
      case atStart => exact ⟨0, Nat.zero_le _, rfl⟩
      case round =>
        obtain ⟨k, hk, rfl⟩ := hrel
        by_cases hlt : k < g.length
        · obtain ⟨b, o, N, cN, rfl, _, _, t0, t1, t2, t3, hlN, hcN, hN⟩ := HG4.out k hlt
          obtain ⟨b2, o2, rfl, _, _, hc2⟩ := HQ4.out.at_ (k := k) (by omega)
          rw [← gi_at (by omega)] at hc2
          obtain ⟨x0, x1, x2, x3, _, _⟩ := HT.out k hlt
          obtain ⟨E, hE⟩ : ∃ E, E = ((g[k].needs.length : Int) == 0) := ⟨_, rfl⟩
          have hEz : E = true → (Bs.gi L k == 0) = true := by
            intro h
            rw [h, eq_comm, beq_iff_eq] at hE
            rw [beq_iff_eq]
            rcases x3 with x3 | x3 <;> omega
          have hend : (E || g[k].needs.any (fun x => Bs.gi L x.toNat + 1 == Bs.gi L k)) = true := by
            rcases x3 with ⟨x3, _⟩ | ⟨_, x3⟩
            · rw [hE, x3]; rfl
            · rw [x3, Bool.or_true]
          have HEND := Lib.hid hend
          have hd0 := hE.symm
          have HN := Lib.hid hN
          have HX2 := Lib.hid x2
          have i0 : (0 : Int) ≤ (k : Int) := by omega
          have i1 : (k : Int) < (g.length : Int) := by omega
          have i2 : (k : Int) < (L.length : Int) := by omega
          obtain ⟨E2, hE2⟩ : ∃ E2, E2 = E := ⟨_, rfl⟩
          rw [← hE2] at HEND
          have HE2 := Lib.hid hE2
          clear x2 x3 hend hE hN t0 t2 t3 hE2
          generalize hV : Bs.gi L k = V at *
          clear hV
          cases E
          all_goals
            try have hz0 := hEz rfl
            clear hEz
            go_wp2
            go_loop [6, 7, 8] (fun s j _ => ∃ (p : Nat) (b : Bool), p ≤ g[k].needs.length ∧ s = .bool b ∧ j = .int .i64 (p : Int) ∧ b = (E2 || (g[k].needs.take p).any (fun x => Bs.gi L x.toNat + 1 == V))) (fun _ j _ => g[k].needs.length + 1 - (intOf j).toNat)
            case atStart => exact ⟨0, _, Nat.zero_le _, rfl, rfl, by rw [HE2.out]; rfl⟩
            case round =>
              obtain ⟨p, b, hp, rfl, rfl, hbe⟩ := hrel
              by_cases hpl : p < g[k].needs.length
              · obtain ⟨b3, o3, rfl, _, _, hc3⟩ := HN.out.at_ hpl
                obtain ⟨y0, y1, y2, y3⟩ := HX2.out _ (List.getElem_mem hpl)
                have htk := any_take g[k].needs (fun x => Bs.gi L x.toNat + 1 == V) p hpl
                obtain ⟨x, hx⟩ : ∃ x : Nat, g[k].needs[p] = (x : Int) := ⟨g[k].needs[p].toNat, by omega⟩
                simp only [hx, Int.toNat_natCast] at hc3 y1 y2 y3 htk
                obtain ⟨b5, o5, e5, _, _, hc5⟩ := HQ4.out.at_ (k := x) (by omega)
                cases e5
                rw [← gi_at (by omega)] at hc5
                have HBE := Lib.hid (show (b || (Bs.gi L x + 1 == V)) = (E2 || (g[k].needs.take (p + 1)).any (fun x => Bs.gi L x.toNat + 1 == V)) from by rw [htk, hbe, Bool.or_assoc])
                have j0 : (0 : Int) ≤ (p : Int) := by omega
                have j1 : (p : Int) < (g[k].needs.length : Int) := by omega
                have j2 : (0 : Int) ≤ (x : Int) := by omega
                have j3 : (x : Int) < (L.length : Int) := by omega
                clear htk hbe hx y0
                generalize Bs.gi L x = Y at *
                have d3 : decide (V ≤ Y) = false := decide_eq_false (by omega)
                have d4 : decide (Y ≥ V) = false := decide_eq_false (by omega)
                cases b
                · rw [Bool.false_or] at HBE
                  cases hq : (Y + 1 == V)
                  · rw [hq] at HBE
                    go_wp2
                    go_round
                    case rel => exact ⟨p + 1, _, by omega, rfl, by go_num, HBE.out⟩
                    case measure => simp [intOf]; omega
                  · rw [hq] at HBE
                    go_wp2
                    go_round
                    case rel => exact ⟨p + 1, _, by omega, rfl, by go_num, HBE.out⟩
                    case measure => simp [intOf]; omega
                · rw [Bool.true_or] at HBE
                  go_wp2
                  go_round
                  case rel => exact ⟨p + 1, _, by omega, rfl, by go_num, HBE.out⟩
                  case measure => simp [intOf]; omega
              · obtain rfl : p = g[k].needs.length := by omega
                rw [List.take_length, HEND.out] at hbe
                subst hbe
                go_wp2
                go_round
                case rel => exact ⟨k + 1, by omega, by go_num⟩
                case measure => simp [intOf]; omega
        · have d1 : ¬ (k : Int) < (g.length : Int) := by omega
          go_wp2
          go_ret
          exact ⟨rfl, HB4.out⟩
    · have hne : ((L.length : Int) != (g.length : Int)) = true := by rw [bne_iff_ne]; omega
      clear hlg HL
      have CA := Lib.hid (CS.out _ HX.out)
      go_wp2_with fail
      with_reducible refine (CA.out).mono ?_
      rintro e wA hrA
      obtain ⟨AA, cA, rfl, qA, hbA⟩ := hrA.ri2
      have CB := Lib.hid (equalInts_same A2 c2 AA cA L _ _ _ _ wA ((HQ4.out.below HX.out g2).below hbA (Nat.le_trans g2 HX.out.size)) qA (by omega))
      have HBA := Lib.hid (HB4.out.trans ((HX.out.trans (hbA.mono HX.out.size)).mono g0))
      clear hrA qA hbA CA
      go_wp2_with fail
      with_reducible refine (CB.out).mono ?_
      rintro e wB ⟨rfl, nB, rfl⟩
      go_wp2
      go_ret
      exact ⟨rfl, HBA.out.drewN _⟩
end Go.Proofs.Ytoaakidapgbhhaa
