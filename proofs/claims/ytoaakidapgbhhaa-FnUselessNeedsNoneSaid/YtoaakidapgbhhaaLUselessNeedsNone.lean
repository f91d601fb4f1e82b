/-
  THE WALK OF laws.FnUselessNeedsNone.
-/
import Derived.Test.YtoaakidapgbhhaaDrC13
import Derived.Test.YtoaakidapgbhhaaMath136
import Derived.Test.YtoaakidapgbhhaaLLists
namespace Go.Proofs.Ytoaakidapgbhhaa
open Go.RowKit
set_option linter.unusedVariables false
set_option maxRecDepth 20000 in
set_option maxHeartbeats 6400000 in
theorem fnUselessNeedsNone_walk (A : Option Addr) (c : Nat) (l : List Int) (w : World) (hb : RB w 0 w.heap.size A l) (hlc : l.length ≤ c ∧ c ≤ maxLen) :
    Calls Try.prog 13 #[.slice A l.length c] w fun e w' => e = .returned (.bool true) ∧ Below w.heap.size w w' := by
  have hl63 : l.length ≤ 9223372036854775807 := by have := hlc.2; unfold maxLen at this; omega
  by_cases hbig : 1048576 < l.length
  · go_enter Try.func13, Try.ntmps13
    go_wp2
    go_ret
    exact ⟨rfl, Below.refl _ _⟩
  · have C1 := Lib.hid (DrawUselessNeeds_any A c l w hb hlc.1 hlc.2)
    clear hb
    go_enter Try.func13, Try.ntmps13
    go_wp2_with fail
    refine (C1.out).mono ?_
    rintro e w1 ⟨⟨A1, c1, g, rfl, hg, hg16, hgc, hcm⟩, hb1⟩
    have HG := Lib.hid hg
    have s1 := hb1.size
    have hl9 : g.length ≤ 9223372036854775807 := by omega
    obtain ⟨L, hL⟩ : ∃ L, L = Bs.pairL g := ⟨_, rfl⟩
    have e2 := UselessNeeds_any A1 c1 g w.heap.size w1.heap.size w1 HG.out (Nat.le_refl _) hl9
    have e3 := fun W (hb : Below w1.heap.size w1 W) => UselessNeedsS_any A1 c1 g w.heap.size w1.heap.size W (HG.out.below hb (Nat.le_refl _)) hb.size hl9
    have hlen : L.length ≤ 1000 := by have := (Bs.pair_law hL).1; omega
    rw [← hL] at e2 e3
    have E2 := Lib.hid e2
    have E3 := Lib.hid e3
    have HL := Lib.hid hL
    clear hL e2 e3 C1
    go_wp2_with fail
    with_reducible refine (E2.out).mono ?_
    rintro e w2 hr2
    obtain ⟨A2, c2, rfl, q2, hb2⟩ := hr2.os.rs
    have C3 := Lib.hid (E3.out w2 hb2)
    have HQ2 := Lib.hid q2
    have HB2 := Lib.hid hb2
    have s2 := hb2.size
    clear hr2 q2 hb2 E2
    go_wp2_with fail
    with_reducible refine (C3.out).mono ?_
    rintro e w3 hr3
    obtain ⟨A3, c3, rfl, q3, hb3⟩ := hr3.rs
    have s3 := hb3.size
    have C4 := Lib.hid (equalLists_same A2 c2 A3 c3 L _ _ _ _ w3 (HQ2.out.below hb3 (Nat.le_refl _)) q3 (by omega))
    have HX3 := Lib.hid (HB2.out.trans (hb3.mono s2))
    have HB3 := Lib.hid hb3
    clear hr3 q3 hb3 C3
    go_wp2_with fail
    with_reducible refine (C4.out).mono ?_
    rintro e w4 ⟨rfl, n, rfl⟩
    clear C4
    have HG4 := Lib.hid ((HG.out.below HX3.out (Nat.le_refl _)).drewN n)
    have HQ4 := Lib.hid ((HQ2.out.below HB3.out (Nat.le_refl _)).drewN n)
    have g1 : w1.heap.size ≤ (w3.drewN n).heap.size := Nat.le_trans s2 s3
    have g2 : w2.heap.size ≤ (w3.drewN n).heap.size := s3
    have g0 : w.heap.size ≤ (w3.drewN n).heap.size := Nat.le_trans s1 g1
    have HX4 := Lib.hid (HX3.out.drewN n)
    have HB4 := Lib.hid ((hb1.trans (HX3.out.mono s1)).drewN n)
    have CS := Lib.hid (fun W (hb : Below (w3.drewN n).heap.size (w3.drewN n) W) => E3.out W (HX4.out.trans (hb.mono g1)))
    clear HG HQ2 HB2 HX3 HB3 HX4 E3 hb1
    generalize w3.drewN n = w4 at *
    have HX := Lib.hid (Below.refl w4.heap.size w4)
    have CVG := Lib.hid (fun W (hb : Below w4.heap.size w4 W) => ValidGraph_any A1 c1 g w.heap.size w1.heap.size W (HG4.out.below hb g1) (Nat.le_trans g1 hb.size) hl9)
    have CSO := Lib.hid (fun W (hb : Below w4.heap.size w4 W) => StageOf_any A1 c1 g w.heap.size w1.heap.size W (HG4.out.below hb g1) (Nat.le_trans g1 hb.size) hl9)
    have HVG := Lib.hid (CVG.out w4 HX.out)
    cases hv : Bs.valid g
    · have C5 := HVG.out
      rw [hv] at C5
      have C5 := Lib.hid C5
      clear HVG hv HL CSO
      go_wp2_with fail
      with_reducible refine (C5.out).mono ?_
      rintro e w5 ⟨rfl, hb5⟩
      have HX5 := Lib.hid hb5
      clear hb5 C5
      have CA := Lib.hid (CS.out _ HX5.out)
      go_wp2_with fail
      with_reducible refine (CA.out).mono ?_
      rintro e wA hrA
      obtain ⟨AA, cA, rfl, qA, hbA⟩ := hrA.rs
      have CB := Lib.hid (equalLists_same A2 c2 AA cA L _ _ _ _ wA ((HQ4.out.below HX5.out g2).below hbA (Nat.le_trans g2 HX5.out.size)) qA (by omega))
      have HBA := Lib.hid (HB4.out.trans ((HX5.out.trans (hbA.mono HX5.out.size)).mono g0))
      clear hrA qA hbA CA
      go_wp2_with fail
      with_reducible refine (CB.out).mono ?_
      rintro e wB ⟨rfl, nB, rfl⟩
      go_wp2
      go_ret
      exact ⟨rfl, HBA.out.drewN _⟩
    · have C5 := HVG.out
      rw [hv] at C5
      have C5 := Lib.hid C5
      have c6 := fun W hb => CSO.out W hb
      rw [hv, if_pos rfl] at c6
      have C6 := Lib.hid c6
      have HP := Lib.hid (Bs.pair_none HL.out)
      have HLL := Lib.hid (Bs.levC_len hv)
      have h8 := Bs.fine_len (valid_fine hv)
      clear HVG hv HL CSO CS c6
      generalize hLV : Bs.levC g = LV at *
      clear hLV
      go_wp2_with fail
      with_reducible refine (C5.out).mono ?_
      rintro e w5 ⟨rfl, hb5⟩
      have HX5 := Lib.hid hb5
      have C7 := Lib.hid (C6.out w5 hb5)
      clear hb5 C5 C6
      go_wp2_with fail
      with_reducible refine (C7.out).mono ?_
      rintro e w7 hr7
      obtain ⟨A7, c7, rfl, q7, hb7⟩ := hr7.ri2
      have HX7 := Lib.hid (HX5.out.trans (hb7.mono HX5.out.size))
      have HV7 := Lib.hid q7
      have HQ7 := Lib.hid (HQ4.out.below HX7.out g2)
      have HG7 := Lib.hid (HG4.out.below HX7.out g1)
      have HB7 := Lib.hid (HB4.out.trans (HX7.out.mono g0))
      have hll := Nat.le_of_eq HLL.out.symm
      clear hr7 q7 hb7 C7 HX5 HLL
      go_wp2
      go_loopw [6, 7, 8, 9] (fun i _ _ _ wr => ∃ k : Nat, k ≤ L.length ∧ i = .int .i64 (k : Int) ∧ ∃ q, wr = w7.drewN q) (fun i _ _ _ _ => L.length + 1 - (intOf i).toNat)
      case atStart => exact ⟨0, Nat.zero_le _, rfl, 0, rfl⟩
      case round =>
        obtain ⟨k, hk, rfl, q, rfl⟩ := hrel
        by_cases hlt : k < L.length
        · obtain ⟨b, o, N, cN, rfl, _, _, q1, q2, q3⟩ := HQ7.out k hlt
          obtain ⟨a, x, ha, hx, e1, hany⟩ := HP.out k hlt
          rw [e1] at q1 q2 q3
          obtain ⟨b3, o3, rfl, _, _, r0⟩ := q3.at_ (k := 0) (by simp)
          obtain ⟨b3', o3', e3, _, _, r1⟩ := q3.at_ (k := 1) (by simp)
          cases e3
          simp only [List.getElem_cons_zero, List.getElem_cons_succ, Nat.add_zero, List.length_cons, List.length_nil] at r0 r1 q1
          obtain ⟨bg, og, M, cM, rfl, _, _, t0, t1, t2, t3, hlM, hcM, hM⟩ := HG7.out a ha
          obtain ⟨b5, o5, rfl, _, _, hx5⟩ := HV7.out.at_ (k := x) (by omega)
          rw [← gi_at (by omega)] at hx5
          have hn9 : g[a].needs.length ≤ 9223372036854775807 := by omega
          have HM := Lib.hid hM
          have HNE := Lib.hid (fun p (hp : p < g[a].needs.length) => (hany.2 g[a].needs[p] (List.getElem_mem hp)))
          have HANY := Lib.hid hany.1
          have i0 : (0 : Int) ≤ (k : Int) := by omega
          have i1 : (k : Int) < (L.length : Int) := by omega
          have i2 : (0 : Int) ≤ (a : Int) := by omega
          have i3 : (a : Int) < (g.length : Int) := by omega
          have i4 : (0 : Int) ≤ (x : Int) := by omega
          have i5 : (x : Int) < (LV.length : Int) := by omega
          clear q2 q3 e1 hM t0 t2 t3 hlM hcM hany
          generalize hV : Bs.gi LV x = V at *
          clear hV
          go_wp2
          go_loopw [8, 9] (fun s j wr2 => ∃ (p : Nat) (b : Bool), p ≤ g[a].needs.length ∧ s = .bool b ∧ j = .int .i64 (p : Int) ∧ b = (g[a].needs.take p).any (fun y => decide (V < Bs.gi LV y.toNat)) ∧ ∃ q, wr2 = w7.drewN q) (fun _ j _ => g[a].needs.length + 1 - (intOf j).toNat)
          case atStart => exact ⟨0, false, Nat.zero_le _, rfl, rfl, rfl, _, rfl⟩
          case round =>
            obtain ⟨p, b, hp, rfl, rfl, hbe, q, rfl⟩ := hrel
            by_cases hpl : p < g[a].needs.length
            · obtain ⟨b6, o6, rfl, _, _, hc6⟩ := HM.out.at_ hpl
              obtain ⟨y0, y1⟩ := HNE.out p hpl
              have htk := any_take g[a].needs (fun y => decide (V < Bs.gi LV y.toNat)) p hpl
              obtain ⟨y, hy⟩ : ∃ y : Nat, g[a].needs[p] = (y : Int) := ⟨g[a].needs[p].toNat, by omega⟩
              simp only [hy, Int.toNat_natCast] at hc6 y1 htk
              obtain ⟨b7, o7, e7, _, _, hc7⟩ := HV7.out.at_ (k := y) (by omega)
              cases e7
              rw [← gi_at (by omega)] at hc7
              have HBE := Lib.hid (show (b || decide (V < Bs.gi LV y)) = (g[a].needs.take (p + 1)).any (fun y => decide (V < Bs.gi LV y.toNat)) from by rw [htk, hbe])
              have j0 : (0 : Int) ≤ (p : Int) := by omega
              have j1 : (p : Int) < (g[a].needs.length : Int) := by omega
              have j2 : (0 : Int) ≤ (y : Int) := by omega
              have j3 : (y : Int) < (LV.length : Int) := by omega
              clear htk hbe hy y0
              generalize Bs.gi LV y = Y at *
              cases b
              · rw [Bool.false_or] at HBE
                cases hq : decide (V < Y)
                all_goals
                  have hq2 : decide (Y > V) = _ := hq
                  rw [hq] at HBE
                  go_wp2
                  go_quiet (fail)
                  go_wp2
                  go_roundw
                  case rel => exact ⟨p + 1, _, by omega, rfl, by go_num, HBE.out, _, by first | rfl | rw [World.drewN_drewN]⟩
                  case measure => simp [intOf]; omega
              · rw [Bool.true_or] at HBE
                go_wp2
                go_quiet (fail)
                go_wp2
                go_roundw
                case rel => exact ⟨p + 1, _, by omega, rfl, by go_num, HBE.out, _, by first | rfl | rw [World.drewN_drewN]⟩
                case measure => simp [intOf]; omega
            · obtain rfl : p = g[a].needs.length := by omega
              rw [List.take_length, HANY.out] at hbe
              subst hbe
              go_wp2
              go_roundw
              case rel => exact ⟨k + 1, by omega, by go_num, _, rfl⟩
              case measure => simp [intOf]; omega
        · have d1 : ¬ (k : Int) < (L.length : Int) := by omega
          go_wp2
          go_ret
          exact ⟨rfl, HB7.out.drewN _⟩
end Go.Proofs.Ytoaakidapgbhhaa
