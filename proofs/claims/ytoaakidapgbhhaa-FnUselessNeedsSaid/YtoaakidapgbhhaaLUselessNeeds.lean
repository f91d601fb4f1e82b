/-
  THE WALK OF laws.FnUselessNeeds.
-/
import Derived.Test.YtoaakidapgbhhaaDrC13
import Derived.Test.YtoaakidapgbhhaaMath136
import Derived.Test.YtoaakidapgbhhaaLLists
import Derived.Test.YtoaakidapgbhhaaK5
namespace Go.Proofs.Ytoaakidapgbhhaa
open Go.RowKit
set_option linter.unusedVariables false
set_option linter.unusedSimpArgs false in
set_option maxRecDepth 20000 in
set_option maxHeartbeats 6400000 in
theorem fnUselessNeeds_walk (A : Option Addr) (c : Nat) (l : List Int) (w : World) (hb : RB w 0 w.heap.size A l) (hlc : l.length ≤ c ∧ c ≤ maxLen) :
    Calls Try.prog 6 #[.slice A l.length c] w fun e w' => e = .returned (.bool true) ∧ Below w.heap.size w w' := by
  have hl63 : l.length ≤ 9223372036854775807 := by have := hlc.2; unfold maxLen at this; omega
  by_cases hbig : 1048576 < l.length
  · go_enter Try.func6, Try.ntmps6
    go_wp2
    go_ret
    exact ⟨rfl, Below.refl _ _⟩
  · have C1 := Lib.hid (DrawUselessNeeds_any A c l w hb hlc.1 hlc.2)
    clear hb
    go_enter Try.func6, Try.ntmps6
    go_wp2_with fail
    refine (C1.out).mono ?_
    rintro e w1 ⟨⟨A1, c1, g, rfl, hg, hg16, hgc, hcm⟩, hb1⟩
    have HG := Lib.hid hg
    have s1 := hb1.size
    have hl9 : g.length ≤ 9223372036854775807 := by omega
    obtain ⟨L, hL⟩ : ∃ L, L = Bs.pairL g := ⟨_, rfl⟩
    have e2 := UselessNeeds_any A1 c1 g w.heap.size w1.heap.size w1 HG.out (Nat.le_refl _) hl9
    have e3 := fun W (hb : Below w1.heap.size w1 W) => UselessNeedsS_any A1 c1 g w.heap.size w1.heap.size W (HG.out.below hb (Nat.le_refl _)) hb.size hl9
    have hlen : L.length ≤ 1000 := by have := (Bs.pair_law hL).1; omega
    rw [← hL] at e2 e3
    have E2 := Lib.hid e2
    have E3 := Lib.hid e3
    have HL := Lib.hid hL
    clear hL e2 e3 C1
    go_wp2_with fail
    with_reducible refine (E2.out).mono ?_
    rintro e w2 hr2
    obtain ⟨A2, c2, rfl, q2, hb2⟩ := hr2.os.rs
    have C3 := Lib.hid (E3.out w2 hb2)
    have HQ2 := Lib.hid q2
    have HB2 := Lib.hid hb2
    have s2 := hb2.size
    clear hr2 q2 hb2 E2
    go_wp2_with fail
    with_reducible refine (C3.out).mono ?_
    rintro e w3 hr3
    obtain ⟨A3, c3, rfl, q3, hb3⟩ := hr3.rs
    have s3 := hb3.size
    have C4 := Lib.hid (equalLists_same A2 c2 A3 c3 L _ _ _ _ w3 (HQ2.out.below hb3 (Nat.le_refl _)) q3 (by omega))
    have HX3 := Lib.hid (HB2.out.trans (hb3.mono s2))
    have HB3 := Lib.hid hb3
    clear hr3 q3 hb3 C3
    go_wp2_with fail
    with_reducible refine (C4.out).mono ?_
    rintro e w4 ⟨rfl, n, rfl⟩
    clear C4
    have HG4 := Lib.hid ((HG.out.below HX3.out (Nat.le_refl _)).drewN n)
    have HQ4 := Lib.hid ((HQ2.out.below HB3.out (Nat.le_refl _)).drewN n)
    have g1 : w1.heap.size ≤ (w3.drewN n).heap.size := Nat.le_trans s2 s3
    have g2 : w2.heap.size ≤ (w3.drewN n).heap.size := s3
    have g0 : w.heap.size ≤ (w3.drewN n).heap.size := Nat.le_trans s1 g1
    have HX4 := Lib.hid (HX3.out.drewN n)
    have HB4 := Lib.hid ((hb1.trans (HX3.out.mono s1)).drewN n)
    have CS := Lib.hid (fun W (hb : Below (w3.drewN n).heap.size (w3.drewN n) W) => E3.out W (HX4.out.trans (hb.mono g1)))
    clear HG HQ2 HB2 HX3 HB3 HX4 E3 hb1
    generalize w3.drewN n = w4 at *
    have HX := Lib.hid (Below.refl w4.heap.size w4)
    have CAN := Lib.hid (fun (z : Int) W (hb : Below w4.heap.size w4 W) => AllNeeds_any A1 c1 g z w.heap.size w1.heap.size W (HG4.out.below hb g1) (Nat.le_trans g1 hb.size) hl9)
    have HP := Lib.hid (Bs.pair_need HL.out)
    have HNL := Lib.hid (AllNeeds_len g)
    have HZ5 := Lib.hid HX.out
    clear HL CS
    go_wp2
    go_loopw [5, 6, 7, 8] (fun i _ _ _ wr => ∃ k : Nat, k ≤ L.length ∧ i = .int .i64 (k : Int) ∧ Below w4.heap.size w4 wr) (fun i _ _ _ _ => L.length + 1 - (intOf i).toNat)
    case atStart => exact ⟨0, Nat.zero_le _, rfl, HZ5.out⟩
    case round =>
      clear HZ5
      obtain ⟨k, hk, rfl, hbr⟩ := hrel
      have sr := hbr.size
      by_cases hlt : k < L.length
      · obtain ⟨a, x, ha, hx, e1, hany, hne, hin⟩ := HP.out k hlt
        have HE1 := Lib.hid e1
        have HNE := Lib.hid (fun p (hp : p < g[a].needs.length) => hne g[a].needs[p] (List.getElem_mem hp))
        have HANY := Lib.hid hany
        have HIN := Lib.hid hin
        obtain ⟨b, o, N, cN, rfl, _, hbl, q1, q2, q3⟩ := HQ4.out k hlt
        rw [HE1.out] at q1 q2 q3
        obtain ⟨b3, o3, rfl, _, hb3, r0⟩ := q3.at_ (k := 0) (by simp)
        obtain ⟨b3', o3', e3', _, _, r1⟩ := q3.at_ (k := 1) (by simp)
        cases e3'
        simp only [List.getElem_cons_zero, List.getElem_cons_succ, Nat.add_zero, List.length_cons, List.length_nil] at r0 r1 q1
        obtain ⟨bg, og, M, cM, rfl, _, hbg, t0, t1, t2, t3, hlM, hcM, hM⟩ := HG4.out a ha
        have HFX := Lib.hid (fun W (hb : Below w4.heap.size w4 W) => show W.cell? ⟨b, o + k, none⟩ = some (.slice (some ⟨b3, o3, none⟩) 2 cN) ∧ W.cell? ⟨b3, o3, none⟩ = some (.int .i64 (a : Int)) ∧ W.cell? ⟨b3, o3 + 1, none⟩ = some (.int .i64 (x : Int)) ∧ W.cell? ⟨bg, og + a * 4 + 1, none⟩ = some (.slice M g[a].needs.length cM) ∧ RI W w.heap.size w1.heap.size M g[a].needs from
          ⟨(hb.cell (p := ⟨b, o + k, none⟩) (by show b < _; omega)).trans q1, (hb.cell (p := ⟨b3, o3, none⟩) (by show b3 < _; omega)).trans r0, (hb.cell (p := ⟨b3, o3 + 1, none⟩) (by show b3 < _; omega)).trans r1, (hb.cell (p := ⟨bg, og + a * 4 + 1, none⟩) (by show bg < _; omega)).trans t1, hM.below hb g1⟩)
        have hn9 : g[a].needs.length ≤ 9223372036854775807 := by omega
        clear q1 q2 q3 r0 r1 t0 t1 t2 t3 hM
        obtain ⟨q1, r0, r1, t1, hM⟩ := HFX.out wr hbr
        have HBR := Lib.hid hbr
        have i0 : (0 : Int) ≤ (k : Int) := by omega
        have i1 : (k : Int) < (L.length : Int) := by omega
        have i2 : (0 : Int) ≤ (a : Int) := by omega
        have i3 : (a : Int) < (g.length : Int) := by omega
        have d0 : decide ((a : Int) < 0) = false := decide_eq_false (by omega)
        have d1 : decide ((a : Int) ≥ (g.length : Int)) = false := decide_eq_false (by omega)
        have d1b : decide ((g.length : Int) ≤ (a : Int)) = false := decide_eq_false (by omega)
        have d1c : decide (g.length ≤ a) = false := decide_eq_false (by omega)
        clear hM hbr e1 hany hne hin HE1 HP
        go_wp2
        go_loopw [7, 8] (fun s j wr2 => ∃ (p : Nat) (b : Bool), p ≤ g[a].needs.length ∧ s = .bool b ∧ j = .int .i64 (p : Int) ∧ b = (g[a].needs.take p).any (fun y => (Bs.needsA g y).contains (x : Int)) ∧ Below w4.heap.size w4 wr2) (fun _ j _ => g[a].needs.length + 1 - (intOf j).toNat)
        case atStart => exact ⟨0, false, Nat.zero_le _, rfl, rfl, rfl, HBR.out⟩
        case round =>
          obtain ⟨p, bo, hp, rfl, rfl, hbe, hbr⟩ := hrel
          have sr2 := hbr.size
          clear q1 r0 r1 t1 HBR
          obtain ⟨q1, r0, r1, t1, hM⟩ := HFX.out wr hbr
          have HBR := Lib.hid hbr
          by_cases hpl : p < g[a].needs.length
          · obtain ⟨b6, o6, rfl, _, _, hc6⟩ := hM.at_ hpl
            have htk := any_take g[a].needs (fun y => (Bs.needsA g y).contains (x : Int)) p hpl
            have hnl := HNL.out g[a].needs[p]
            have HSS := Lib.hid (fun W (hb : Below w4.heap.size w4 W) => show (fun W : World => W.cell? ⟨b6, o6 + p, none⟩ = some (.int .i64 g[a].needs[p]) ∧ W.cell? ⟨b, o + k, none⟩ = some (.slice (some ⟨b3, o3, none⟩) 2 cN) ∧ W.cell? ⟨b3, o3 + 1, none⟩ = some (.int .i64 (x : Int))) W from by
              obtain ⟨z1, _, z2, _, z3⟩ := HFX.out W hb
              obtain ⟨b9, o9, e9, _, _, z4⟩ := z3.at_ hpl
              cases e9
              exact ⟨z4, z1, z2⟩)
            obtain ⟨P, hP⟩ : ∃ P, P = Bs.needsA g g[a].needs[p] := ⟨_, rfl⟩
            obtain ⟨WR, rfl⟩ : ∃ WR, WR = wr := ⟨_, rfl⟩
            have c5 := fun j => CAN.out g[a].needs[p] (WR.drewN j) (HBR.out.drewN j)
            rw [← hP] at htk hnl c5
            have C5 := fun j => Lib.hid (c5 j)
            have HBE := Lib.hid (show (bo || P.contains (x : Int)) = (g[a].needs.take (p + 1)).any (fun y => (Bs.needsA g y).contains (x : Int)) from by rw [htk, hbe])
            have j0 : (0 : Int) ≤ (p : Int) := by omega
            have j1 : (p : Int) < (g[a].needs.length : Int) := by omega
            clear htk hbe hP c5 hM hbr
            generalize g[a].needs[p] = y at *
            cases bo
            · rw [Bool.false_or] at HBE
              cases hq : P.contains (x : Int)
              · rw [hq] at HBE
                have HQ := Lib.hid hq
                clear hq
                have HX1 := Lib.hid (HBR.out.drewN 1)
                clear hc6
                go_wp2_with fail
                refine wp_region_held_drew (S := fun W => W.cell? ⟨b6, o6 + p, none⟩ = some (.int .i64 y) ∧ W.cell? ⟨b, o + k, none⟩ = some (.slice (some ⟨b3, o3, none⟩) 2 cN) ∧ W.cell? ⟨b3, o3 + 1, none⟩ = some (.int .i64 (x : Int))) (by kernel_rfl) (HSS.out _ HX1.out) (fun hHeld => ?_)
                refine wpAnyH_take (i := 0) (v := .bool false) rfl (by kernel_rfl) (by kernel_rfl) (by kernel_rfl) (fun _ _ _ h => h) (Or.inl ⟨by rfl, fun W hS => by first | rfl | (go_simp; done) | (go_simp; rfl)⟩) hHeld ?_
                try simp only [Act.put, List.getElem_toArray, List.getElem_cons_zero, List.getElem_cons_succ, List.setIfInBounds_toArray, List.set_cons_zero, List.set_cons_succ]
                refine wpAnyH_take (i := 1) (v := .bool false) rfl (by kernel_rfl) (by kernel_rfl) (by kernel_rfl) (fun _ _ _ h => h) (Or.inl ⟨by rfl, fun W hS => by first | rfl | (go_simp; done) | (go_simp; rfl)⟩) hHeld ?_
                try simp only [Act.put, List.getElem_toArray, List.getElem_cons_zero, List.getElem_cons_succ, List.setIfInBounds_toArray, List.set_cons_zero, List.set_cons_succ]
                refine wpAnyH_take (i := 2) (v := .slice (some ⟨bg, og, none⟩) g.length c1) rfl (by kernel_rfl) (by kernel_rfl) (by kernel_rfl) (fun _ _ _ h => h) (Or.inl ⟨by rfl, fun W hS => by first | rfl | (go_simp; done) | (go_simp; rfl)⟩) hHeld ?_
                try simp only [Act.put, List.getElem_toArray, List.getElem_cons_zero, List.getElem_cons_succ, List.setIfInBounds_toArray, List.set_cons_zero, List.set_cons_succ]
                refine wpAnyH_take (i := 3) (v := .slice (some ⟨b6, o6, none⟩) g[a].needs.length cM) rfl (by kernel_rfl) (by kernel_rfl) (by kernel_rfl) (fun _ _ _ h => h) (Or.inl ⟨by rfl, fun W hS => by first | rfl | (go_simp; done) | (go_simp; rfl)⟩) hHeld ?_
                try simp only [Act.put, List.getElem_toArray, List.getElem_cons_zero, List.getElem_cons_succ, List.setIfInBounds_toArray, List.set_cons_zero, List.set_cons_succ]
                refine wpAnyH_take (i := 4) (v := .int .i64 (p : Int)) rfl (by kernel_rfl) (by kernel_rfl) (by kernel_rfl) (fun _ _ _ h => h) (Or.inl ⟨by rfl, fun W hS => by first | rfl | (go_simp; done) | (go_simp; rfl)⟩) hHeld ?_
                try simp only [Act.put, List.getElem_toArray, List.getElem_cons_zero, List.getElem_cons_succ, List.setIfInBounds_toArray, List.set_cons_zero, List.set_cons_succ]
                refine wpAnyH_take (i := 5) (v := .pointer (some ⟨b6, o6 + p, none⟩)) rfl (by kernel_rfl) (by kernel_rfl) (by kernel_rfl) (fun _ _ _ h => h) (Or.inl ⟨by rfl, fun W hS => by first | rfl | (go_simp; done) | (go_simp; rfl)⟩) hHeld ?_
                try simp only [Act.put, List.getElem_toArray, List.getElem_cons_zero, List.getElem_cons_succ, List.setIfInBounds_toArray, List.set_cons_zero, List.set_cons_succ]
                refine wpAnyH_take (i := 6) (v := .int .i64 y) rfl (by kernel_rfl) (by kernel_rfl) (by kernel_rfl) (fun _ _ _ h => h) (Or.inl ⟨by rfl, fun W hS => run_cellL _ rfl _ _ rfl hS.1⟩) hHeld ?_
                try simp only [Act.put, List.getElem_toArray, List.getElem_cons_zero, List.getElem_cons_succ, List.setIfInBounds_toArray, List.set_cons_zero, List.set_cons_succ]
                refine wpAnyH_take (i := 8) (v := .slice (some ⟨b, o, none⟩) L.length c2) rfl (by kernel_rfl) (by kernel_rfl) (by kernel_rfl) (fun _ _ _ h => h) (Or.inl ⟨by rfl, fun W hS => by first | rfl | (go_simp; done) | (go_simp; rfl)⟩) hHeld ?_
                try simp only [Act.put, List.getElem_toArray, List.getElem_cons_zero, List.getElem_cons_succ, List.setIfInBounds_toArray, List.set_cons_zero, List.set_cons_succ]
                refine wpAnyH_take (i := 9) (v := .int .i64 (k : Int)) rfl (by kernel_rfl) (by kernel_rfl) (by kernel_rfl) (fun _ _ _ h => h) (Or.inl ⟨by rfl, fun W hS => by first | rfl | (go_simp; done) | (go_simp; rfl)⟩) hHeld ?_
                try simp only [Act.put, List.getElem_toArray, List.getElem_cons_zero, List.getElem_cons_succ, List.setIfInBounds_toArray, List.set_cons_zero, List.set_cons_succ]
                refine wpAnyH_take (i := 10) (v := .pointer (some ⟨b, o + k, none⟩)) rfl (by kernel_rfl) (by kernel_rfl) (by kernel_rfl) (fun _ _ _ h => h) (Or.inl ⟨by rfl, fun W hS => by first | rfl | (go_simp; done) | (go_simp; rfl)⟩) hHeld ?_
                try simp only [Act.put, List.getElem_toArray, List.getElem_cons_zero, List.getElem_cons_succ, List.setIfInBounds_toArray, List.set_cons_zero, List.set_cons_succ]
                refine wpAnyH_take (i := 11) (v := .slice (some ⟨b3, o3, none⟩) 2 cN) rfl (by kernel_rfl) (by kernel_rfl) (by kernel_rfl) (fun _ _ _ h => h) (Or.inl ⟨by rfl, fun W hS => run_cellS _ rfl _ _ rfl hS.2.1⟩) hHeld ?_
                try simp only [Act.put, List.getElem_toArray, List.getElem_cons_zero, List.getElem_cons_succ, List.setIfInBounds_toArray, List.set_cons_zero, List.set_cons_succ]
                refine wpAnyH_take (i := 12) (v := .pointer (some ⟨b3, o3 + 1, none⟩)) rfl (by kernel_rfl) (by kernel_rfl) (by kernel_rfl) (fun _ _ _ h => h) (Or.inl ⟨by rfl, fun W hS => by first | rfl | (go_simp; done) | (go_simp; rfl)⟩) hHeld ?_
                try simp only [Act.put, List.getElem_toArray, List.getElem_cons_zero, List.getElem_cons_succ, List.setIfInBounds_toArray, List.set_cons_zero, List.set_cons_succ]
                refine wpAnyH_take (i := 13) (v := .int .i64 (x : Int)) rfl (by kernel_rfl) (by kernel_rfl) (by kernel_rfl) (fun _ _ _ h => h) (Or.inl ⟨by rfl, fun W hS => run_cellL _ rfl _ _ rfl hS.2.2⟩) hHeld ?_
                try simp only [Act.put, List.getElem_toArray, List.getElem_cons_zero, List.getElem_cons_succ, List.setIfInBounds_toArray, List.set_cons_zero, List.set_cons_succ]
                refine wpAnyH_ready (rs := [7]) (by kernel_rfl) (by simp) ?_
                refine AllReadyH.cons rfl (fun K hK => ?_) AllReadyH.nil
                rw [if_pos (by rfl)]
                go_simp
                go_at_call 27
                refine ((C5 1).out).mono ?_
                rintro e w5 hr5
                obtain ⟨A5, c5, rfl, q5, hb5⟩ := hr5.ri2
                have HB5 := Lib.hid (HX1.out.trans (hb5.mono (show w4.heap.size ≤ (WR.drewN 1).heap.size from sr2)))
                have c6 := lisIn_any A5 c5 P (x : Int) _ _ w5 q5 (by omega)
                rw [HQ.out] at c6
                have C6 := Lib.hid c6
                clear hr5 q5 hb5 c6
                go_wp2_with fail
                refine hK.out _ _ (HSS.out _ HB5.out) (fun hHeld => ?_)
                clear hK K
                try simp only [Act.put, List.getElem_toArray, List.getElem_cons_zero, List.getElem_cons_succ, List.setIfInBounds_toArray, List.set_cons_zero, List.set_cons_succ]
                refine wpAnyH_ready (rs := [14]) (by kernel_rfl) (by simp) ?_
                refine AllReadyH.cons rfl (fun K hK => ?_) AllReadyH.nil
                rw [if_pos (by rfl)]
                go_simp
                go_at_call 23
                with_reducible refine (C6.out).mono ?_
                rintro e w6 ⟨rfl, rfl⟩
                go_wp2_with fail
                refine hK.out _ _ (HSS.out _ HB5.out) (fun hHeld => ?_)
                clear hK K
                try simp only [Act.put, List.getElem_toArray, List.getElem_cons_zero, List.getElem_cons_succ, List.setIfInBounds_toArray, List.set_cons_zero, List.set_cons_succ]
                refine wpAnyH_take (i := 15) (v := .bool false) rfl (by kernel_rfl) (by kernel_rfl) (by kernel_rfl) (fun _ _ _ h => h) (Or.inl ⟨by rfl, fun W hS => by first | rfl | (go_simp; done) | (go_simp; rfl)⟩) hHeld ?_
                try simp only [Act.put, List.getElem_toArray, List.getElem_cons_zero, List.getElem_cons_succ, List.setIfInBounds_toArray, List.set_cons_zero, List.set_cons_succ]
                refine wpAnyH_take (i := 16) (v := .bool false) rfl (by kernel_rfl) (by kernel_rfl) (by kernel_rfl) (fun _ _ _ h => h) (Or.inl ⟨by rfl, fun W hS => by first | rfl | (go_simp; done) | (go_simp; rfl)⟩) hHeld ?_
                try simp only [Act.put, List.getElem_toArray, List.getElem_cons_zero, List.getElem_cons_succ, List.setIfInBounds_toArray, List.set_cons_zero, List.set_cons_succ]
                refine wpAnyH_done (by kernel_rfl) ?_ _
                go_wp2
                go_roundw
                case rel => exact ⟨p + 1, _, by omega, rfl, by go_num, HBE.out, HB5.out⟩
                case measure => simp [intOf]; omega
              · rw [hq] at HBE
                have HQ := Lib.hid hq
                clear hq
                have HX1 := Lib.hid (HBR.out.drewN 1)
                clear hc6
                go_wp2_with fail
                refine wp_region_held_drew (S := fun W => W.cell? ⟨b6, o6 + p, none⟩ = some (.int .i64 y) ∧ W.cell? ⟨b, o + k, none⟩ = some (.slice (some ⟨b3, o3, none⟩) 2 cN) ∧ W.cell? ⟨b3, o3 + 1, none⟩ = some (.int .i64 (x : Int))) (by kernel_rfl) (HSS.out _ HX1.out) (fun hHeld => ?_)
                refine wpAnyH_take (i := 0) (v := .bool false) rfl (by kernel_rfl) (by kernel_rfl) (by kernel_rfl) (fun _ _ _ h => h) (Or.inl ⟨by rfl, fun W hS => by first | rfl | (go_simp; done) | (go_simp; rfl)⟩) hHeld ?_
                try simp only [Act.put, List.getElem_toArray, List.getElem_cons_zero, List.getElem_cons_succ, List.setIfInBounds_toArray, List.set_cons_zero, List.set_cons_succ]
                refine wpAnyH_take (i := 1) (v := .bool false) rfl (by kernel_rfl) (by kernel_rfl) (by kernel_rfl) (fun _ _ _ h => h) (Or.inl ⟨by rfl, fun W hS => by first | rfl | (go_simp; done) | (go_simp; rfl)⟩) hHeld ?_
                try simp only [Act.put, List.getElem_toArray, List.getElem_cons_zero, List.getElem_cons_succ, List.setIfInBounds_toArray, List.set_cons_zero, List.set_cons_succ]
                refine wpAnyH_take (i := 2) (v := .slice (some ⟨bg, og, none⟩) g.length c1) rfl (by kernel_rfl) (by kernel_rfl) (by kernel_rfl) (fun _ _ _ h => h) (Or.inl ⟨by rfl, fun W hS => by first | rfl | (go_simp; done) | (go_simp; rfl)⟩) hHeld ?_
                try simp only [Act.put, List.getElem_toArray, List.getElem_cons_zero, List.getElem_cons_succ, List.setIfInBounds_toArray, List.set_cons_zero, List.set_cons_succ]
                refine wpAnyH_take (i := 3) (v := .slice (some ⟨b6, o6, none⟩) g[a].needs.length cM) rfl (by kernel_rfl) (by kernel_rfl) (by kernel_rfl) (fun _ _ _ h => h) (Or.inl ⟨by rfl, fun W hS => by first | rfl | (go_simp; done) | (go_simp; rfl)⟩) hHeld ?_
                try simp only [Act.put, List.getElem_toArray, List.getElem_cons_zero, List.getElem_cons_succ, List.setIfInBounds_toArray, List.set_cons_zero, List.set_cons_succ]
                refine wpAnyH_take (i := 4) (v := .int .i64 (p : Int)) rfl (by kernel_rfl) (by kernel_rfl) (by kernel_rfl) (fun _ _ _ h => h) (Or.inl ⟨by rfl, fun W hS => by first | rfl | (go_simp; done) | (go_simp; rfl)⟩) hHeld ?_
                try simp only [Act.put, List.getElem_toArray, List.getElem_cons_zero, List.getElem_cons_succ, List.setIfInBounds_toArray, List.set_cons_zero, List.set_cons_succ]
                refine wpAnyH_take (i := 5) (v := .pointer (some ⟨b6, o6 + p, none⟩)) rfl (by kernel_rfl) (by kernel_rfl) (by kernel_rfl) (fun _ _ _ h => h) (Or.inl ⟨by rfl, fun W hS => by first | rfl | (go_simp; done) | (go_simp; rfl)⟩) hHeld ?_
                try simp only [Act.put, List.getElem_toArray, List.getElem_cons_zero, List.getElem_cons_succ, List.setIfInBounds_toArray, List.set_cons_zero, List.set_cons_succ]
                refine wpAnyH_take (i := 6) (v := .int .i64 y) rfl (by kernel_rfl) (by kernel_rfl) (by kernel_rfl) (fun _ _ _ h => h) (Or.inl ⟨by rfl, fun W hS => run_cellL _ rfl _ _ rfl hS.1⟩) hHeld ?_
                try simp only [Act.put, List.getElem_toArray, List.getElem_cons_zero, List.getElem_cons_succ, List.setIfInBounds_toArray, List.set_cons_zero, List.set_cons_succ]
                refine wpAnyH_take (i := 8) (v := .slice (some ⟨b, o, none⟩) L.length c2) rfl (by kernel_rfl) (by kernel_rfl) (by kernel_rfl) (fun _ _ _ h => h) (Or.inl ⟨by rfl, fun W hS => by first | rfl | (go_simp; done) | (go_simp; rfl)⟩) hHeld ?_
                try simp only [Act.put, List.getElem_toArray, List.getElem_cons_zero, List.getElem_cons_succ, List.setIfInBounds_toArray, List.set_cons_zero, List.set_cons_succ]
                refine wpAnyH_take (i := 9) (v := .int .i64 (k : Int)) rfl (by kernel_rfl) (by kernel_rfl) (by kernel_rfl) (fun _ _ _ h => h) (Or.inl ⟨by rfl, fun W hS => by first | rfl | (go_simp; done) | (go_simp; rfl)⟩) hHeld ?_
                try simp only [Act.put, List.getElem_toArray, List.getElem_cons_zero, List.getElem_cons_succ, List.setIfInBounds_toArray, List.set_cons_zero, List.set_cons_succ]
                refine wpAnyH_take (i := 10) (v := .pointer (some ⟨b, o + k, none⟩)) rfl (by kernel_rfl) (by kernel_rfl) (by kernel_rfl) (fun _ _ _ h => h) (Or.inl ⟨by rfl, fun W hS => by first | rfl | (go_simp; done) | (go_simp; rfl)⟩) hHeld ?_
                try simp only [Act.put, List.getElem_toArray, List.getElem_cons_zero, List.getElem_cons_succ, List.setIfInBounds_toArray, List.set_cons_zero, List.set_cons_succ]
                refine wpAnyH_take (i := 11) (v := .slice (some ⟨b3, o3, none⟩) 2 cN) rfl (by kernel_rfl) (by kernel_rfl) (by kernel_rfl) (fun _ _ _ h => h) (Or.inl ⟨by rfl, fun W hS => run_cellS _ rfl _ _ rfl hS.2.1⟩) hHeld ?_
                try simp only [Act.put, List.getElem_toArray, List.getElem_cons_zero, List.getElem_cons_succ, List.setIfInBounds_toArray, List.set_cons_zero, List.set_cons_succ]
                refine wpAnyH_take (i := 12) (v := .pointer (some ⟨b3, o3 + 1, none⟩)) rfl (by kernel_rfl) (by kernel_rfl) (by kernel_rfl) (fun _ _ _ h => h) (Or.inl ⟨by rfl, fun W hS => by first | rfl | (go_simp; done) | (go_simp; rfl)⟩) hHeld ?_
                try simp only [Act.put, List.getElem_toArray, List.getElem_cons_zero, List.getElem_cons_succ, List.setIfInBounds_toArray, List.set_cons_zero, List.set_cons_succ]
                refine wpAnyH_take (i := 13) (v := .int .i64 (x : Int)) rfl (by kernel_rfl) (by kernel_rfl) (by kernel_rfl) (fun _ _ _ h => h) (Or.inl ⟨by rfl, fun W hS => run_cellL _ rfl _ _ rfl hS.2.2⟩) hHeld ?_
                try simp only [Act.put, List.getElem_toArray, List.getElem_cons_zero, List.getElem_cons_succ, List.setIfInBounds_toArray, List.set_cons_zero, List.set_cons_succ]
                refine wpAnyH_ready (rs := [7]) (by kernel_rfl) (by simp) ?_
                refine AllReadyH.cons rfl (fun K hK => ?_) AllReadyH.nil
                rw [if_pos (by rfl)]
                go_simp
                go_at_call 27
                refine ((C5 1).out).mono ?_
                rintro e w5 hr5
                obtain ⟨A5, c5, rfl, q5, hb5⟩ := hr5.ri2
                have HB5 := Lib.hid (HX1.out.trans (hb5.mono (show w4.heap.size ≤ (WR.drewN 1).heap.size from sr2)))
                have c6 := lisIn_any A5 c5 P (x : Int) _ _ w5 q5 (by omega)
                rw [HQ.out] at c6
                have C6 := Lib.hid c6
                clear hr5 q5 hb5 c6
                go_wp2_with fail
                refine hK.out _ _ (HSS.out _ HB5.out) (fun hHeld => ?_)
                clear hK K
                try simp only [Act.put, List.getElem_toArray, List.getElem_cons_zero, List.getElem_cons_succ, List.setIfInBounds_toArray, List.set_cons_zero, List.set_cons_succ]
                refine wpAnyH_ready (rs := [14]) (by kernel_rfl) (by simp) ?_
                refine AllReadyH.cons rfl (fun K hK => ?_) AllReadyH.nil
                rw [if_pos (by rfl)]
                go_simp
                go_at_call 23
                with_reducible refine (C6.out).mono ?_
                rintro e w6 ⟨rfl, rfl⟩
                go_wp2_with fail
                refine hK.out _ _ (HSS.out _ HB5.out) (fun hHeld => ?_)
                clear hK K
                try simp only [Act.put, List.getElem_toArray, List.getElem_cons_zero, List.getElem_cons_succ, List.setIfInBounds_toArray, List.set_cons_zero, List.set_cons_succ]
                refine wpAnyH_take (i := 15) (v := .bool true) rfl (by kernel_rfl) (by kernel_rfl) (by kernel_rfl) (fun _ _ _ h => h) (Or.inl ⟨by rfl, fun W hS => by first | rfl | (go_simp; done) | (go_simp; rfl)⟩) hHeld ?_
                try simp only [Act.put, List.getElem_toArray, List.getElem_cons_zero, List.getElem_cons_succ, List.setIfInBounds_toArray, List.set_cons_zero, List.set_cons_succ]
                refine wpAnyH_take (i := 16) (v := .bool true) rfl (by kernel_rfl) (by kernel_rfl) (by kernel_rfl) (fun _ _ _ h => h) (Or.inl ⟨by rfl, fun W hS => by first | rfl | (go_simp; done) | (go_simp; rfl)⟩) hHeld ?_
                try simp only [Act.put, List.getElem_toArray, List.getElem_cons_zero, List.getElem_cons_succ, List.setIfInBounds_toArray, List.set_cons_zero, List.set_cons_succ]
                refine wpAnyH_done (by kernel_rfl) ?_ _
                go_wp2
                go_roundw
                case rel => exact ⟨p + 1, _, by omega, rfl, by go_num, HBE.out, HB5.out⟩
                case measure => simp [intOf]; omega
            · rw [Bool.true_or] at HBE
              go_wp2
              go_quiet (fail)
              go_wp2
              go_roundw
              case rel => exact ⟨p + 1, _, by omega, rfl, by go_num, HBE.out, HBR.out.drewN _⟩
              case measure => simp [intOf]; omega
          · obtain rfl : p = g[a].needs.length := by omega
            rw [List.take_length, HANY.out] at hbe
            subst hbe
            have c8 := lisIn_any M cM g[a].needs (x : Int) _ _ wr hM (by omega)
            rw [HIN.out] at c8
            have C8 := Lib.hid c8
            clear c8 hM hbr
            go_wp2_with fail
            with_reducible refine (C8.out).mono ?_
            rintro e w8 ⟨rfl, rfl⟩
            go_wp2
            go_roundw
            case rel => exact ⟨k + 1, by omega, by go_num, HBR.out⟩
            case measure => simp [intOf]; omega
      · have d1 : ¬ (k : Int) < (L.length : Int) := by omega
        have HBR := Lib.hid (HB4.out.trans (hbr.mono g0))
        clear hbr
        go_wp2
        go_ret
        exact ⟨rfl, HBR.out⟩
end Go.Proofs.Ytoaakidapgbhhaa
