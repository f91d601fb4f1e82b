/-
  THE WALK OF laws.FnStageOfCount.
-/
import Derived.Test.YtoaakidapgbhhaaDrC13
import Derived.Test.YtoaakidapgbhhaaMath136
import Derived.Test.YtoaakidapgbhhaaLLists
namespace Go.Proofs.Ytoaakidapgbhhaa
open Go.RowKit
set_option linter.unusedVariables false
set_option maxRecDepth 20000 in
set_option maxHeartbeats 6400000 in
theorem fnStageOfCount_walk (A : Option Addr) (c : Nat) (l : List Int) (w : World) (hb : RB w 0 w.heap.size A l) (hlc : l.length ≤ c ∧ c ≤ maxLen) :
    Calls Try.prog 11 #[.slice A l.length c] w fun e w' => e = .returned (.bool true) ∧ Below w.heap.size w w' := by
  have hl63 : l.length ≤ 9223372036854775807 := by have := hlc.2; unfold maxLen at this; omega
  by_cases hbig : 1048576 < l.length
  · go_enter Try.func11, Try.ntmps11
    go_wp2
    go_ret
    exact ⟨rfl, Below.refl _ _⟩
  · have C1 := Lib.hid (DrawStageOf_any A c l w hb hlc.1 hlc.2)
    clear hb
    go_enter Try.func11, Try.ntmps11
    go_wp2_with fail
    refine (C1.out).mono ?_
    rintro e w1 ⟨⟨A1, c1, g, rfl, hg, hg16, hgc, hcm⟩, hb1⟩
    have HG := Lib.hid hg
    have s1 := hb1.size
    have hl9 : g.length ≤ 9223372036854775807 := by omega
    obtain ⟨L, hL⟩ : ∃ L, L = (if Bs.valid g then Bs.levC g else []) := ⟨_, rfl⟩
    have e2 := StageOf_any A1 c1 g w.heap.size w1.heap.size w1 HG.out (Nat.le_refl _) hl9
    have e3 := fun W (hb : Below w1.heap.size w1 W) => StageOfS_any A1 c1 g w.heap.size w1.heap.size W (HG.out.below hb (Nat.le_refl _)) hb.size hl9
    have hlen : L.length ≤ 1000 := by have := StageOf_len g; rw [← hL] at this; omega
    rw [← hL] at e2 e3
    have E2 := Lib.hid e2
    have E3 := Lib.hid e3
    have HL := Lib.hid hL
    clear hL e2 e3 C1
    go_wp2_with fail
    with_reducible refine (E2.out).mono ?_
    rintro e w2 hr2
    obtain ⟨A2, c2, rfl, q2, hb2⟩ := hr2.ri2
    have C3 := Lib.hid (E3.out w2 hb2)
    have HQ2 := Lib.hid q2
    have HB2 := Lib.hid hb2
    have s2 := hb2.size
    clear hr2 q2 hb2 E2
    go_wp2_with fail
    with_reducible refine (C3.out).mono ?_
    rintro e w3 hr3
    obtain ⟨A3, c3, rfl, q3, hb3⟩ := hr3.ri2
    have s3 := hb3.size
    have C4 := Lib.hid (equalInts_same A2 c2 A3 c3 L _ _ _ _ w3 (HQ2.out.below hb3 (Nat.le_refl _)) q3 (by omega))
    have HX3 := Lib.hid (HB2.out.trans (hb3.mono s2))
    have HB3 := Lib.hid hb3
    clear hr3 q3 hb3 C3
    go_wp2_with fail
    with_reducible refine (C4.out).mono ?_
    rintro e w4 ⟨rfl, n, rfl⟩
    clear C4
    have HG4 := Lib.hid ((HG.out.below HX3.out (Nat.le_refl _)).drewN n)
    have HQ4 := Lib.hid ((HQ2.out.below HB3.out (Nat.le_refl _)).drewN n)
    have g1 : w1.heap.size ≤ (w3.drewN n).heap.size := Nat.le_trans s2 s3
    have g2 : w2.heap.size ≤ (w3.drewN n).heap.size := s3
    have g0 : w.heap.size ≤ (w3.drewN n).heap.size := Nat.le_trans s1 g1
    have HX4 := Lib.hid (HX3.out.drewN n)
    have HB4 := Lib.hid ((hb1.trans (HX3.out.mono s1)).drewN n)
    have CS := Lib.hid (fun W (hb : Below (w3.drewN n).heap.size (w3.drewN n) W) => E3.out W (HX4.out.trans (hb.mono g1)))
    clear HG HQ2 HB2 HX3 HB3 HX4 E3 hb1
    generalize w3.drewN n = w4 at *
    have HX := Lib.hid (Below.refl w4.heap.size w4)
    have CAN := Lib.hid (fun (z : Int) W (hb : Below w4.heap.size w4 W) => AllNeeds_any A1 c1 g z w.heap.size w1.heap.size W (HG4.out.below hb g1) (Nat.le_trans g1 hb.size) hl9)
    by_cases hlg : L.length = g.length
    · have hne : ((L.length : Int) != (g.length : Int)) = false := by simp [hlg]
      have HT := Lib.hid (Bs.stage_law HL.out hlg)
      have hll := Nat.le_of_eq hlg.symm
      clear hlg HL CS
      go_wp2
      go_loopw [5] (fun i wr => ∃ k : Nat, k ≤ g.length ∧ i = .int .i64 (k : Int) ∧ Below w4.heap.size w4 wr) (fun i _ => g.length + 1 - (intOf i).toNat)
      case atStart => exact ⟨0, Nat.zero_le _, rfl, HX.out⟩
      case round =>
        obtain ⟨k, hk, rfl, hbr⟩ := hrel
        have sr := hbr.size
        have HBR := Lib.hid hbr
        clear hbr
        by_cases hlt : k < g.length
        · obtain ⟨b2, o2, rfl, _, hb2l, hc2'⟩ := HQ4.out.at_ (k := k) (by omega)
          have hc2 := (HBR.out.cell (p := ⟨b2, o2 + k, none⟩) (show b2 < w4.heap.size by omega)).trans hc2'
          rw [← gi_at (by omega)] at hc2
          obtain ⟨x0, x1, _, _, x4, x5⟩ := HT.out k hlt
          obtain ⟨P, hP⟩ : ∃ P, P = Bs.needsA g (k : Int) := ⟨_, rfl⟩
          obtain ⟨WR, rfl⟩ : ∃ WR, WR = wr := ⟨_, rfl⟩
          have c5 := fun j => CAN.out (k : Int) (WR.drewN j) (HBR.out.drewN j)
          rw [← hP] at x5 c5
          have C5 := fun j => Lib.hid (c5 j)
          have i0 : (0 : Int) ≤ (k : Int) := by omega
          have i2 : (k : Int) < (L.length : Int) := by omega
          have hb2w : b2 < WR.heap.size := by omega
          clear hP c5 hc2'
          generalize Bs.gi L k = V at *
          have e0 : decide (V < 0) = false := decide_eq_false (by omega)
          have e1 : decide (V ≥ (g.length : Int)) = false := decide_eq_false (by omega)
          have e1b : decide ((g.length : Int) ≤ V) = false := decide_eq_false (by omega)
          have e2 : decide (V > (P.length : Int)) = false := decide_eq_false (by omega)
          have e2b : decide ((P.length : Int) < V) = false := decide_eq_false (by omega)
          clear x0 x1 x4 x5
          go_wp2
          go_region_law (go_simp; go_loud (go_at_call 27; refine ((C5 1).out).mono ?_; rintro e w5 hr5; obtain ⟨A5, c5, rfl, q5, hb5⟩ := hr5.ri2; have f1 := (hb5.cell (p := ⟨b2, o2 + k, none⟩) hb2w).trans hc2; have HB5 := Lib.hid (HBR.out.trans (((Below.refl _ _).drewN 1 |>.trans hb5).mono sr)); clear hr5 q5 hb5))
          all_goals
            go_wp2
            go_roundw
            case rel => exact ⟨k + 1, by omega, by go_num, HB5.out⟩
            case measure => simp [intOf]; omega
        · have d1 : ¬ (k : Int) < (g.length : Int) := by omega
          go_wp2
          go_ret
          exact ⟨rfl, HB4.out.trans (HBR.out.mono g0)⟩
    · have hne : ((L.length : Int) != (g.length : Int)) = true := by rw [bne_iff_ne]; omega
      clear hlg HL
      have CA := Lib.hid (CS.out _ HX.out)
      go_wp2_with fail
      with_reducible refine (CA.out).mono ?_
      rintro e wA hrA
      obtain ⟨AA, cA, rfl, qA, hbA⟩ := hrA.ri2
      have CB := Lib.hid (equalInts_same A2 c2 AA cA L _ _ _ _ wA ((HQ4.out.below HX.out g2).below hbA (Nat.le_trans g2 HX.out.size)) qA (by omega))
      have HBA := Lib.hid (HB4.out.trans ((HX.out.trans (hbA.mono HX.out.size)).mono g0))
      clear hrA qA hbA CA
      go_wp2_with fail
      with_reducible refine (CB.out).mono ?_
      rintro e wB ⟨rfl, nB, rfl⟩
      go_wp2
      go_ret
      exact ⟨rfl, HBA.out.drewN _⟩
end Go.Proofs.Ytoaakidapgbhhaa
