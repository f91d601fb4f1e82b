/-
  THE WALK OF laws.FnStagesOfDone.
-/
import Derived.Test.YtoaakidapgbhhaaDrC13
import Derived.Test.YtoaakidapgbhhaaMath136
import Derived.Test.YtoaakidapgbhhaaLLists
import Derived.Test.YtoaakidapgbhhaaK7
namespace Go.Proofs.Ytoaakidapgbhhaa
open Go.RowKit
set_option linter.unusedVariables false
set_option maxRecDepth 20000 in
set_option maxHeartbeats 6400000 in
theorem fnStagesOfDone_walk (A : Option Addr) (c : Nat) (l : List Int) (w : World) (hb : RB w 0 w.heap.size A l) (hlc : l.length ≤ c ∧ c ≤ maxLen) :
    Calls Try.prog 5 #[.slice A l.length c] w fun e w' => e = .returned (.bool true) ∧ Below w.heap.size w w' := by
  have hl63 : l.length ≤ 9223372036854775807 := by have := hlc.2; unfold maxLen at this; omega
  by_cases hbig : 1048576 < l.length
  · go_enter Try.func5, Try.ntmps5
    go_wp2
    go_ret
    exact ⟨rfl, Below.refl _ _⟩
  · have C1 := Lib.hid (DrawStagesOf_any A c l w hb hlc.1 hlc.2)
    clear hb
    go_enter Try.func5, Try.ntmps5
    go_wp2_with fail
    refine (C1.out).mono ?_
    rintro e w1 ⟨⟨A1, c1, g, rfl, hg, hg16, hgc, hcm⟩, hb1⟩
    have HG := Lib.hid hg
    have s1 := hb1.size
    have hl9 : g.length ≤ 9223372036854775807 := by omega
    obtain ⟨L, hL⟩ : ∃ L, L = Bs.stgL g := ⟨_, rfl⟩
    have e2 := StagesOf_any A1 c1 g w.heap.size w1.heap.size w1 HG.out (Nat.le_refl _) hl9
    have e3 := fun W (hb : Below w1.heap.size w1 W) => StagesOfS_any A1 c1 g w.heap.size w1.heap.size W (HG.out.below hb (Nat.le_refl _)) hb.size hl9
    have hlen : L.length ≤ 1000 := by have := Bs.stages_len g; rw [← hL] at this; omega
    rw [← hL] at e2 e3
    have E2 := Lib.hid e2
    have E3 := Lib.hid e3
    have HL := Lib.hid hL
    clear hL e2 e3 C1
    go_wp2_with fail
    with_reducible refine (E2.out).mono ?_
    rintro e w2 hr2
    obtain ⟨A2, c2, rfl, q2, hb2⟩ := hr2.rs
    have C3 := Lib.hid (E3.out w2 hb2)
    have HQ2 := Lib.hid q2
    have HB2 := Lib.hid hb2
    have s2 := hb2.size
    clear hr2 q2 hb2 E2
    go_wp2_with fail
    with_reducible refine (C3.out).mono ?_
    rintro e w3 hr3
    obtain ⟨A3, c3, rfl, q3, hb3⟩ := hr3.rs
    have s3 := hb3.size
    have C4 := Lib.hid (equalLists_same A2 c2 A3 c3 L _ _ _ _ w3 (HQ2.out.below hb3 (Nat.le_refl _)) q3 (by omega))
    have HX3 := Lib.hid (HB2.out.trans (hb3.mono s2))
    have HB3 := Lib.hid hb3
    clear hr3 q3 hb3 C3
    go_wp2_with fail
    with_reducible refine (C4.out).mono ?_
    rintro e w4 ⟨rfl, n, rfl⟩
    clear C4
    have HG4 := Lib.hid ((HG.out.below HX3.out (Nat.le_refl _)).drewN n)
    have HQ4 := Lib.hid ((HQ2.out.below HB3.out (Nat.le_refl _)).drewN n)
    have g1 : w1.heap.size ≤ (w3.drewN n).heap.size := Nat.le_trans s2 s3
    have g2 : w2.heap.size ≤ (w3.drewN n).heap.size := s3
    have g0 : w.heap.size ≤ (w3.drewN n).heap.size := Nat.le_trans s1 g1
    have HX4 := Lib.hid (HX3.out.drewN n)
    have HB4 := Lib.hid ((hb1.trans (HX3.out.mono s1)).drewN n)
    have CS := Lib.hid (fun W (hb : Below (w3.drewN n).heap.size (w3.drewN n) W) => E3.out W (HX4.out.trans (hb.mono g1)))
    clear HG HQ2 HB2 HX3 HB3 HX4 E3 hb1
    generalize w3.drewN n = w4 at *
    have HX := Lib.hid (Below.refl w4.heap.size w4)
    have CSO := Lib.hid (fun W (hb : Below w4.heap.size w4 W) => StageOf_any A1 c1 g w.heap.size w1.heap.size W (HG4.out.below hb g1) (Nat.le_trans g1 hb.size) hl9)
    have CRT := Lib.hid (fun A5 c5 (d : List Int) l5 h5 W (hb : Below w4.heap.size w4 W) (hd : RI W l5 h5 A5 d) (hh : h5 ≤ W.heap.size) (hdl : d.length ≤ 1000) => ReadyTasks_any A1 c1 g A5 c5 d w.heap.size w1.heap.size l5 h5 W (HG4.out.below hb g1) (Nat.le_trans g1 hb.size) hd hh hl9 (by omega))
    by_cases h0 : L.length = 0
    · have hq0 : ((L.length : Int) == 0) = true := by simp [h0]
      clear h0 HL CSO CRT
      have CA := Lib.hid (CS.out _ HX.out)
      go_wp2_with fail
      with_reducible refine (CA.out).mono ?_
      rintro e wA hrA
      obtain ⟨AA, cA, rfl, qA, hbA⟩ := hrA.rs
      have CB := Lib.hid (equalLists_same A2 c2 AA cA L _ _ _ _ wA ((HQ4.out.below HX.out g2).below hbA (Nat.le_trans g2 HX.out.size)) qA (by omega))
      have HBA := Lib.hid (HB4.out.trans ((HX.out.trans (hbA.mono HX.out.size)).mono g0))
      clear hrA qA hbA CA
      go_wp2_with fail
      with_reducible refine (CB.out).mono ?_
      rintro e wB ⟨rfl, nB, rfl⟩
      go_wp2
      go_ret
      exact ⟨rfl, HBA.out.drewN _⟩
    · have hq0 : ((L.length : Int) == 0) = false := by rw [beq_eq_false_iff_ne]; omega
      obtain ⟨hv, h8, hl8, hst, _⟩ := Bs.stages_law HL.out h0
      have c5 := CSO.out w4 HX.out
      rw [hv, if_pos rfl] at c5
      have HLL := Lib.hid (Bs.levC_len hv)
      have HST := Lib.hid hst
      have HRD := Lib.hid (fun s => Bs.stage_ready hv s)
      have HBF := Lib.hid (fun s => show Bs.befS g s = Bs.pick g.length (fun i => decide (Bs.gi (Bs.levC g) i < (s : Int))) from rfl)
      have C5 := Lib.hid c5
      clear h0 HL CS CSO c5 hv hst
      generalize Bs.levC g = LV at *
      go_wp2_with fail
      with_reducible refine (C5.out).mono ?_
      rintro e w5 hr5
      obtain ⟨A5, c5, rfl, q5, hb5⟩ := hr5.ri2
      have HX5 := Lib.hid hb5
      have HQ5 := Lib.hid (HQ4.out.below hb5 g2)
      have HV5 := Lib.hid q5
      have HB5 := Lib.hid (HB4.out.trans (hb5.mono g0))
      have hll := Nat.le_of_eq HLL.out.symm
      have hll2 := Nat.le_of_eq HLL.out
      have s45 := hb5.size
      have s05 := HB5.out.size
      have HE := Lib.hid HLL.out
      clear hr5 q5 hb5 C5 HLL
      have HZ5 := Lib.hid (Below.refl w5.heap.size w5)
      go_wp2
      go_loopw [6] (fun i wr => ∃ s : Nat, s ≤ L.length ∧ i = .int .i64 (s : Int) ∧ Below w5.heap.size w5 wr) (fun i _ => L.length + 1 - (intOf i).toNat)
      case atStart => exact ⟨0, Nat.zero_le _, rfl, HZ5.out⟩
      case round =>
        clear HZ5
        obtain ⟨s, hs, rfl, hbr⟩ := hrel
        have sr := hbr.size
        obtain ⟨WR, rfl⟩ : ∃ WR, WR = wr := ⟨_, rfl⟩
        by_cases hlt : s < L.length
        · have HBR := Lib.hid hbr
          have HNO := Lib.hid (OI.new WR WR.heap.size (Nat.le_refl _))
          have HNB := Lib.hid ((Below.refl WR.heap.size WR).alloc (Nat.le_refl _) (.cells #[] 3))
          have i0 : (0 : Int) ≤ (s : Int) := by omega
          have i1 : (s : Int) < (L.length : Int) := by omega
          clear hbr
          go_wp2
          go_loopw [7, 8] (fun v i wr2 => ∃ (j : Nat) (A' : Option Addr) (c' : Nat) (d : List Int), d = Bs.pick j (fun i => decide (Bs.gi LV i < (s : Int))) ∧ j ≤ g.length ∧ i = .int .i64 (j : Int) ∧ v = .slice A' d.length c' ∧ OI wr2 WR.heap.size A' c' d ∧ Below WR.heap.size WR wr2) (fun _ i _ => g.length + 1 - (intOf i).toNat)
          case atStart => exact ⟨0, _, _, [], rfl, Nat.zero_le _, rfl, rfl, HNO.out, HNB.out⟩
          case round =>
            clear HNO HNB
            obtain ⟨j, A', c', d, hd, hj, rfl, rfl, ho, hbw⟩ := hrel
            have sw := hbw.size
            have hdl : d.length ≤ j := by rw [hd]; exact Bs.pick_len _ _
            by_cases hjl : j < g.length
            · obtain ⟨b3, o3, rfl, _, hb3, hc3⟩ := (HV5.out.below (HBR.out.trans (hbw.mono sr)) (Nat.le_refl _)).at_ (k := j) (by omega)
              rw [← gi_at (by omega)] at hc3
              have HPK := Lib.hid (Bs.pick_succ j (fun i => decide (Bs.gi LV i < (s : Int))))
              have HD := Lib.hid hd
              have HO := Lib.hid ho
              have HBW := Lib.hid hbw
              have j0 : (0 : Int) ≤ (j : Int) := by omega
              have j1 : (j : Int) < (LV.length : Int) := by omega
              clear hd ho hbw
              generalize Bs.gi LV j = V at *
              cases hq : decide (V < (s : Int))
              · have HQ := Lib.hid (show d = Bs.pick (j + 1) (fun i => decide (Bs.gi LV i < (s : Int))) from by rw [HPK.out, hq, if_neg (by simp)]; exact HD.out)
                go_wp2
                go_roundw
                case rel => exact ⟨j + 1, A', c', d, HQ.out, by omega, by go_num, rfl, HO.out, HBW.out⟩
                case measure => simp [intOf]; omega
              · have HQ := Lib.hid (show d ++ [(j : Int)] = Bs.pick (j + 1) (fun i => decide (Bs.gi LV i < (s : Int))) from by rw [HPK.out, hq, if_pos rfl, HD.out])
                go_wp2_with (first
                  | (at_builtin; refine push_int rfl _ _ rfl WR.heap.size A' c' d (j : Int) rfl (HO.out.alloc _) wr.heap.size 1 rfl (by simp [go_sem]) (by omega) (by simp; omega) ?_; intro A6 c6 w6 ho6 hb6 _; have HO6 := Lib.hid ho6; have HB6 := Lib.hid ((HBW.out.alloc sw _).trans hb6); clear ho6 hb6))
                go_roundw
                case rel => exact ⟨j + 1, A6, c6, d ++ [(j : Int)], HQ.out, by omega, by go_num, by rw [List.length_append]; rfl, HO6.out, HB6.out⟩
                case measure => simp [intOf]; omega
            · obtain rfl : j = g.length := by omega
              rw [← HBF.out s] at hd
              have hX6 := HBR.out.trans (hbw.mono sr)
              have c7 := CRT.out A' c' d _ _ wr (HX5.out.trans (hX6.mono s45)) ho.ri (Nat.le_refl _) (by omega)
              have hrd := HRD.out s
              rw [← hd] at hrd
              rw [hrd] at c7
              have C7 := Lib.hid c7
              have HQ6 := Lib.hid (HQ5.out.below hX6 (by omega))
              have HB6 := Lib.hid hX6
              have s6 := hX6.size
              clear hd ho hbw hX6 c7 hrd
              go_wp2_with fail
              with_reducible refine (C7.out).mono ?_
              rintro e w7 hr7
              obtain ⟨A7, c7, rfl, q7, hb7⟩ := hr7.ri2
              have HQ7 := Lib.hid (HQ6.out.below hb7 (by omega))
              have HB7 := Lib.hid (HB6.out.trans (hb7.mono s6))
              have HR7 := Lib.hid q7
              clear hr7 q7 hb7 C7 HQ6 HB6
              obtain ⟨b8, o8, N8, cN8, rfl, _, _, q1, q2, q3⟩ := HQ7.out s hlt
              obtain ⟨e1, _⟩ := HST.out s hlt
              rw [e1] at q1 q2 q3
              have HP8 := Lib.hid q3
              clear e1 q3
              generalize Bs.stgS g s = P at *
              have HIN := Lib.hid (fun k (hk : k < P.length) => show P.contains P[k] = true from by simp)
              go_wp2
              go_loopw [10] (fun i wr3 => ∃ k : Nat, k ≤ P.length ∧ i = .int .i64 (k : Int) ∧ wr3 = w7) (fun i _ => P.length + 1 - (intOf i).toNat)
              case atStart => exact ⟨0, Nat.zero_le _, rfl, rfl⟩
              case round =>
                obtain ⟨k, hk, rfl, rfl⟩ := hrel
                by_cases hkl : k < P.length
                · obtain ⟨b9, o9, rfl, _, _, hc9⟩ := HP8.out.at_ hkl
                  have hin := HIN.out k hkl
                  generalize P[k] = y at *
                  have c9 := lisIn_any A7 c7 P y _ _ wr HR7.out (by omega)
                  rw [hin] at c9
                  have C9 := Lib.hid c9
                  have k0 : (0 : Int) ≤ (k : Int) := by omega
                  have k1 : (k : Int) < (P.length : Int) := by omega
                  clear c9 hin
                  go_wp2_with fail
                  with_reducible refine (C9.out).mono ?_
                  rintro e w9 ⟨rfl, rfl⟩
                  go_wp2
                  go_roundw
                  case rel => exact ⟨k + 1, by omega, by go_num, by first | rfl | trivial⟩
                  case measure => simp [intOf]; omega
                · obtain rfl : k = P.length := by omega
                  go_wp2
                  go_roundw
                  case rel => exact ⟨s + 1, by omega, by go_num, HB7.out⟩
                  case measure => simp [intOf]; omega
        · obtain rfl : s = L.length := by omega
          have HBZ := Lib.hid (HB5.out.trans (hbr.mono s05))
          clear hbr
          go_wp2
          go_ret
          exact ⟨rfl, HBZ.out⟩
end Go.Proofs.Ytoaakidapgbhhaa
