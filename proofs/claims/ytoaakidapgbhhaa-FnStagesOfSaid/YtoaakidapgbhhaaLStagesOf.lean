/-
  THE WALK OF laws.FnStagesOf.
-/
import Derived.Test.YtoaakidapgbhhaaDrC13
import Derived.Test.YtoaakidapgbhhaaMath136
import Derived.Test.YtoaakidapgbhhaaLLists
namespace Go.Proofs.Ytoaakidapgbhhaa
open Go.RowKit
set_option linter.unusedVariables false
set_option maxRecDepth 20000 in
set_option maxHeartbeats 6400000 in
theorem fnStagesOf_walk (A : Option Addr) (c : Nat) (l : List Int) (w : World) (hb : RB w 0 w.heap.size A l) (hlc : l.length ≤ c ∧ c ≤ maxLen) :
    Calls Try.prog 4 #[.slice A l.length c] w fun e w' => e = .returned (.bool true) ∧ Below w.heap.size w w' := by
  have hl63 : l.length ≤ 9223372036854775807 := by have := hlc.2; unfold maxLen at this; omega
  by_cases hbig : 1048576 < l.length
  · go_enter Try.func4, Try.ntmps4
    go_wp2
    go_ret
    exact ⟨rfl, Below.refl _ _⟩
  · have C1 := Lib.hid (DrawStagesOf_any A c l w hb hlc.1 hlc.2)
    clear hb
    go_enter Try.func4, Try.ntmps4
    go_wp2_with fail
    refine (C1.out).mono ?_
    rintro e w1 ⟨⟨A1, c1, g, rfl, hg, hg16, hgc, hcm⟩, hb1⟩
    have HG := Lib.hid hg
    have s1 := hb1.size
    have hl9 : g.length ≤ 9223372036854775807 := by omega
    obtain ⟨L, hL⟩ : ∃ L, L = Bs.stgL g := ⟨_, rfl⟩
    have e2 := StagesOf_any A1 c1 g w.heap.size w1.heap.size w1 HG.out (Nat.le_refl _) hl9
    have e3 := fun W (hb : Below w1.heap.size w1 W) => StagesOfS_any A1 c1 g w.heap.size w1.heap.size W (HG.out.below hb (Nat.le_refl _)) hb.size hl9
    have hlen : L.length ≤ 1000 := by have := Bs.stages_len g; rw [← hL] at this; omega
    rw [← hL] at e2 e3
    have E2 := Lib.hid e2
    have E3 := Lib.hid e3
    have HL := Lib.hid hL
    clear hL e2 e3 C1
    go_wp2_with fail
    with_reducible refine (E2.out).mono ?_
    rintro e w2 hr2
    obtain ⟨A2, c2, rfl, q2, hb2⟩ := hr2.rs
    have C3 := Lib.hid (E3.out w2 hb2)
    have HQ2 := Lib.hid q2
    have HB2 := Lib.hid hb2
    have s2 := hb2.size
    clear hr2 q2 hb2 E2
    go_wp2_with fail
    with_reducible refine (C3.out).mono ?_
    rintro e w3 hr3
    obtain ⟨A3, c3, rfl, q3, hb3⟩ := hr3.rs
    have s3 := hb3.size
    have C4 := Lib.hid (equalLists_same A2 c2 A3 c3 L _ _ _ _ w3 (HQ2.out.below hb3 (Nat.le_refl _)) q3 (by omega))
    have HX3 := Lib.hid (HB2.out.trans (hb3.mono s2))
    have HB3 := Lib.hid hb3
    clear hr3 q3 hb3 C3
    go_wp2_with fail
    with_reducible refine (C4.out).mono ?_
    rintro e w4 ⟨rfl, n, rfl⟩
    clear C4
    have HG4 := Lib.hid ((HG.out.below HX3.out (Nat.le_refl _)).drewN n)
    have HQ4 := Lib.hid ((HQ2.out.below HB3.out (Nat.le_refl _)).drewN n)
    have g1 : w1.heap.size ≤ (w3.drewN n).heap.size := Nat.le_trans s2 s3
    have g2 : w2.heap.size ≤ (w3.drewN n).heap.size := s3
    have g0 : w.heap.size ≤ (w3.drewN n).heap.size := Nat.le_trans s1 g1
    have HX4 := Lib.hid (HX3.out.drewN n)
    have HB4 := Lib.hid ((hb1.trans (HX3.out.mono s1)).drewN n)
    have CS := Lib.hid (fun W (hb : Below (w3.drewN n).heap.size (w3.drewN n) W) => E3.out W (HX4.out.trans (hb.mono g1)))
    clear HG HQ2 HB2 HX3 HB3 HX4 E3 hb1
    generalize w3.drewN n = w4 at *
    have HX := Lib.hid (Below.refl w4.heap.size w4)
    have CSO := Lib.hid (fun W (hb : Below w4.heap.size w4 W) => StageOf_any A1 c1 g w.heap.size w1.heap.size W (HG4.out.below hb g1) (Nat.le_trans g1 hb.size) hl9)
    by_cases h0 : L.length = 0
    · have hq0 : ((L.length : Int) == 0) = true := by simp [h0]
      clear h0 HL CSO
      have CA := Lib.hid (CS.out _ HX.out)
      go_wp2_with fail
      with_reducible refine (CA.out).mono ?_
      rintro e wA hrA
      obtain ⟨AA, cA, rfl, qA, hbA⟩ := hrA.rs
      have CB := Lib.hid (equalLists_same A2 c2 AA cA L _ _ _ _ wA ((HQ4.out.below HX.out g2).below hbA (Nat.le_trans g2 HX.out.size)) qA (by omega))
      have HBA := Lib.hid (HB4.out.trans ((HX.out.trans (hbA.mono HX.out.size)).mono g0))
      clear hrA qA hbA CA
      go_wp2_with fail
      with_reducible refine (CB.out).mono ?_
      rintro e wB ⟨rfl, nB, rfl⟩
      go_wp2
      go_ret
      exact ⟨rfl, HBA.out.drewN _⟩
    · have hq0 : ((L.length : Int) == 0) = false := by rw [beq_eq_false_iff_ne]; omega
      obtain ⟨hv, h8, hl8, hst, hall⟩ := Bs.stages_law HL.out h0
      have c5 := CSO.out w4 HX.out
      rw [hv, if_pos rfl] at c5
      have HLL := Lib.hid (Bs.levC_len hv)
      have HST := Lib.hid hst
      have HALL := Lib.hid hall
      have HADD := Lib.hid (Bs.bef_add g)
      have HBL := Lib.hid (fun s => show (Bs.befS g s).length ≤ g.length from Bs.pick_len _ _)
      have HSL := Lib.hid (fun s => show (Bs.stgS g s).length ≤ g.length from Bs.pick_len _ _)
      have HZ := Lib.hid (show (Bs.befS g 0).length = 0 from by rw [Bs.bef_zero hv]; rfl)
      have C5 := Lib.hid c5
      clear h0 HL CS CSO c5 hv hst hall
      generalize hLV : Bs.levC g = LV at *
      have HLV := Lib.hid hLV
      clear hLV
      go_wp2_with fail
      with_reducible refine (C5.out).mono ?_
      rintro e w5 hr5
      obtain ⟨A5, c5, rfl, q5, hb5⟩ := hr5.ri2
      have HQ5 := Lib.hid (HQ4.out.below hb5 g2)
      have HV5 := Lib.hid q5
      have HB5 := Lib.hid (HB4.out.trans (hb5.mono g0))
      have hll := Nat.le_of_eq HLL.out.symm
      clear hr5 q5 hb5 C5
      go_wp2
      go_loop [6, 7, 8, 9] (fun n i _ _ => ∃ s : Nat, s ≤ L.length ∧ i = .int .i64 (s : Int) ∧ n = .int .i64 ((Bs.befS g s).length : Int)) (fun _ i _ _ => L.length + 1 - (intOf i).toNat)
      case atStart => exact ⟨0, Nat.zero_le _, rfl, by rw [HZ.out]; rfl⟩
      case round =>
        obtain ⟨s, hs, rfl, rfl⟩ := hrel
        by_cases hlt : s < L.length
        · obtain ⟨b, o, N, cN, rfl, _, _, q1, q2, q3⟩ := HQ5.out s hlt
          obtain ⟨e1, e2⟩ := HST.out s hlt
          rw [e1] at q1 q2 q3
          have hadd := HADD.out s
          have hbl := HBL.out s
          have hsl := HSL.out s
          have HR := Lib.hid q3
          have HAT := Lib.hid (fun i (hi : i < (Bs.stgS g s).length) => Bs.stg_at hi)
          have HAD := Lib.hid hadd
          have i0 : (0 : Int) ≤ (s : Int) := by omega
          have i1 : (s : Int) < (L.length : Int) := by omega
          have hne : ((((Bs.stgS g s).length : Nat) : Int) == 0) = false := by rw [beq_eq_false_iff_ne]; omega
          clear e1 e2 q2 q3 hadd
          generalize hP : Bs.stgS g s = P at *
          clear hP
          generalize hM : (Bs.befS g s).length = M at *
          clear hM
          go_wp2
          go_loop [8, 9] (fun i _ => ∃ k : Nat, k ≤ P.length ∧ i = .int .i64 (k : Int)) (fun i _ => P.length + 1 - (intOf i).toNat)
          case atStart => exact ⟨0, Nat.zero_le _, rfl⟩
          case round =>
            obtain ⟨k, hk, rfl⟩ := hrel
            by_cases hkl : k < P.length
            · obtain ⟨b3, o3, rfl, _, _, hc3⟩ := HR.out.at_ hkl
              obtain ⟨t, ht, htl, htv, hlo⟩ := HAT.out k hkl
              rw [ht] at hc3
              obtain ⟨b6, o6, rfl, _, _, hc6⟩ := HV5.out.at_ (k := t) (by omega)
              rw [← gi_at (by omega), show Bs.gi LV t = (s : Int) from by rw [← HLV.out]; exact htv] at hc6
              have j0 : (0 : Int) ≤ (k : Int) := by omega
              have j1 : (k : Int) < (P.length : Int) := by omega
              have j2 : (0 : Int) ≤ (t : Int) := by omega
              have j3 : (t : Int) < (LV.length : Int) := by omega
              have d0 : decide ((t : Int) < 0) = false := decide_eq_false (by omega)
              have d1 : decide ((t : Int) ≥ (LV.length : Int)) = false := decide_eq_false (by omega)
              have d1b : decide ((LV.length : Int) ≤ (t : Int)) = false := decide_eq_false (by omega)
              have d1c : decide (LV.length ≤ t) = false := decide_eq_false (by omega)
              have d2 : ((s : Int) != (s : Int)) = false := by simp
              by_cases hk0 : k = 0
              · have d3 : decide ((0 : Int) < (k : Int)) = false := decide_eq_false (by omega)
                have d3b : decide ((k : Int) > 0) = false := decide_eq_false (by omega)
                have d3c : decide (0 < k) = false := decide_eq_false (by omega)
                clear hlo ht htv hk0
                go_wp2
                go_round
                case rel => exact ⟨k + 1, by omega, by go_num⟩
                case measure => simp [intOf]; omega
              · obtain ⟨m, hm⟩ : ∃ m, k = m + 1 := ⟨k - 1, by omega⟩
                obtain ⟨b7, o7, e7, _, _, hc7⟩ := HR.out.at_ (k := m) (by omega)
                cases e7
                have hlm := hlo m (by omega)
                rw [getElem!_pos P m (by omega)] at hlm
                generalize P[m]'(by omega) = y at *
                have d3 : decide ((0 : Int) < (k : Int)) = true := decide_eq_true (by omega)
                have d3b : decide ((k : Int) > 0) = true := decide_eq_true (by omega)
                have d3c : decide (0 < k) = true := decide_eq_true (by omega)
                have d4 : decide ((t : Int) ≤ y) = false := decide_eq_false (by omega)
                have hw : IntKind.i64.wrap ((k : Int) - 1) = (m : Int) := by rw [IntWalk.i64_in _ ⟨by omega, by omega⟩]; omega
                have j4 : (0 : Int) ≤ (m : Int) := by omega
                have j5 : (m : Int) < (P.length : Int) := by omega
                clear hlo ht htv hlm hm hk0
                go_wp2
                go_round
                case rel => exact ⟨k + 1, by omega, by go_num⟩
                case measure => simp [intOf]; omega
            · obtain rfl : k = P.length := by omega
              go_wp2
              go_round
              case rel => exact ⟨s + 1, by omega, by go_num, by rw [HAD.out]; go_num⟩
              case measure => simp [intOf]; omega
        · obtain rfl : s = L.length := by omega
          have hbe : ((((Bs.befS g L.length).length : Nat) : Int) == (g.length : Int)) = true := by rw [HALL.out]; simp
          go_wp2
          go_ret
          exact ⟨by first | rfl | (rw [hbe]), HB5.out⟩
end Go.Proofs.Ytoaakidapgbhhaa
