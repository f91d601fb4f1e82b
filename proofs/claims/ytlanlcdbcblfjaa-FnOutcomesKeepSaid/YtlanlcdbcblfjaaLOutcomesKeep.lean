/-
  THE WALK OF laws.FnOutcomesKeep.
-/
import Derived.Test.YtlanlcdbcblfjaaK17
import Derived.Test.YtlanlcdbcblfjaaX11
import Derived.Test.YtlanlcdbcblfjaaLSum
import Derived.Test.YtlanlcdbcblfjaaMath63
import Derived.Test.YtlanlcdbcblfjaaW75
import Derived.Test.YtlanlcdbcblfjaaR41
namespace Go.Proofs.Ytlanlcdbcblfjaa
open Go.RowKit
set_option maxRecDepth 20000 in
set_option maxHeartbeats 6400000 in
theorem fnOutcomesKeep_walk (A : Option Addr) (c : Nat) (l : List Int) (w : World) (hb : RB w 0 w.heap.size A l) (hlc : l.length ≤ c ∧ c ≤ maxLen) :
    Calls Try.prog 4 #[.slice A l.length c] w fun e w' => e = .returned (.bool true) ∧ Below w.heap.size w w' := by
  have hl63 : l.length ≤ 9223372036854775807 := by have := hlc.2; unfold maxLen at this; omega
  by_cases hbig : 1048576 < l.length
  · go_enter Try.func4, Try.ntmps4
    go_wp2
    go_ret
    exact ⟨rfl, Below.refl _ _⟩
  · have C1 := Lib.hid (DrawOutcomes_any A c l w hb hlc.1 hlc.2)
    clear hb
    go_enter Try.func4, Try.ntmps4
    go_wp2_with fail
    refine (C1.out).mono ?_
    rintro e w1 ⟨⟨A1, c1, g, A0, c0, d, a, rfl, hg, hg16, hgc, hcm, hd, hd100, hdc, hdm⟩, hb1⟩
    have HG := Lib.hid hg
    have HD := Lib.hid hd
    have s1 := hb1.size
    have hl9 : g.length ≤ 9223372036854775807 := by omega
    have hd9 : d.length ≤ 9223372036854775807 := by omega
    obtain ⟨L, hL⟩ : ∃ L, L = Bs.outL g d a := ⟨_, rfl⟩
    have c2 := Outcomes_any A1 c1 g A0 c0 d a w.heap.size w1.heap.size w.heap.size w1.heap.size w1 HG.out (Nat.le_refl _) HD.out (Nat.le_refl _) hl9 hd9
    have hlen : L.length ≤ 1000 := by rw [hL]; exact Outcomes_len100 g d a (by omega) (by omega)
    rw [← hL] at c2
    have C2 := Lib.hid c2
    have CS := Lib.hid (fun w2 hg hd hs => OutcomesS_any A1 c1 g A0 c0 d a w.heap.size w1.heap.size w.heap.size w1.heap.size w2 hg hs hd hs hl9 hd9)
    rw [← hL] at CS
    have HL := Lib.hid hL
    have HB1 := Lib.hid hb1
    clear C1 hg hd hL c2 hb1
    go_wp2_with fail
    refine (C2.out).mono ?_
    rintro e w2 hr2
    obtain ⟨A2, c2, rfl, q2, hb2, hlc2, hcm2⟩ := hr2.ri
    have s2 := hb2.size
    have HQ2 := Lib.hid q2
    have HG2 := Lib.hid (HG.out.below hb2 (Nat.le_refl _))
    have HD2 := Lib.hid (HD.out.below hb2 (Nat.le_refl _))
    have HB2 := Lib.hid (HB1.out.trans (hb2.mono s1))
    have C3 := Lib.hid (CS.out w2 HG2.out HD2.out s2)
    clear hr2 q2 hb2 C2 HG HD HB1
    go_wp2_with fail
    refine (C3.out).mono ?_
    rintro e w3 hr3
    obtain ⟨A3, c3, rfl, q3, hb3, hlc3, hcm3⟩ := hr3.ri
    have s3 := hb3.size
    have C4 := Lib.hid (equalInts_same A2 c2 A3 c3 L _ _ _ _ w3 (HQ2.out.below hb3 (Nat.le_refl _)) q3 (by omega))
    have HG3 := Lib.hid (HG2.out.below hb3 s2)
    have HD3 := Lib.hid (HD2.out.below hb3 s2)
    have HQ3 := Lib.hid (HQ2.out.below hb3 (Nat.le_refl _))
    have HB3 := Lib.hid (HB2.out.trans (hb3.mono (Nat.le_trans s1 s2)))
    clear hr3 q3 hb3 C3 HQ2 HB2 HG2 HD2
    go_wp2_with fail
    refine (C4.out).mono ?_
    rintro e w4 ⟨rfl, n, rfl⟩
    clear C4
    obtain ⟨W3, rfl⟩ : ∃ W3, W3 = w3 := ⟨_, rfl⟩
    have hs3 : w1.heap.size ≤ (W3.drewN n).heap.size := Nat.le_trans s2 s3
    have hs23 : w2.heap.size ≤ (W3.drewN n).heap.size := s3
    by_cases h0 : L.length = 0
    · have hq0 : ((L.length : Int) == 0) = true := by simp [h0]
      clear h0 HL
      have hsA : w1.heap.size ≤ (W3.drewN n).heap.size := hs3
      go_wp2_with fail
      refine (CS.out (W3.drewN n) (HG3.out.drewN n) (HD3.out.drewN n) hsA).mono ?_
      rintro e wA hrA
      obtain ⟨AA, cA, rfl, qA, hbA, _, _⟩ := hrA.ri
      have sA := hbA.size
      have CB := Lib.hid (equalInts_same A2 c2 AA cA L _ _ _ _ wA ((HQ3.out.drewN n).below hbA (by first | exact hsA | omega)) qA (by omega))
      have HBA := Lib.hid ((HB3.out.drewN n).trans (hbA.mono (Nat.le_trans s1 hsA)))
      clear hrA qA hbA
      go_wp2_with fail
      refine (CB.out).mono ?_
      rintro e wB ⟨rfl, nB, rfl⟩
      go_wp2
      go_ret
      exact ⟨rfl, HBA.out.drewN _⟩
    · have hq0 : ((L.length : Int) == 0) = false := by rw [beq_eq_false_iff_ne]; omega
      have hcf := out_can HL.out h0
      have hen := enough_law hcf
      rw [← out_is HL.out hcf] at hen
      have HEN := Lib.hid hen
      have HQ4 := Lib.hid (HQ3.out.drewN n)
      have HB4 := Lib.hid (HB3.out.drewN n)
      have HC1 := Lib.hid (fun k (hk : k < L.length) => Bs.cntO_take 1 L k hk)
      have HC3 := Lib.hid (fun k (hk : k < L.length) => Bs.cntO_take 3 L k hk)
      have HCB := Lib.hid (fun v k => Bs.cntO_b v (L.take k))
      clear HL hcf CS h0 hen HQ3 HB3 HG3 HD3
      generalize W3.drewN n = W4 at *
      go_wp2
      go_loop [7, 8, 9] (fun fv lv i => ∃ (k : Nat) (t u : Int), k ≤ L.length ∧ fv = .int .i64 t ∧ lv = .int .i64 u ∧ i = .int .i64 k ∧ t = Bs.cntO 1 (L.take k) ∧ u = Bs.cntO 3 (L.take k)) (fun _ _ i => L.length - (intOf i).toNat)
      case atStart => exact ⟨0, 0, 0, Nat.zero_le _, rfl, rfl, rfl, rfl, rfl⟩
      case round =>
        obtain ⟨k, t, u, hk, rfl, rfl, rfl, ht, hu⟩ := hrel
        by_cases hlt : k < L.length
        · obtain ⟨b, o, rfl, _, _, hcell⟩ := HQ4.out.at_ hlt
          have h1 := HC1.out k hlt
          have h3 := HC3.out k hlt
          have b1 := HCB.out 1 k
          have b3 := HCB.out 3 k
          rw [← ht] at h1 b1
          rw [← hu] at h3 b3
          rw [List.length_take] at b1 b3
          have hwt : IntKind.i64.wrap (t + 1) = t + 1 := IntWalk.i64_in _ ⟨by omega, by omega⟩
          have hwu : IntKind.i64.wrap (u + 1) = u + 1 := IntWalk.i64_in _ ⟨by omega, by omega⟩
          have H1 := Lib.hid h1
          have H3 := Lib.hid h3
          have d1 : (k : Int) < (L.length : Int) := by omega
          clear ht hu h1 h3 b1 b3 HC1 HC3 HCB
          generalize L[k] = x at *
          by_cases hx1 : x = 1
          · subst hx1
            go_wp2
            go_round
            case rel => exact ⟨k + 1, t + 1, u, by omega, by first | rfl | rw [hwt], rfl, by go_num, by rw [H1.out]; rfl, by rw [H3.out]; simp⟩
            case measure => simp [intOf]; omega
          · by_cases hx3 : x = 3
            · subst hx3
              clear hx1
              go_wp2
              go_round
              case rel => exact ⟨k + 1, t, u + 1, by omega, rfl, by first | rfl | rw [hwu], by go_num, by rw [H1.out]; simp, by rw [H3.out]; rfl⟩
              case measure => simp [intOf]; omega
            · have e1 : (x == 1) = false := by rw [beq_eq_false_iff_ne]; exact hx1
              have e3 : (x == 3) = false := by rw [beq_eq_false_iff_ne]; exact hx3
              have G1 := Lib.hid (show Bs.cntO 1 (L.take (k + 1)) = t from by rw [H1.out, e1]; simp)
              have G3 := Lib.hid (show Bs.cntO 3 (L.take (k + 1)) = u from by rw [H3.out, e3]; simp)
              clear hx1 hx3 H1 H3
              go_wp2
              go_round
              case rel => exact ⟨k + 1, t, u, by omega, rfl, rfl, by go_num, G1.out.symm, G3.out.symm⟩
              case measure => simp [intOf]; omega
        · have e : L.take k = L := List.take_of_length_le (by omega)
          rw [e] at ht hu
          have hen := HEN.out
          rw [← ht, ← hu] at hen
          obtain ⟨g1, g2⟩ := hen
          have HB := Lib.hid HB4.out
          clear ht hu e HEN HC1 HC3 HCB
          by_cases ha : t = a
          · have d2 : (t == a) = true := by rw [beq_iff_eq]; exact ha
            clear g2 ha
            go_wp2
            go_ret
            exact ⟨rfl, HB.out⟩
          · have d2 : (t == a) = false := by rw [beq_eq_false_iff_ne]; exact ha
            have d3 : u = 0 := by rcases g2 with h | h; (· exact absurd h ha); exact h
            subst d3
            clear g2 ha
            go_wp2
            go_ret
            exact ⟨rfl, HB.out⟩
end Go.Proofs.Ytlanlcdbcblfjaa
