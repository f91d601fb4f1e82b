/-
  THE WALK OF laws.FnOutcomes.
-/
import Derived.Test.YtlanlcdbcblfjaaK17
import Derived.Test.YtlanlcdbcblfjaaX11
import Derived.Test.YtlanlcdbcblfjaaLSum
import Derived.Test.YtlanlcdbcblfjaaMath63
import Derived.Test.YtlanlcdbcblfjaaW75
import Derived.Test.YtlanlcdbcblfjaaR41
namespace Go.Proofs.Ytlanlcdbcblfjaa
open Go.RowKit
set_option maxRecDepth 20000 in
set_option maxHeartbeats 6400000 in
theorem fnOutcomes_walk (A : Option Addr) (c : Nat) (l : List Int) (w : World) (hb : RB w 0 w.heap.size A l) (hlc : l.length ≤ c ∧ c ≤ maxLen) :
    Calls Try.prog 3 #[.slice A l.length c] w fun e w' => e = .returned (.bool true) ∧ Below w.heap.size w w' := by
  have hl63 : l.length ≤ 9223372036854775807 := by have := hlc.2; unfold maxLen at this; omega
  by_cases hbig : 1048576 < l.length
  · go_enter Try.func3, Try.ntmps3
    go_wp2
    go_ret
    exact ⟨rfl, Below.refl _ _⟩
  · have C1 := Lib.hid (DrawOutcomes_any A c l w hb hlc.1 hlc.2)
    clear hb
    go_enter Try.func3, Try.ntmps3
    go_wp2_with fail
    refine (C1.out).mono ?_
    rintro e w1 ⟨⟨A1, c1, g, A0, c0, d, a, rfl, hg, hg16, hgc, hcm, hd, hd100, hdc, hdm⟩, hb1⟩
    have HG := Lib.hid hg
    have HD := Lib.hid hd
    have s1 := hb1.size
    have hl9 : g.length ≤ 9223372036854775807 := by omega
    have hd9 : d.length ≤ 9223372036854775807 := by omega
    obtain ⟨L, hL⟩ : ∃ L, L = Bs.outL g d a := ⟨_, rfl⟩
    have c2 := Outcomes_any A1 c1 g A0 c0 d a w.heap.size w1.heap.size w.heap.size w1.heap.size w1 HG.out (Nat.le_refl _) HD.out (Nat.le_refl _) hl9 hd9
    have hlen : L.length ≤ 1000 := by rw [hL]; exact Outcomes_len100 g d a (by omega) (by omega)
    rw [← hL] at c2
    have C2 := Lib.hid c2
    have CS := Lib.hid (fun w2 hg hd hs => OutcomesS_any A1 c1 g A0 c0 d a w.heap.size w1.heap.size w.heap.size w1.heap.size w2 hg hs hd hs hl9 hd9)
    rw [← hL] at CS
    have HL := Lib.hid hL
    have HB1 := Lib.hid hb1
    clear C1 hg hd hL c2 hb1
    go_wp2_with fail
    refine (C2.out).mono ?_
    rintro e w2 hr2
    obtain ⟨A2, c2, rfl, q2, hb2, hlc2, hcm2⟩ := hr2.ri
    have s2 := hb2.size
    have HQ2 := Lib.hid q2
    have HG2 := Lib.hid (HG.out.below hb2 (Nat.le_refl _))
    have HD2 := Lib.hid (HD.out.below hb2 (Nat.le_refl _))
    have HB2 := Lib.hid (HB1.out.trans (hb2.mono s1))
    have C3 := Lib.hid (CS.out w2 HG2.out HD2.out s2)
    clear hr2 q2 hb2 C2 HG HD HB1
    go_wp2_with fail
    refine (C3.out).mono ?_
    rintro e w3 hr3
    obtain ⟨A3, c3, rfl, q3, hb3, hlc3, hcm3⟩ := hr3.ri
    have s3 := hb3.size
    have C4 := Lib.hid (equalInts_same A2 c2 A3 c3 L _ _ _ _ w3 (HQ2.out.below hb3 (Nat.le_refl _)) q3 (by omega))
    have HG3 := Lib.hid (HG2.out.below hb3 s2)
    have HD3 := Lib.hid (HD2.out.below hb3 s2)
    have HQ3 := Lib.hid (HQ2.out.below hb3 (Nat.le_refl _))
    have HB3 := Lib.hid (HB2.out.trans (hb3.mono (Nat.le_trans s1 s2)))
    clear hr3 q3 hb3 C3 HQ2 HB2 HG2 HD2
    go_wp2_with fail
    refine (C4.out).mono ?_
    rintro e w4 ⟨rfl, n, rfl⟩
    clear C4
    obtain ⟨W3, rfl⟩ : ∃ W3, W3 = w3 := ⟨_, rfl⟩
    have hs3 : w1.heap.size ≤ (W3.drewN n).heap.size := Nat.le_trans s2 s3
    have hs23 : w2.heap.size ≤ (W3.drewN n).heap.size := s3
    by_cases h0 : L.length = g.length
    rotate_left
    · have hq0 : ((L.length : Int) != (g.length : Int)) = true := by rw [bne_iff_ne]; omega
      clear h0 HL
      have hsA : w1.heap.size ≤ (W3.drewN n).heap.size := hs3
      go_wp2_with fail
      refine (CS.out (W3.drewN n) (HG3.out.drewN n) (HD3.out.drewN n) hsA).mono ?_
      rintro e wA hrA
      obtain ⟨AA, cA, rfl, qA, hbA, _, _⟩ := hrA.ri
      have sA := hbA.size
      have CB := Lib.hid (equalInts_same A2 c2 AA cA L _ _ _ _ wA ((HQ3.out.drewN n).below hbA (by first | exact hsA | omega)) qA (by omega))
      have HBA := Lib.hid ((HB3.out.drewN n).trans (hbA.mono (Nat.le_trans s1 hsA)))
      clear hrA qA hbA
      go_wp2_with fail
      refine (CB.out).mono ?_
      rintro e wB ⟨rfl, nB, rfl⟩
      go_wp2
      go_ret
      exact ⟨rfl, HBA.out.drewN _⟩
    · have hq0 : ((L.length : Int) != (g.length : Int)) = false := by rw [bne_eq_false_iff_eq]; omega
      have HTA := Lib.hid (show ∀ i (hi : i < g.length), (∀ x ∈ g[i].needs, 0 ≤ x ∧ x < L.length) ∧ g[i].needs.length ≤ 100 ∧ ((Bs.gi L i = 0 ∧ (g[i].needs.all fun x => Bs.gi L x.toNat == 0) = true ∧ d.contains (i : Int) = false) ∨ (Bs.gi L i = 1 ∧ (g[i].needs.all fun x => Bs.gi L x.toNat == 0) = true ∧ d.contains (i : Int) = true) ∨ (Bs.gi L i = 2 ∧ (g[i].needs.all fun x => Bs.gi L x.toNat == 0) = false) ∨ Bs.gi L i = 3) from by
        intro i hi
        have hcf := out_can HL.out (by omega)
        have hf := valid_fine (Bs.canF_iff.1 hcf).1
        have h8 := Bs.fine_len hf
        have hnl := Bs.fine_needs_len hf hi
        refine ⟨fun x hx => by have := Bs.fine_need hf (i := i) (x := x) (by rw [need_at hi]; exact hx); omega, by omega, ?_⟩
        have := task_law hcf hi
        rw [← out_is HL.out hcf] at this
        exact this)
      have HG4 := Lib.hid (HG3.out.drewN n)
      have HD4 := Lib.hid (HD3.out.drewN n)
      have HQ4 := Lib.hid (HQ3.out.drewN n)
      have HB4 := Lib.hid (HB3.out.drewN n)
      have HH0 := Lib.hid h0
      have CI := Lib.hid (fun (i : Nat) (W : World) (hW : ∃ n, W = (W3.drewN n)) => show Calls Try.prog 19 #[.slice A0 d.length c0, .int .i64 (i : Int)] W (fun e w' => e = .returned (.bool (d.contains (i : Int))) ∧ W = w') from by obtain ⟨q, rfl⟩ := hW; exact lisIn_any A0 c0 d (i : Int) _ _ _ (HD3.out.drewN q) hd9)
      replace CI := Lib.hid (fun i => CI.out i (W3.drewN n) ⟨n, rfl⟩)
      clear HL CS h0 HQ3 HB3 HG3 HD3
      generalize W3.drewN n = W4 at *
      go_wp2
      go_loop [7, 8, 9] (fun i _ _ => ∃ (k : Nat), k ≤ g.length ∧ i = .int .i64 k) (fun i _ _ => g.length - (intOf i).toNat)
      case atStart => exact ⟨0, Nat.zero_le _, rfl⟩
      case round =>
        obtain ⟨k, hk, rfl⟩ := hrel
        by_cases hlt : k < g.length
        · obtain ⟨hnr, hnl, hta⟩ := HTA.out k hlt
          have hkL : k < L.length := by have := HH0.out; omega
          obtain ⟨b, o, rfl, _, _, hcell⟩ := HQ4.out.at_ hkL
          rw [← Bs.gi_at hkL] at hcell
          obtain ⟨bg, og, N, cN, rfl, _, hgh, q0, q1, q2, q3, hlN, hcN, hN⟩ := HG4.out k hlt
          have CK := Lib.hid (CI.out k)
          have HTK := Lib.hid hta
          have HNR := Lib.hid (fun p (hp : p < g[k].needs.length) => hnr _ (List.getElem_mem hp))
          have HN := Lib.hid hN
          have HAT := Lib.hid (fun p (hp : p < g[k].needs.length) => Bs.all_take g[k].needs (fun x => Bs.gi L x.toNat == 0) p hp)
          have HGA := Lib.hid (fun v (hv : v < L.length) => Bs.gi_at (l := L) hv)
          have HQ5 := Lib.hid HQ4.out
          have i0 : (0 : Int) ≤ (k : Int) := by omega
          have i1 : (k : Int) < (g.length : Int) := by omega
          have i2 : (k : Int) < (L.length : Int) := by omega
          clear hta hnr hN q0 q2 q3 HTA CI
          generalize hneeds : g[k].needs = nds at *
          clear hneeds
          go_wp2
          go_loop [8, 9] (fun fv i => ∃ (p : Nat) (fb : Bool), p ≤ nds.length ∧ fv = .bool fb ∧ i = .int .i64 p ∧ fb = ((nds.take p).all fun x => Bs.gi L x.toNat == 0)) (fun _ i => nds.length - (intOf i).toNat)
          case atStart => exact ⟨0, true, Nat.zero_le _, rfl, rfl, rfl⟩
          case round =>
            obtain ⟨p, fb, hp, rfl, rfl, hfb⟩ := hrel
            by_cases hpl : p < nds.length
            · obtain ⟨b3, o3, rfl, _, _, hc3⟩ := HN.out.at_ hpl
              have hx := HNR.out p hpl
              have hat := HAT.out p hpl
              rw [← hfb] at hat
              obtain ⟨v, hv⟩ : ∃ v : Nat, nds[p] = (v : Int) := ⟨nds[p].toNat, by omega⟩
              rw [hv] at hc3 hx hat
              rw [Int.toNat_natCast] at hat
              have hvL : v < L.length := by omega
              obtain ⟨b4, o4, e4, _, _, hc4⟩ := HQ5.out.at_ hvL
              cases e4
              rw [← HGA.out v hvL] at hc4
              have j0 : (0 : Int) ≤ (v : Int) := by omega
              have j1 : (v : Int) < (L.length : Int) := by omega
              have j2 : (p : Int) < (nds.length : Int) := by omega
              have H1 := Lib.hid hat
              clear hat hfb hv hx
              generalize hgv : Bs.gi L v = y at *
              clear hgv
              cases fb
              · go_wp2
                go_round
                case rel => exact ⟨p + 1, false, by omega, rfl, by go_num, by rw [H1.out]; rfl⟩
                case measure => simp [intOf]; omega
              · go_wp2
                go_round
                case rel => exact ⟨p + 1, (y == 0), by omega, rfl, by go_num, by rw [H1.out]; simp⟩
                case measure => simp [intOf]; omega
            · have e : nds.take p = nds := List.take_of_length_le (by omega)
              rw [e] at hfb
              have htk := HTK.out
              rw [← hfb] at htk
              have j2 : ¬ (p : Int) < (nds.length : Int) := by omega
              clear HTK hfb e HAT HNR
              generalize Bs.gi L k = x at *
              generalize d.contains (k : Int) = fc at *
              rcases htk with ⟨rfl, rfl, rfl⟩ | ⟨rfl, rfl, rfl⟩ | ⟨rfl, rfl⟩ | rfl
              · go_wp2_with fail
                with_reducible refine (CK.out).mono ?_
                rintro e _ ⟨rfl, rfl⟩
                go_wp2
                go_round
                case rel => exact ⟨k + 1, by omega, by go_num⟩
                case measure => simp [intOf]; omega
              · go_wp2_with fail
                with_reducible refine (CK.out).mono ?_
                rintro e _ ⟨rfl, rfl⟩
                go_wp2
                go_round
                case rel => exact ⟨k + 1, by omega, by go_num⟩
                case measure => simp [intOf]; omega
              · go_wp2
                go_round
                case rel => exact ⟨k + 1, by omega, by go_num⟩
                case measure => simp [intOf]; omega
              · go_wp2
                go_round
                case rel => exact ⟨k + 1, by omega, by go_num⟩
                case measure => simp [intOf]; omega
        · go_wp2
          go_ret
          exact ⟨rfl, HB4.out⟩
end Go.Proofs.Ytlanlcdbcblfjaa
