/-
  THE WALK OF laws.FnOutcomesFirst.
-/
import Derived.Test.YtlanlcdbcblfjaaK17
import Derived.Test.YtlanlcdbcblfjaaX11
import Derived.Test.YtlanlcdbcblfjaaLSum
import Derived.Test.YtlanlcdbcblfjaaMath63
import Derived.Test.YtlanlcdbcblfjaaW75
import Derived.Test.YtlanlcdbcblfjaaR41
namespace Go.Proofs.Ytlanlcdbcblfjaa
open Go.RowKit
set_option maxRecDepth 20000 in
set_option maxHeartbeats 6400000 in
theorem fnOutcomesFirst_walk (A : Option Addr) (c : Nat) (l : List Int) (w : World) (hb : RB w 0 w.heap.size A l) (hlc : l.length ≤ c ∧ c ≤ maxLen) :
    Calls Try.prog 11 #[.slice A l.length c] w fun e w' => e = .returned (.bool true) ∧ Below w.heap.size w w' := by
  have hl63 : l.length ≤ 9223372036854775807 := by have := hlc.2; unfold maxLen at this; omega
  by_cases hbig : 1048576 < l.length
  · go_enter Try.func11, Try.ntmps11
    go_wp2
    go_ret
    exact ⟨rfl, Below.refl _ _⟩
  · have C1 := Lib.hid (DrawOutcomes_any A c l w hb hlc.1 hlc.2)
    clear hb
    go_enter Try.func11, Try.ntmps11
    go_wp2_with fail
    refine (C1.out).mono ?_
    rintro e w1 ⟨⟨A1, c1, g, A0, c0, d, a, rfl, hg, hg16, hgc, hcm, hd, hd100, hdc, hdm⟩, hb1⟩
    have HG := Lib.hid hg
    have HD := Lib.hid hd
    have s1 := hb1.size
    have hl9 : g.length ≤ 9223372036854775807 := by omega
    have hd9 : d.length ≤ 9223372036854775807 := by omega
    obtain ⟨L, hL⟩ : ∃ L, L = Bs.outL g d a := ⟨_, rfl⟩
    have c2 := Outcomes_any A1 c1 g A0 c0 d a w.heap.size w1.heap.size w.heap.size w1.heap.size w1 HG.out (Nat.le_refl _) HD.out (Nat.le_refl _) hl9 hd9
    have hlen : L.length ≤ 1000 := by rw [hL]; exact Outcomes_len100 g d a (by omega) (by omega)
    rw [← hL] at c2
    have C2 := Lib.hid c2
    have CS := Lib.hid (fun w2 hg hd hs => OutcomesS_any A1 c1 g A0 c0 d a w.heap.size w1.heap.size w.heap.size w1.heap.size w2 hg hs hd hs hl9 hd9)
    rw [← hL] at CS
    have HL := Lib.hid hL
    have HB1 := Lib.hid hb1
    clear C1 hg hd hL c2 hb1
    go_wp2_with fail
    refine (C2.out).mono ?_
    rintro e w2 hr2
    obtain ⟨A2, c2, rfl, q2, hb2, hlc2, hcm2⟩ := hr2.ri
    have s2 := hb2.size
    have HQ2 := Lib.hid q2
    have HG2 := Lib.hid (HG.out.below hb2 (Nat.le_refl _))
    have HD2 := Lib.hid (HD.out.below hb2 (Nat.le_refl _))
    have HB2 := Lib.hid (HB1.out.trans (hb2.mono s1))
    have C3 := Lib.hid (CS.out w2 HG2.out HD2.out s2)
    clear hr2 q2 hb2 C2 HG HD HB1
    go_wp2_with fail
    refine (C3.out).mono ?_
    rintro e w3 hr3
    obtain ⟨A3, c3, rfl, q3, hb3, hlc3, hcm3⟩ := hr3.ri
    have s3 := hb3.size
    have C4 := Lib.hid (equalInts_same A2 c2 A3 c3 L _ _ _ _ w3 (HQ2.out.below hb3 (Nat.le_refl _)) q3 (by omega))
    have HG3 := Lib.hid (HG2.out.below hb3 s2)
    have HD3 := Lib.hid (HD2.out.below hb3 s2)
    have HQ3 := Lib.hid (HQ2.out.below hb3 (Nat.le_refl _))
    have HB3 := Lib.hid (HB2.out.trans (hb3.mono (Nat.le_trans s1 s2)))
    clear hr3 q3 hb3 C3 HQ2 HB2 HG2 HD2
    go_wp2_with fail
    refine (C4.out).mono ?_
    rintro e w4 ⟨rfl, n, rfl⟩
    clear C4
    obtain ⟨W3, rfl⟩ : ∃ W3, W3 = w3 := ⟨_, rfl⟩
    have hs23 : w2.heap.size ≤ (W3.drewN n).heap.size := s3
    have hs3 : w1.heap.size ≤ (W3.drewN n).heap.size := Nat.le_trans s2 s3
    by_cases h0 : L.length = 0
    · have hq0 : ((L.length : Int) == 0) = true := by simp [h0]
      clear h0 HL
      have hsA : w1.heap.size ≤ (W3.drewN n).heap.size := hs3
      go_wp2_with fail
      refine (CS.out (W3.drewN n) (HG3.out.drewN n) (HD3.out.drewN n) hsA).mono ?_
      rintro e wA hrA
      obtain ⟨AA, cA, rfl, qA, hbA, _, _⟩ := hrA.ri
      have sA := hbA.size
      have CB := Lib.hid (equalInts_same A2 c2 AA cA L _ _ _ _ wA ((HQ3.out.drewN n).below hbA (by first | exact hsA | omega)) qA (by omega))
      have HBA := Lib.hid ((HB3.out.drewN n).trans (hbA.mono (Nat.le_trans s1 hsA)))
      clear hrA qA hbA
      go_wp2_with fail
      refine (CB.out).mono ?_
      rintro e wB ⟨rfl, nB, rfl⟩
      go_wp2
      go_ret
      exact ⟨rfl, HBA.out.drewN _⟩
    · have hq0 : ((L.length : Int) == 0) = false := by rw [beq_eq_false_iff_ne]; omega
      have hcf := out_can HL.out h0
      have hc1 := can_one hcf
      have hval := (Bs.canF_iff.1 hcf).1
      obtain ⟨f, hf0, hfs, hft⟩ := first_out (g := g) (F := d)
      have c5 := Outcomes_any A1 c1 g A0 c0 d 1 w.heap.size w1.heap.size w.heap.size w1.heap.size (W3.drewN n) (HG3.out.drewN n) hs3 (HD3.out.drewN n) hs3 hl9 hd9
      rw [Bs.outL_yes hc1] at c5
      have C5 := Lib.hid c5
      have hll := Bs.outC_len g d 1
      have htl : (Bs.top g).length = g.length := valid_full hval
      have h8 := Bs.fine_len (valid_fine hval)
      have HF0 := Lib.hid hf0
      have HFS := Lib.hid hfs
      have HFT := Lib.hid hft
      have HTR := Lib.hid (fun k (hk : k < (Bs.top g).length) => Bs.top_range (g := g) hk)
      have C6 := Lib.hid (fun W (hb : Below w1.heap.size (W3.drewN n) W) => show Calls Try.prog 32 #[.slice A1 g.length c1] W (RetI W (Bs.top g)) from by
        have := TopOrder_any A1 c1 g w.heap.size w1.heap.size W ((HG3.out.drewN n).below hb (Nat.le_refl _)) (Nat.le_trans hs3 hb.size) hl9
        rw [show Bs.topL g = Bs.top g from topL_yes hval] at this
        exact this)
      have HB4 := Lib.hid (HB3.out.drewN n)
      have ht8 : (Bs.top g).length ≤ 8 := by omega
      have HTL := Lib.hid (show (Bs.top g).length = (Bs.outC g d 1).length from by omega)
      have HGL := Lib.hid (show g.length = (Bs.outC g d 1).length from by omega)
      clear HL hcf CS h0 hc1 hval hf0 hfs hft c5 hll htl HQ3 HB3 HG3 HD3
      generalize Bs.outC g d 1 = O at *
      generalize Bs.top g = T at *
      generalize W3.drewN n = W4 at *
      go_wp2_with fail
      with_reducible refine (C5.out).mono ?_
      rintro e w5 ⟨⟨A5, c5, rfl, ho5⟩, hb5⟩
      have C7 := Lib.hid (C6.out w5 (hb5.mono hs3))
      have HB5 := Lib.hid (HB4.out.trans (hb5.mono (Nat.le_trans s1 hs3)))
      have s5 := hb5.size
      have hr5 := ho5.ri
      clear ho5 hb5 C5 C6
      go_wp2_with fail
      with_reducible refine (C7.out).mono ?_
      rintro e w6 ⟨⟨A6, c6, rfl, ho6⟩, hb6⟩
      have HR6 := Lib.hid ho6.ri
      have HO6 := Lib.hid (hr5.below hb6 (Nat.le_refl _))
      have HB6 := Lib.hid (HB5.out.trans (hb6.mono (Nat.le_trans s1 (Nat.le_trans hs3 s5))))
      clear ho6 hb6 hr5 C7 HB5
      go_wp2
      go_loop [9, 10, 11] (fun fv i _ => ∃ (k : Nat) (fb : Bool), k ≤ T.length ∧ fv = .bool fb ∧ i = .int .i64 k ∧ fb = decide (0 < f k)) (fun _ i _ => T.length - (intOf i).toNat)
      case atStart => exact ⟨0, false, Nat.zero_le _, rfl, rfl, by rw [HF0.out]; rfl⟩
      case round =>
        obtain ⟨k, fb, hk, rfl, rfl, hfb⟩ := hrel
        by_cases hlt : k < T.length
        · obtain ⟨b, o, rfl, _, _, hcell⟩ := HR6.out.at_ hlt
          have htr := HTR.out k hlt
          have hsu := HFS.out k hlt
          have hta := HFT.out k hlt
          obtain ⟨v, hv⟩ : ∃ v : Nat, T[k] = (v : Int) := ⟨T[k].toNat, by omega⟩
          rw [hv] at hcell htr hsu hta
          rw [Int.toNat_natCast] at hsu hta
          have hvO : v < O.length := by have := HGL.out; omega
          obtain ⟨b2, o2, rfl, _, _, hc2⟩ := HO6.out.at_ hvO
          rw [← Bs.gi_at hvO] at hc2
          have i0 : (0 : Int) ≤ (v : Int) := by omega
          have i1 : (v : Int) < (O.length : Int) := by omega
          have i2 : (k : Int) < (T.length : Int) := by omega
          have i3 : ¬ (O.length : Int) ≤ (v : Int) := by omega
          have i4 : ¬ (v : Int) < 0 := by omega
          generalize hgx : Bs.gi O v = x at *
          clear hgx
          rcases hta with ⟨hf1, rfl⟩ | ⟨hf1, rfl | rfl⟩
          · have hfb1 : fb = true := by rw [hfb]; simp; omega
            have HN := Lib.hid (show true = decide (0 < f (k + 1)) from by rw [hsu]; simp [Bs.oneIf]; omega)
            subst hfb1
            clear hfb hsu hf1 hv HFS HFT HTR
            go_wp2
            go_round
            case rel => exact ⟨k + 1, true, by omega, rfl, by go_num, HN.out⟩
            case measure => simp [intOf]; omega
          · have hfb1 : fb = false := by rw [hfb]; simp; omega
            have HN := Lib.hid (show false = decide (0 < f (k + 1)) from by rw [hsu]; simp [Bs.oneIf]; omega)
            subst hfb1
            clear hfb hsu hf1 hv HFS HFT HTR
            go_wp2
            go_round
            case rel => exact ⟨k + 1, false, by omega, rfl, by go_num, HN.out⟩
            case measure => simp [intOf]; omega
          · have hfb1 : fb = false := by rw [hfb]; simp; omega
            have HN := Lib.hid (show true = decide (0 < f (k + 1)) from by rw [hsu]; simp [Bs.oneIf]; omega)
            subst hfb1
            clear hfb hsu hf1 hv HFS HFT HTR
            go_wp2
            go_round
            case rel => exact ⟨k + 1, true, by omega, rfl, by go_num, HN.out⟩
            case measure => simp [intOf]; omega
        · clear hfb HFS HFT HTR
          go_wp2
          go_ret
          exact ⟨rfl, HB6.out⟩
end Go.Proofs.Ytlanlcdbcblfjaa
