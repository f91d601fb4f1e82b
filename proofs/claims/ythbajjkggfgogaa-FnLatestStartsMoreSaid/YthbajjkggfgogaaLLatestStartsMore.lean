/-
  THE WALK OF laws.FnLatestStartsMore.
-/
import Derived.Test.YthbajjkggfgogaaX17
import Derived.Test.YthbajjkggfgogaaMath121
import Derived.Test.YthbajjkggfgogaaW121
import Derived.Test.YthbajjkggfgogaaR81
import Derived.Test.YthbajjkggfgogaaL1
namespace Go.Proofs.Ythbajjkggfgogaa
open Go.RowKit
set_option linter.unusedVariables false
set_option maxRecDepth 20000 in
set_option maxHeartbeats 6400000 in
theorem fnLatestStartsMore_walk (A : Option Addr) (c : Nat) (l : List Int) (w : World) (hb : RB w 0 w.heap.size A l) (hlc : l.length ≤ c ∧ c ≤ maxLen) :
    Calls Try.prog 10 #[.slice A l.length c] w fun e w' => e = .returned (.bool true) ∧ Below w.heap.size w w' := by
  have hl63 : l.length ≤ 9223372036854775807 := by have := hlc.2; unfold maxLen at this; omega
  by_cases hbig : 1048576 < l.length
  · go_enter Try.func10, Try.ntmps10
    go_wp2
    go_ret
    exact ⟨rfl, Below.refl _ _⟩
  · have C1 := Lib.hid (DrawLatestStarts_any A c l w hb hlc.1 hlc.2)
    clear hb
    go_enter Try.func10, Try.ntmps10
    go_wp2_with fail
    refine (C1.out).mono ?_
    rintro e w1 ⟨⟨A1, c1, g, d, rfl, hg, hg16, hgc, hcm⟩, hb1⟩
    have HG := Lib.hid hg
    have s1 := hb1.size
    have hl9 : g.length ≤ 9223372036854775807 := by omega
    have HX1 := Lib.hid (Below.refl w1.heap.size w1)
    have HB1 := Lib.hid hb1
    have QLS := Lib.hid (fun (d : Int) W (hb : Below w1.heap.size w1 W) => LatestStarts_any A1 c1 g d w.heap.size w1.heap.size W (HG.out.below hb (Nat.le_refl _)) hb.size hl9)
    have QLSm := Lib.hid (fun (d : Int) W (hb : Below w1.heap.size w1 W) => LatestStartsS_any A1 c1 g d w.heap.size w1.heap.size W (HG.out.below hb (Nat.le_refl _)) hb.size hl9)
    clear C1 hb1
    obtain ⟨L, hL⟩ : ∃ L, L = Bs.latL g d := ⟨_, rfl⟩
    have hlen : L.length ≤ 1000 := by rw [hL]; exact Nat.le_trans (Bs.latL_len g d) (by decide)
    have HL := Lib.hid hL
    have e2 := QLS.out d w1 HX1.out
    have e3 := fun W hb => QLSm.out d W hb
    rw [← hL] at e2 e3
    have E2 := Lib.hid e2
    have CS := Lib.hid e3
    clear hL e2 e3
    go_wp2_with fail
    with_reducible refine (E2.out).mono ?_
    rintro e w2 ⟨⟨A22, c22, rfl, ho2⟩, hb2⟩
    have HX2 := Lib.hid hb2
    have HB2 := Lib.hid (HB1.out.trans (hb2.mono s1))
    have hr2 := ho2.ri
    have C3 := Lib.hid (CS.out w2 HX2.out)
    clear ho2 hb2 E2
    go_wp2_with fail
    with_reducible refine (C3.out).mono ?_
    rintro e w3 ⟨⟨A23, c23, rfl, ho3⟩, hb3⟩
    have hr3 := hr2.below hb3 (Nat.le_refl _)
    have C4 := Lib.hid (equalInts_same A22 c22 A23 c23 L _ _ _ _ w3 hr3 ho3.ri (by omega))
    have HQL3 := Lib.hid hr3
    have HX3 := Lib.hid (HX2.out.trans (hb3.mono HX2.out.size))
    have HB3 := Lib.hid (HB2.out.trans (hb3.mono (Nat.le_trans s1 HX2.out.size)))
    have hqL3 := hb3.size
    clear hb3 ho3 hr2 hr3 C3
    go_wp2_with fail
    with_reducible refine (C4.out).mono ?_
    rintro e w4 ⟨rfl, n, rfl⟩
    clear C4
    have HQL4 := Lib.hid (HQL3.out.drewN n)
    have HX4 := Lib.hid (HX3.out.drewN n)
    have HB4 := Lib.hid (HB3.out.drewN n)
    have hqL4 : w2.heap.size ≤ (w3.drewN n).heap.size := hqL3
    clear HQL3 HX3 HB3 HX2 HB2 hqL3
    generalize w3.drewN n = w4 at *
    by_cases h0 : L.length = 0
    · have hq0 : ((L.length : Int) == 0) = true := by simp [h0]
      clear h0 HL QLS
      have CA := Lib.hid (CS.out w4 HX4.out)
      go_wp2_with fail
      with_reducible refine (CA.out).mono ?_
      rintro e wA ⟨⟨AA, cA, rfl, oA⟩, hbA⟩
      have CB := Lib.hid (equalInts_same A22 c22 AA cA L _ _ _ _ wA (HQL4.out.below hbA hqL4) oA.ri (by omega))
      have HBA := Lib.hid (HB4.out.trans (hbA.mono (Nat.le_trans s1 HX4.out.size)))
      clear hbA oA CA
      go_wp2_with fail
      with_reducible refine (CB.out).mono ?_
      rintro e wB ⟨rfl, nB, rfl⟩
      go_wp2
      go_ret
      exact ⟨rfl, HBA.out.drewN _⟩
    · have hq0 : ((L.length : Int) == 0) = false := by rw [beq_eq_false_iff_ne]; omega
      by_cases h1 : d = 200
      · have d1 : (d == 200) = true := by rw [h1]; rfl
        clear h0 h1 HL QLS
        have CA := Lib.hid (CS.out w4 HX4.out)
        go_wp2_with fail
        with_reducible refine (CA.out).mono ?_
        rintro e wA ⟨⟨AA, cA, rfl, oA⟩, hbA⟩
        have CB := Lib.hid (equalInts_same A22 c22 AA cA L _ _ _ _ wA (HQL4.out.below hbA hqL4) oA.ri (by omega))
        have HBA := Lib.hid (HB4.out.trans (hbA.mono (Nat.le_trans s1 HX4.out.size)))
        clear hbA oA CA
        go_wp2_with fail
        with_reducible refine (CB.out).mono ?_
        rintro e wB ⟨rfl, nB, rfl⟩
        go_wp2
        go_ret
        exact ⟨rfl, HBA.out.drewN _⟩
      · have d1 : (d == 200) = false := by rw [beq_eq_false_iff_ne]; exact h1
        obtain ⟨f1, f2⟩ := Bs.lat_later HL.out h0 h1
        obtain ⟨hdb, hbd⟩ := Bs.latL_b HL.out h0
        have hw : IntKind.i64.wrap (d + 1) = d + 1 := IntWalk.i64_in _ ⟨by omega, by omega⟩
        have HBD := Lib.hid hbd
        have q5 := QLS.out (d + 1) w4 HX4.out
        obtain ⟨M, hM⟩ : ∃ M, M = Bs.latL g (d + 1) := ⟨_, rfl⟩
        rw [← hM] at q5 f1 f2
        have HF2 := Lib.hid f2
        have HML := Lib.hid f1
        have hml := Nat.le_of_eq f1
        have hml2 := Nat.le_of_eq f1.symm
        have hmeq : ((M.length : Int) == (L.length : Int)) = true := by rw [beq_iff_eq]; omega
        clear HL QLS CS hM f1 f2 h0 h1 hbd
        have C5 := Lib.hid (q5)
        go_wp2_with fail
        with_reducible refine (C5.out).mono ?_
        rintro e w5 ⟨⟨A25, c25, rfl, ho5⟩, hb5⟩
        have HX5 := Lib.hid (HX4.out.trans (hb5.mono HX4.out.size))
        have HB5 := Lib.hid (HB4.out.trans (hb5.mono (Nat.le_trans s1 HX4.out.size)))
        have HQL5 := Lib.hid (HQL4.out.below hb5 hqL4)
        have hqL5 := Nat.le_trans hqL4 hb5.size
        have HQM5 := Lib.hid ho5.ri
        have sqM := hb5.size
        clear hb5 ho5 C5
        have hsM := HX5.out.size
        clear HQL4
        go_wp2
        go_loopw [7] (fun i wr => ∃ k : Nat, k ≤ L.length ∧ i = .int .i64 k ∧ ∃ n, wr = w5.drewN n) (fun i _ => L.length - (intOf i).toNat)
        case atStart => exact ⟨0, Nat.zero_le _, rfl, 0, rfl⟩
        case round =>
          obtain ⟨k, hk, rfl, n, rfl⟩ := hrel
          by_cases hlt : k < L.length
          · obtain ⟨b4, o4, rfl, _, _, k4⟩ := HQL5.out.at_ hlt
            obtain ⟨b5, o5, rfl, _, _, k5⟩ := HQM5.out.at_ (k := k) (by omega)
            have hf := HF2.out k hlt
            have hbk := HBD.out k hlt
            rw [← Bs.giZ_at hlt] at k4
            rw [← Bs.giZ_at (by omega), hf] at k5
            have i0 : (0 : Int) ≤ (k : Int) := by omega
            have i1 : (k : Int) < (L.length : Int) := by omega
            have i2 : (k : Int) < (M.length : Int) := by omega
            have d2 : decide ((k : Int) ≥ (M.length : Int)) = false := decide_eq_false (by omega)
            have d3 : decide ((M.length : Int) ≤ (k : Int)) = false := decide_eq_false (by omega)
            have d3' : decide (M.length ≤ k) = false := decide_eq_false (by omega)
            clear hf hml hml2
            generalize Bs.giZ L k = x at *
            have hwx : IntKind.i64.wrap (x + 1) = x + 1 := IntWalk.i64_in _ ⟨by omega, by omega⟩
            have hxx : (x + 1 != x + 1) = false := by simp
            go_wp2
            go_quiet (fail)
            go_wp2
            go_roundw
            case rel => exact ⟨k + 1, by omega, by go_num, _, by first | rfl | rw [World.drewN_drewN]⟩
            case measure => simp [intOf]; omega
          · obtain rfl : k = L.length := by omega
            go_wp2
            go_ret
            exact ⟨rfl, HB5.out.drewN _⟩
end Go.Proofs.Ythbajjkggfgogaa
