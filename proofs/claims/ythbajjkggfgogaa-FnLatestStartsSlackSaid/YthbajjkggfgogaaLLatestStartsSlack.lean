/-
  THE WALK OF laws.FnLatestStartsSlack.
-/
import Derived.Test.YthbajjkggfgogaaX17
import Derived.Test.YthbajjkggfgogaaMath121
import Derived.Test.YthbajjkggfgogaaW121
import Derived.Test.YthbajjkggfgogaaR81
import Derived.Test.YthbajjkggfgogaaL1
import Derived.Test.YthbajjkggfgogaaK8
import Derived.Test.YthbajjkggfgogaaW19
import Derived.Test.YthbajjkggfgogaaMath122
namespace Go.Proofs.Ythbajjkggfgogaa
open Go.RowKit
set_option linter.unusedVariables false
set_option maxRecDepth 20000 in
set_option maxHeartbeats 6400000 in
theorem fnLatestStartsSlack_walk (A : Option Addr) (c : Nat) (l : List Int) (w : World) (hb : RB w 0 w.heap.size A l) (hlc : l.length ≤ c ∧ c ≤ maxLen) :
    Calls Try.prog 4 #[.slice A l.length c] w fun e w' => e = .returned (.bool true) ∧ Below w.heap.size w w' := by
  have hl63 : l.length ≤ 9223372036854775807 := by have := hlc.2; unfold maxLen at this; omega
  by_cases hbig : 1048576 < l.length
  · go_enter Try.func4, Try.ntmps4
    go_wp2
    go_ret
    exact ⟨rfl, Below.refl _ _⟩
  · have C1 := Lib.hid (DrawLatestStarts_any A c l w hb hlc.1 hlc.2)
    clear hb
    go_enter Try.func4, Try.ntmps4
    go_wp2_with fail
    refine (C1.out).mono ?_
    rintro e w1 ⟨⟨A1, c1, g, d, rfl, hg, hg16, hgc, hcm⟩, hb1⟩
    have HG := Lib.hid hg
    have s1 := hb1.size
    have hl9 : g.length ≤ 9223372036854775807 := by omega
    have HX1 := Lib.hid (Below.refl w1.heap.size w1)
    have HB1 := Lib.hid hb1
    have QLS := Lib.hid (fun (d : Int) W (hb : Below w1.heap.size w1 W) => LatestStarts_any A1 c1 g d w.heap.size w1.heap.size W (HG.out.below hb (Nat.le_refl _)) hb.size hl9)
    have QLSm := Lib.hid (fun (d : Int) W (hb : Below w1.heap.size w1 W) => LatestStartsS_any A1 c1 g d w.heap.size w1.heap.size W (HG.out.below hb (Nat.le_refl _)) hb.size hl9)
    have QHT := Lib.hid (fun W (hb : Below w1.heap.size w1 W) => HeadTimes_any A1 c1 g w.heap.size w1.heap.size W (HG.out.below hb (Nat.le_refl _)) hb.size hl9)
    have QST := Lib.hid (fun W (hb : Below w1.heap.size w1 W) => SlackTimes_any A1 c1 g w.heap.size w1.heap.size W (HG.out.below hb (Nat.le_refl _)) hb.size hl9)
    have QLG := Lib.hid (fun W (hb : Below w1.heap.size w1 W) => LongestTime_any A1 c1 g w.heap.size w1.heap.size W (HG.out.below hb (Nat.le_refl _)) hb.size hl9)
    clear C1 hb1
    obtain ⟨L, hL⟩ : ∃ L, L = Bs.latL g d := ⟨_, rfl⟩
    have hlen : L.length ≤ 1000 := by rw [hL]; exact Nat.le_trans (Bs.latL_len g d) (by decide)
    have HL := Lib.hid hL
    have e2 := QLS.out d w1 HX1.out
    have e3 := fun W hb => QLSm.out d W hb
    rw [← hL] at e2 e3
    have E2 := Lib.hid e2
    have CS := Lib.hid e3
    clear hL e2 e3
    go_wp2_with fail
    with_reducible refine (E2.out).mono ?_
    rintro e w2 ⟨⟨A22, c22, rfl, ho2⟩, hb2⟩
    have HX2 := Lib.hid hb2
    have HB2 := Lib.hid (HB1.out.trans (hb2.mono s1))
    have hr2 := ho2.ri
    have C3 := Lib.hid (CS.out w2 HX2.out)
    clear ho2 hb2 E2
    go_wp2_with fail
    with_reducible refine (C3.out).mono ?_
    rintro e w3 ⟨⟨A23, c23, rfl, ho3⟩, hb3⟩
    have hr3 := hr2.below hb3 (Nat.le_refl _)
    have C4 := Lib.hid (equalInts_same A22 c22 A23 c23 L _ _ _ _ w3 hr3 ho3.ri (by omega))
    have HQL3 := Lib.hid hr3
    have HX3 := Lib.hid (HX2.out.trans (hb3.mono HX2.out.size))
    have HB3 := Lib.hid (HB2.out.trans (hb3.mono (Nat.le_trans s1 HX2.out.size)))
    have hqL3 := hb3.size
    clear hb3 ho3 hr2 hr3 C3
    go_wp2_with fail
    with_reducible refine (C4.out).mono ?_
    rintro e w4 ⟨rfl, n, rfl⟩
    clear C4
    have HQL4 := Lib.hid (HQL3.out.drewN n)
    have HX4 := Lib.hid (HX3.out.drewN n)
    have HB4 := Lib.hid (HB3.out.drewN n)
    have hqL4 : w2.heap.size ≤ (w3.drewN n).heap.size := hqL3
    clear HQL3 HX3 HB3 HX2 HB2 hqL3
    generalize w3.drewN n = w4 at *
    by_cases h0 : L.length = 0
    · have hq0 : ((L.length : Int) == 0) = true := by simp [h0]
      clear h0 HL QLS QHT QST QLG
      have CA := Lib.hid (CS.out w4 HX4.out)
      go_wp2_with fail
      with_reducible refine (CA.out).mono ?_
      rintro e wA ⟨⟨AA, cA, rfl, oA⟩, hbA⟩
      have CB := Lib.hid (equalInts_same A22 c22 AA cA L _ _ _ _ wA (HQL4.out.below hbA hqL4) oA.ri (by omega))
      have HBA := Lib.hid (HB4.out.trans (hbA.mono (Nat.le_trans s1 HX4.out.size)))
      clear hbA oA CA
      go_wp2_with fail
      with_reducible refine (CB.out).mono ?_
      rintro e wB ⟨rfl, nB, rfl⟩
      go_wp2
      go_ret
      exact ⟨rfl, HBA.out.drewN _⟩
    · have hq0 : ((L.length : Int) == 0) = false := by rw [beq_eq_false_iff_ne]; omega
      obtain ⟨M, hM⟩ : ∃ M, M = Bs.latL g (longL g) := ⟨_, rfl⟩
      obtain ⟨H, hH⟩ : ∃ H, H = if Bs.valid g then Bs.headsC g else [] := ⟨_, rfl⟩
      obtain ⟨T, hT⟩ : ∃ T, T = slackL g := ⟨_, rfl⟩
      obtain ⟨m1, m2, m3, m4⟩ := Bs.lat_slack HL.out h0 hM hH hT
      have q5 := QHT.out w4 HX4.out
      rw [← hH] at q5
      have q6 := fun W hb => QST.out W hb
      rw [← hT] at q6
      have q7 := fun W hb => QLG.out W hb
      have q8 := fun W hb => QLS.out (longL g) W hb
      rw [← hM] at q8
      have Q6 := Lib.hid q6
      have Q7 := Lib.hid q7
      have Q8 := Lib.hid q8
      have HM4 := Lib.hid m4
      have HMEQ := Lib.hid (show ((M.length : Int) == (g.length : Int)) = true from by rw [beq_iff_eq]; omega)
      have hM16 : M.length ≤ 16 := by omega
      have n1 : M.length ≤ H.length := by omega
      have n2 : M.length ≤ T.length := by omega
      clear HL QLS QHT QST QLG CS hM hH hT m1 m2 m3 m4 h0 q6 q7 q8 HQL4 hqL4
      generalize longL g = lg at *
      have C5 := Lib.hid (q5)
      go_wp2_with fail
      with_reducible refine (C5.out).mono ?_
      rintro e w5 ⟨⟨A25, c25, rfl, ho5⟩, hb5⟩
      have HX5 := Lib.hid (HX4.out.trans (hb5.mono HX4.out.size))
      have HB5 := Lib.hid (HB4.out.trans (hb5.mono (Nat.le_trans s1 HX4.out.size)))
      have HQH5 := Lib.hid ho5.ri
      have sqH := hb5.size
      clear hb5 ho5 C5
      have hqH5 : w4.heap.size ≤ w5.heap.size := sqH
      have HQH5b := Lib.hid HQH5.out
      have C6 := Lib.hid (Q6.out w5 HX5.out)
      go_wp2_with fail
      with_reducible refine (C6.out).mono ?_
      rintro e w6 ⟨⟨A26, c26, rfl, ho6⟩, hb6⟩
      have HX6 := Lib.hid (HX5.out.trans (hb6.mono HX5.out.size))
      have HB6 := Lib.hid (HB5.out.trans (hb6.mono (Nat.le_trans s1 HX5.out.size)))
      have HQH6 := Lib.hid (HQH5.out.below hb6 (Nat.le_refl _))
      have HQT6 := Lib.hid ho6.ri
      have s56 := hb6.size
      clear hb6 ho6 C6
      have C7 := Lib.hid (Q7.out w6 HX6.out)
      go_wp2_with fail
      with_reducible refine (C7.out).mono ?_
      rintro e w7 ⟨rfl, hb7⟩
      have HX7 := Lib.hid (HX6.out.trans (hb7.mono HX6.out.size))
      have HB7 := Lib.hid (HB6.out.trans (hb7.mono (Nat.le_trans s1 HX6.out.size)))
      have HQH7 := Lib.hid (HQH6.out.below hb7 s56)
      have HQT7 := Lib.hid (HQT6.out.below hb7 (Nat.le_refl _))
      have s67 := hb7.size
      clear hb7 C7
      have C8 := Lib.hid (Q8.out w7 HX7.out)
      go_wp2_with fail
      with_reducible refine (C8.out).mono ?_
      rintro e w8 ⟨⟨A28, c28, rfl, ho8⟩, hb8⟩
      have HX8 := Lib.hid (HX7.out.trans (hb8.mono HX7.out.size))
      have HB8 := Lib.hid (HB7.out.trans (hb8.mono (Nat.le_trans s1 HX7.out.size)))
      have HQH8 := Lib.hid (HQH7.out.below hb8 (Nat.le_trans s56 s67))
      have HQT8 := Lib.hid (HQT7.out.below hb8 s67)
      have HQM8 := Lib.hid ho8.ri
      clear hb8 ho8 C8 Q6 Q7 Q8
      go_wp2
      go_loopw [9] (fun i wr => ∃ k : Nat, k ≤ M.length ∧ i = .int .i64 k ∧ ∃ n, wr = w8.drewN n) (fun i _ => M.length - (intOf i).toNat)
      case atStart => exact ⟨0, Nat.zero_le _, rfl, 0, rfl⟩
      case round =>
        obtain ⟨k, hk, rfl, n, rfl⟩ := hrel
        by_cases hlt : k < M.length
        · obtain ⟨b4, o4, rfl, _, _, k4⟩ := HQM8.out.at_ hlt
          obtain ⟨b5, o5, rfl, _, _, k5⟩ := HQH8.out.at_ (k := k) (by omega)
          obtain ⟨b6, o6, rfl, _, _, k6⟩ := HQT8.out.at_ (k := k) (by omega)
          obtain ⟨f1, f2, f3⟩ := HM4.out k hlt
          rw [← Bs.giZ_at hlt, f1] at k4
          rw [← Bs.giZ_at (by omega)] at k5
          rw [← Bs.giZ_at (by omega)] at k6
          have i0 : (0 : Int) ≤ (k : Int) := by omega
          have i1 : (k : Int) < (M.length : Int) := by omega
          have i2 : (k : Int) < (H.length : Int) := by omega
          have i3 : (k : Int) < (T.length : Int) := by omega
          have e1 : decide ((k : Int) ≥ (H.length : Int)) = false := decide_eq_false (by omega)
          have e1b : decide ((H.length : Int) ≤ (k : Int)) = false := decide_eq_false (by omega)
          have e1c : decide (H.length ≤ k) = false := decide_eq_false (by omega)
          have e2 : decide ((k : Int) ≥ (T.length : Int)) = false := decide_eq_false (by omega)
          have e2b : decide ((T.length : Int) ≤ (k : Int)) = false := decide_eq_false (by omega)
          have e2c : decide (T.length ≤ k) = false := decide_eq_false (by omega)
          clear f1
          generalize Bs.giZ H k = x at *
          generalize Bs.giZ T k = y at *
          have hw : IntKind.i64.wrap (x + y) = x + y := IntWalk.i64_in _ ⟨by omega, by omega⟩
          have hxy : (x + y != x + y) = false := by simp
          clear f2 f3 n1 n2
          go_wp2
          go_quiet (fail)
          go_wp2
          go_roundw
          case rel => exact ⟨k + 1, by omega, by go_num, _, by first | rfl | rw [World.drewN_drewN]⟩
          case measure => simp [intOf]; omega
        · obtain rfl : k = M.length := by omega
          have hmeq := HMEQ.out
          go_wp2
          go_ret
          exact ⟨rfl, HB8.out.drewN _⟩
end Go.Proofs.Ythbajjkggfgogaa
