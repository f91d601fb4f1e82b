/-
  THE WALK OF laws.FnEstimateOf.
-/
import Derived.Test.YtmdmemompjpmkaaX15
import Derived.Test.YtmdmemompjpmkaaW110
import Derived.Test.YtmdmemompjpmkaaR70
namespace Go.Proofs.Ytmdmemompjpmkaa
open Go.RowKit
set_option linter.unusedVariables false
set_option maxRecDepth 20000 in
set_option maxHeartbeats 6400000 in
theorem fnEstimateOf_walk (A : Option Addr) (c : Nat) (l : List Int) (w : World) (hb : RB w 0 w.heap.size A l) (hlc : l.length ≤ c ∧ c ≤ maxLen) :
    Calls Try.prog 3 #[.slice A l.length c] w fun e w' => e = .returned (.bool true) ∧ Below w.heap.size w w' := by
  have hl63 : l.length ≤ 9223372036854775807 := by have := hlc.2; unfold maxLen at this; omega
  by_cases hbig : 1048576 < l.length
  · go_enter Try.func3, Try.ntmps3
    go_wp2
    go_ret
    exact ⟨rfl, Below.refl _ _⟩
  · have C1 := Lib.hid (DrawEstimateOf_any A c l w hb hlc.1 hlc.2)
    clear hb
    go_enter Try.func3, Try.ntmps3
    go_wp2_with fail
    refine (C1.out).mono ?_
    rintro e w1 ⟨⟨A0, c0, d, rfl, hd, hd100, hdc, hdm⟩, hb1⟩
    have HD := Lib.hid hd
    have s1 := hb1.size
    have hd9 : d.length ≤ 9223372036854775807 := by omega
    have qs := fun W (hb : Below w1.heap.size w1 W) => EstimateOfS_any A0 c0 d w.heap.size w1.heap.size W (HD.out.below hb (Nat.le_refl _)) hb.size hd9
    have q2 := EstimateOf_any A0 c0 d w.heap.size w1.heap.size w1 HD.out (Nat.le_refl _) hd9
    obtain ⟨V, hV⟩ : ∃ V, V = Bs.estL d := ⟨_, rfl⟩
    have hvb := Bs.estL_b d
    rw [← hV] at q2 qs hvb
    have HV := Lib.hid hV
    have C2 := Lib.hid q2
    have CS := Lib.hid qs
    have HB1 := Lib.hid hb1
    have hne : (V != V) = false := by simp
    have heq : (V == V) = true := by simp
    clear C1 hd q2 qs hb1 hV
    go_wp2_with fail
    with_reducible refine (C2.out).mono ?_
    rintro e w2 ⟨rfl, hb2⟩
    have s2 := hb2.size
    have HX2 := Lib.hid hb2
    have HB2 := Lib.hid (HB1.out.trans (hb2.mono s1))
    clear hb2 C2
    have C4 := Lib.hid (CS.out w2 HX2.out)
    go_wp2_with fail
    with_reducible refine (C4.out).mono ?_
    rintro e W4 ⟨rfl, hb4⟩
    have HX4 := Lib.hid (HX2.out.trans (hb4.mono s2))
    have HB4 := Lib.hid (HB2.out.trans (hb4.mono (Nat.le_trans s1 s2)))
    have s4 := HX4.out.size
    have C5 := Lib.hid (CS.out W4 HX4.out)
    clear hb4 C4 CS
    by_cases hV0 : V < 0
    · clear HV
      go_wp2_with fail
      with_reducible refine (C5.out).mono ?_
      rintro e w5 ⟨rfl, hb5⟩
      have HB5 := Lib.hid (HB4.out.trans (hb5.mono (Nat.le_trans s1 s4)))
      clear hb5
      go_wp2
      go_ret
      exact ⟨rfl, HB5.out⟩
    have hV1 : decide (V < 0) = false := decide_eq_false hV0
    have ht := Bs.estL_pos (by rw [← HV.out]; exact hV0)
    have h6 := (Bs.timesOk_iff.1 ht).1
    by_cases h0 : d.length < 1
    · have hq0 : ((d.length : Int) == 0) = true := beq_iff_eq.2 (by omega)
      have hz : d.length = 0 → V = 20 := fun h => by rw [HV.out, Bs.estL_zero ht h]
      have HZ := Lib.hid hz
      clear HV hz ht
      have hv20 := HZ.out (by omega)
      have hgt : decide ((d.length : Int) > 0) = false := decide_eq_false (by omega)
      have hgt2 : decide ((0 : Int) < (d.length : Int)) = false := decide_eq_false (by omega)
      clear HZ h0 hvb hne heq hV0 hV1
      subst hv20
      go_wp2_with fail
      with_reducible refine (C5.out).mono ?_
      rintro e w5 ⟨rfl, hb5⟩
      have HB5 := Lib.hid (HB4.out.trans (hb5.mono (Nat.le_trans s1 s4)))
      clear hb5
      go_wp2
      all_goals go_ret
      all_goals first
        | exact ⟨rfl, HB5.out⟩
        | exact absurd (show d = [] from List.eq_nil_of_length_eq_zero (by omega)) (by assumption)
    · have hq0 : ((d.length : Int) == 0) = false := by rw [beq_eq_false_iff_ne]; omega
      clear C5
      have HBW := Lib.hid (fun lo hi h => Bs.est_between (lo := lo) (hi := hi) h6 (show 0 < d.length by omega) h)
      have HVC := Lib.hid (show V = Bs.estC d from by rw [HV.out, Bs.estL_yes ht (by omega)])
      have HTB := Lib.hid (fun k (hk : k < d.length) => Bs.timesOk_at ht hk)
      have HD4 := Lib.hid (HD.out.below HX4.out (Nat.le_refl _))
      obtain ⟨b0, o0, rfl, _, _, hc0⟩ := HD4.out.at_ (k := 0) (by omega)
      rw [← Bs.giZ_at (show 0 < d.length by omega), Nat.add_zero] at hc0
      have hl0 : (0 : Int) < (d.length : Int) := by omega
      obtain ⟨W5, rfl⟩ : ∃ W5, W5 = W4 := ⟨_, rfl⟩
      obtain ⟨t1, t2⟩ := HTB.out 0 (by omega)
      obtain ⟨x0, hx0⟩ : ∃ x0, x0 = Bs.giZ d 0 := ⟨_, rfl⟩
      rw [← hx0] at hc0 t1 t2
      clear HV ht HD h0 hx0
      go_wp2
      go_loop [5, 6, 7] (fun a z i => ∃ (k : Nat) (lo hi : Int), k ≤ d.length ∧ i = .int .i64 k ∧ a = .int .i64 lo ∧ z = .int .i64 hi ∧ 1 ≤ lo ∧ lo ≤ 20 ∧ 1 ≤ hi ∧ hi ≤ 20 ∧ ∀ j, j < k → lo ≤ Bs.giZ d j ∧ Bs.giZ d j ≤ hi) (fun _ _ i => d.length - (intOf i).toNat)
      case atStart => exact ⟨0, x0, x0, Nat.zero_le _, rfl, rfl, rfl, t1, t2, t1, t2, by intro j hj; omega⟩
      case round =>
        obtain ⟨k, lo, hi, hk, rfl, rfl, rfl, l1, l2, l3, l4, hall⟩ := hrel
        have HA := Lib.hid hall
        clear hall
        by_cases hlt : k < d.length
        · obtain ⟨b, o, e0, _, _, hc⟩ := HD4.out.at_ hlt
          cases e0
          rw [← Bs.giZ_at hlt] at hc
          have htb := HTB.out k hlt
          have d1 : (k : Int) < (d.length : Int) := by omega
          have d2 : (0 : Int) ≤ (k : Int) := by omega
          obtain ⟨x, hx⟩ : ∃ x, x = Bs.giZ d k := ⟨_, rfl⟩
          rw [← hx] at hc htb
          obtain ⟨r1, hr1⟩ : ∃ r, r = min lo x := ⟨_, rfl⟩
          obtain ⟨r2, hr2⟩ : ∃ r, r = max hi x := ⟨_, rfl⟩
          have HN := Lib.hid (show ∀ j, j < k + 1 → r1 ≤ Bs.giZ d j ∧ Bs.giZ d j ≤ r2 from by
            intro j hj
            by_cases e : j = k
            · subst e; rw [← hx]; omega
            · have := HA.out j (by omega); omega)
          have HR := Lib.hid (show 1 ≤ r1 ∧ r1 ≤ 20 ∧ 1 ≤ r2 ∧ r2 ≤ 20 from by omega)
          have HX := Lib.hid hx
          clear hx HA
          by_cases e1 : x < lo
          · have m1 : r1 = x := by omega
            subst m1
            have E1 := Lib.hid e1
            by_cases e2 : hi < r1
            · have m2 : r2 = r1 := by omega
              subst m2
              clear hr1 hr2
              go_wp2
              go_round
              case rel => exact ⟨k + 1, _, _, by omega, by go_num, rfl, rfl, HR.out.1, HR.out.2.1, HR.out.2.2.1, HR.out.2.2.2, HN.out⟩
              case measure => simp [intOf]; omega
            · have m2 : r2 = hi := by omega
              subst m2
              clear hr1 hr2
              go_wp2
              go_round
              case rel => exact ⟨k + 1, _, _, by omega, by go_num, rfl, rfl, HR.out.1, HR.out.2.1, HR.out.2.2.1, HR.out.2.2.2, HN.out⟩
              case measure => simp [intOf]; omega
          · have m1 : r1 = lo := by omega
            subst m1
            by_cases e2 : hi < x
            · have m2 : r2 = x := by omega
              subst m2
              clear hr1 hr2
              go_wp2
              go_round
              case rel => exact ⟨k + 1, _, _, by omega, by go_num, rfl, rfl, HR.out.1, HR.out.2.1, HR.out.2.2.1, HR.out.2.2.2, HN.out⟩
              case measure => simp [intOf]; omega
            · have m2 : r2 = hi := by omega
              subst m2
              clear hr1 hr2
              go_wp2
              go_round
              case rel => exact ⟨k + 1, _, _, by omega, by go_num, rfl, rfl, HR.out.1, HR.out.2.1, HR.out.2.2.1, HR.out.2.2.2, HN.out⟩
              case measure => simp [intOf]; omega
        · obtain rfl : k = d.length := by omega
          obtain ⟨g1, g2⟩ := HBW.out lo hi HA.out
          rw [← HVC.out] at g1 g2
          have d3 : decide (V ≥ lo) = true := by simp; omega
          have d4 : decide (lo ≤ V) = true := by simp; omega
          have d5 : decide (V ≤ hi) = true := by simp; omega
          clear g1 g2 HBW HVC
          go_wp2
          go_ret
          exact ⟨rfl, HB4.out⟩
end Go.Proofs.Ytmdmemompjpmkaa
