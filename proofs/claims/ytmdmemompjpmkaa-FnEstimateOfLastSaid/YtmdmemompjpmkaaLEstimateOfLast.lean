/-
  THE WALK OF laws.FnEstimateOfLast.
-/
import Derived.Test.YtmdmemompjpmkaaX15
import Derived.Test.YtmdmemompjpmkaaW110
import Derived.Test.YtmdmemompjpmkaaR70
namespace Go.Proofs.Ytmdmemompjpmkaa
open Go.RowKit
set_option linter.unusedVariables false
theorem two_ri (W : World) (x y : Int) : RI (W.alloc (.cells #[.int .i64 x, .int .i64 y] 3)) W.heap.size (W.heap.size + 1) (some ⟨W.heap.size, 0, none⟩) [x, y] := by
  intro k hk
  refine ⟨W.heap.size, 0, rfl, Nat.le_refl _, by omega, ?_⟩
  rw [Nat.zero_add, (Blk.new W 3 #[.int .i64 x, .int .i64 y]).cell k]
  match k, hk with
  | 0, _ => rfl
  | 1, _ => rfl
theorem three_ri (W : World) (x y z : Int) : RI (W.alloc (.cells #[.int .i64 x, .int .i64 y, .int .i64 z] 3)) W.heap.size (W.heap.size + 1) (some ⟨W.heap.size, 0, none⟩) [x, y, z] := by
  intro k hk
  refine ⟨W.heap.size, 0, rfl, Nat.le_refl _, by omega, ?_⟩
  rw [Nat.zero_add, (Blk.new W 3 #[.int .i64 x, .int .i64 y, .int .i64 z]).cell k]
  match k, hk with
  | 0, _ => rfl
  | 1, _ => rfl
  | 2, _ => rfl
set_option maxRecDepth 20000 in
set_option maxHeartbeats 6400000 in
theorem fnEstimateOfLast_walk (A : Option Addr) (c : Nat) (l : List Int) (w : World) (hb : RB w 0 w.heap.size A l) (hlc : l.length ≤ c ∧ c ≤ maxLen) :
    Calls Try.prog 4 #[.slice A l.length c] w fun e w' => e = .returned (.bool true) ∧ Below w.heap.size w w' := by
  have hl63 : l.length ≤ 9223372036854775807 := by have := hlc.2; unfold maxLen at this; omega
  by_cases hbig : 1048576 < l.length
  · go_enter Try.func4, Try.ntmps4
    go_wp2
    go_ret
    exact ⟨rfl, Below.refl _ _⟩
  · have C1 := Lib.hid (DrawEstimateOf_any A c l w hb hlc.1 hlc.2)
    clear hb
    go_enter Try.func4, Try.ntmps4
    go_wp2_with fail
    refine (C1.out).mono ?_
    rintro e w1 ⟨⟨A0, c0, d, rfl, hd, hd100, hdc, hdm⟩, hb1⟩
    have HD := Lib.hid hd
    have s1 := hb1.size
    have hd9 : d.length ≤ 9223372036854775807 := by omega
    have qs := fun W (hb : Below w1.heap.size w1 W) => EstimateOfS_any A0 c0 d w.heap.size w1.heap.size W (HD.out.below hb (Nat.le_refl _)) hb.size hd9
    have q2 := EstimateOf_any A0 c0 d w.heap.size w1.heap.size w1 HD.out (Nat.le_refl _) hd9
    obtain ⟨V, hV⟩ : ∃ V, V = Bs.estL d := ⟨_, rfl⟩
    have hvb := Bs.estL_b d
    rw [← hV] at q2 qs hvb
    have HV := Lib.hid hV
    have C2 := Lib.hid q2
    have CS := Lib.hid qs
    have HB1 := Lib.hid hb1
    have hne : (V != V) = false := by simp
    have heq : (V == V) = true := by simp
    clear C1 hd q2 qs hb1 hV
    go_wp2_with fail
    with_reducible refine (C2.out).mono ?_
    rintro e w2 ⟨rfl, hb2⟩
    have s2 := hb2.size
    have HX2 := Lib.hid hb2
    have HB2 := Lib.hid (HB1.out.trans (hb2.mono s1))
    clear hb2 C2
    have C4 := Lib.hid (CS.out w2 HX2.out)
    go_wp2_with fail
    with_reducible refine (C4.out).mono ?_
    rintro e W4 ⟨rfl, hb4⟩
    have HX4 := Lib.hid (HX2.out.trans (hb4.mono s2))
    have HB4 := Lib.hid (HB2.out.trans (hb4.mono (Nat.le_trans s1 s2)))
    have s4 := HX4.out.size
    have C5 := Lib.hid (CS.out W4 HX4.out)
    clear hb4 C4 CS
    by_cases hV0 : V < 0
    · clear HV
      go_wp2_with fail
      with_reducible refine (C5.out).mono ?_
      rintro e w5 ⟨rfl, hb5⟩
      have HB5 := Lib.hid (HB4.out.trans (hb5.mono (Nat.le_trans s1 s4)))
      clear hb5
      go_wp2
      go_ret
      exact ⟨rfl, HB5.out⟩
    have ht := Bs.estL_pos (by rw [← HV.out]; exact hV0)
    have h6 := (Bs.timesOk_iff.1 ht).1
    by_cases h0 : d.length < 2
    · have hq0 : decide ((d.length : Int) < 2) = true := by simp; omega
      have hz : d.length = 0 → V = 20 := fun h => by rw [HV.out, Bs.estL_zero ht h]
      have HZ := Lib.hid hz
      clear HV hz ht
      go_wp2_with fail
      with_reducible refine (C5.out).mono ?_
      rintro e w5 ⟨rfl, hb5⟩
      have HB5 := Lib.hid (HB4.out.trans (hb5.mono (Nat.le_trans s1 s4)))
      clear hb5
      go_wp2
      go_ret
      exact ⟨rfl, HB5.out⟩
    · have hq0 : decide ((d.length : Int) < 2) = false := by simp; omega
      have hV1 : decide (V < 0) = false := by simp; omega
      clear C5
      have HD4 := Lib.hid (HD.out.below HX4.out (Nat.le_refl _))
      obtain ⟨b0, o0, rfl, _, _, hc0⟩ := HD4.out.at_ (k := 0) (by omega)
      obtain ⟨b1, o1, e0, _, _, hc1⟩ := HD4.out.at_ (k := 1) (by omega)
      cases e0
      rw [← Bs.giZ_at (show 0 < d.length by omega), Nat.add_zero] at hc0
      rw [← Bs.giZ_at (show 1 < d.length by omega)] at hc1
      have hl0 : (0 : Int) < (d.length : Int) := by omega
      have hl1 : (1 : Int) < (d.length : Int) := by omega
      obtain ⟨t1, t2⟩ := Bs.timesOk_at ht (k := 0) (by omega)
      obtain ⟨t3, t4⟩ := Bs.timesOk_at ht (k := 1) (by omega)
      clear HV ht h0
      generalize Bs.giZ d 0 = a at *
      generalize Bs.giZ d 1 = z at *
      have e2 := Bs.est_two t1 t2 t3 t4
      have e3 := Bs.est_three t1 t2
      have C6 := Lib.hid (fun (W : World) (x y : Int) (hxy : Bs.estL [x, y] = (x + 2 * y + 2) / 3) => show Calls Try.prog 14 #[.slice (some ⟨W.heap.size, 0, none⟩) 2 2] (W.alloc (.cells #[.int .i64 x, .int .i64 y] 3)) (fun e w' => e = .returned (.int .i64 ((x + 2 * y + 2) / 3)) ∧ Below (W.heap.size + 1) (W.alloc (.cells #[.int .i64 x, .int .i64 y] 3)) w') from by
        have h := EstimateOf_any (some ⟨W.heap.size, 0, none⟩) 2 [x, y] W.heap.size (W.heap.size + 1) (W.alloc (.cells #[.int .i64 x, .int .i64 y] 3)) (two_ri W x y) (by simp) (by simp)
        rw [hxy] at h
        simpa using h)
      have C7 := Lib.hid (fun (W : World) (x : Int) (hxy : Bs.estL [x, x, x] = x) => show Calls Try.prog 14 #[.slice (some ⟨W.heap.size, 0, none⟩) 3 3] (W.alloc (.cells #[.int .i64 x, .int .i64 x, .int .i64 x] 3)) (fun e w' => e = .returned (.int .i64 x) ∧ Below (W.heap.size + 1) (W.alloc (.cells #[.int .i64 x, .int .i64 x, .int .i64 x] 3)) w') from by
        have h := EstimateOf_any (some ⟨W.heap.size, 0, none⟩) 3 [x, x, x] W.heap.size (W.heap.size + 1) (W.alloc (.cells #[.int .i64 x, .int .i64 x, .int .i64 x] 3)) (three_ri W x x x) (by simp) (by simp)
        rw [hxy] at h
        simpa using h)
      have C6a := Lib.hid (C6.out W4 a z e2)
      have C7a := Lib.hid (fun W => C7.out W a e3)
      have hw1 : IntKind.i64.wrap (2 * z) = 2 * z := IntWalk.i64_in _ ⟨by omega, by omega⟩
      have hw2 : IntKind.i64.wrap (a + 2 * z) = a + 2 * z := IntWalk.i64_in _ ⟨by omega, by omega⟩
      have hw3 : IntKind.i64.wrap (a + 2 * z + 2) = a + 2 * z + 2 := IntWalk.i64_in _ ⟨by omega, by omega⟩
      have e4 : Int.tdiv (a + 2 * z + 2) 3 = (a + 2 * z + 2) / 3 := Int.tdiv_eq_ediv_of_nonneg (by omega)
      have hdb : 0 ≤ (a + 2 * z + 2) / 3 ∧ (a + 2 * z + 2) / 3 ≤ 10000 := by omega
      have hw4 : IntKind.i64.wrap ((a + 2 * z + 2) / 3) = (a + 2 * z + 2) / 3 := IntWalk.i64_in _ ⟨by omega, by omega⟩
      have haa : (a == a) = true := by simp
      have hkk : ((a + 2 * z + 2) / 3 == (a + 2 * z + 2) / 3) = true := by simp
      clear e2 e3 C6 C7 hdb
      go_wp2_with fail
      with_reducible refine (C6a.out).mono ?_
      rintro e w6 ⟨rfl, hb6⟩
      have HB6 := Lib.hid (show Below w.heap.size w w6 from (HB4.out.alloc HB4.out.size _).trans (hb6.mono (by have := HB4.out.size; omega)))
      have C7b := Lib.hid (C7a.out w6)
      clear hb6 C6a C7a
      go_wp2_with fail
      with_reducible refine (C7b.out).mono ?_
      rintro e w7 ⟨rfl, hb7⟩
      have HB7 := Lib.hid (show Below w.heap.size w w7 from (HB6.out.alloc HB6.out.size _).trans (hb7.mono (by have := HB6.out.size; omega)))
      clear hb7 C7b
      go_wp2
      go_ret
      exact ⟨by first | rfl | simp [e4, hw4], HB7.out⟩
end Go.Proofs.Ytmdmemompjpmkaa
