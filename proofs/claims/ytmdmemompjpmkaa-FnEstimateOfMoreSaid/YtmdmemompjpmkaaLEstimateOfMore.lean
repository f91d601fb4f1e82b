/-
  THE WALK OF laws.FnEstimateOfMore.
-/
import Derived.Test.YtmdmemompjpmkaaX15
import Derived.Test.YtmdmemompjpmkaaW110
import Derived.Test.YtmdmemompjpmkaaR70
import Derived.Test.YtmdmemompjpmkaaCp2
namespace Go.Proofs.Ytmdmemompjpmkaa
open Go.RowKit
set_option linter.unusedVariables false
set_option maxRecDepth 20000 in
set_option maxHeartbeats 6400000 in
theorem fnEstimateOfMore_walk (A : Option Addr) (c : Nat) (l : List Int) (w : World) (hb : RB w 0 w.heap.size A l) (hlc : l.length ≤ c ∧ c ≤ maxLen) :
    Calls Try.prog 11 #[.slice A l.length c] w fun e w' => e = .returned (.bool true) ∧ Below w.heap.size w w' := by
  have hl63 : l.length ≤ 9223372036854775807 := by have := hlc.2; unfold maxLen at this; omega
  by_cases hbig : 1048576 < l.length
  · go_enter Try.func11, Try.ntmps11
    go_wp2
    go_ret
    exact ⟨rfl, Below.refl _ _⟩
  · have C1 := Lib.hid (DrawEstimateOf_any A c l w hb hlc.1 hlc.2)
    clear hb
    go_enter Try.func11, Try.ntmps11
    go_wp2_with fail
    refine (C1.out).mono ?_
    rintro e w1 ⟨⟨A0, c0, d, rfl, hd, hd100, hdc, hdm⟩, hb1⟩
    have HD := Lib.hid hd
    have s1 := hb1.size
    have hd9 : d.length ≤ 9223372036854775807 := by omega
    have qs := fun W (hb : Below w1.heap.size w1 W) => EstimateOfS_any A0 c0 d w.heap.size w1.heap.size W (HD.out.below hb (Nat.le_refl _)) hb.size hd9
    have q2 := EstimateOf_any A0 c0 d w.heap.size w1.heap.size w1 HD.out (Nat.le_refl _) hd9
    obtain ⟨V, hV⟩ : ∃ V, V = Bs.estL d := ⟨_, rfl⟩
    have hvb := Bs.estL_b d
    rw [← hV] at q2 qs hvb
    have HV := Lib.hid hV
    have C2 := Lib.hid q2
    have CS := Lib.hid qs
    have HB1 := Lib.hid hb1
    have hne : (V != V) = false := by simp
    have heq : (V == V) = true := by simp
    clear C1 hd q2 qs hb1 hV
    go_wp2_with fail
    with_reducible refine (C2.out).mono ?_
    rintro e w2 ⟨rfl, hb2⟩
    have s2 := hb2.size
    have HX2 := Lib.hid hb2
    have HB2 := Lib.hid (HB1.out.trans (hb2.mono s1))
    clear hb2 C2
    have C4 := Lib.hid (CS.out w2 HX2.out)
    go_wp2_with fail
    with_reducible refine (C4.out).mono ?_
    rintro e W4 ⟨rfl, hb4⟩
    have HX4 := Lib.hid (HX2.out.trans (hb4.mono s2))
    have HB4 := Lib.hid (HB2.out.trans (hb4.mono (Nat.le_trans s1 s2)))
    have s4 := HX4.out.size
    have C5 := Lib.hid (CS.out W4 HX4.out)
    clear hb4 C4 CS
    by_cases hV0 : V < 0
    · clear HV
      go_wp2_with fail
      with_reducible refine (C5.out).mono ?_
      rintro e w5 ⟨rfl, hb5⟩
      have HB5 := Lib.hid (HB4.out.trans (hb5.mono (Nat.le_trans s1 s4)))
      clear hb5
      go_wp2
      go_ret
      exact ⟨rfl, HB5.out⟩
    have hV1 : decide (V < 0) = false := decide_eq_false hV0
    have ht := Bs.estL_pos (by rw [← HV.out]; exact hV0)
    have h6 := (Bs.timesOk_iff.1 ht).1
    by_cases h0 : d.length < 1
    · have hq0 : ((d.length : Int) == 0) = true := beq_iff_eq.2 (by omega)
      have hz : d.length = 0 → V = 20 := fun h => by rw [HV.out, Bs.estL_zero ht h]
      have HZ := Lib.hid hz
      clear HV hz ht
      have hv20 := HZ.out (by omega)
      have hgt : decide ((d.length : Int) > 0) = false := decide_eq_false (by omega)
      have hgt2 : decide ((0 : Int) < (d.length : Int)) = false := decide_eq_false (by omega)
      clear HZ h0 hvb hne heq hV0 hV1
      subst hv20
      go_wp2_with fail
      with_reducible refine (C5.out).mono ?_
      rintro e w5 ⟨rfl, hb5⟩
      have HB5 := Lib.hid (HB4.out.trans (hb5.mono (Nat.le_trans s1 s4)))
      clear hb5
      go_wp2
      all_goals go_ret
      all_goals first
        | exact ⟨rfl, HB5.out⟩
        | exact absurd (show d = [] from List.eq_nil_of_length_eq_zero (by omega)) (by assumption)
    · have hq0 : ((d.length : Int) == 0) = false := by rw [beq_eq_false_iff_ne]; omega
      clear C5
      have hmore := Bs.est_more ht (by omega)
      rw [← HV.out] at hmore
      have htb := Bs.timesOk_at ht (k := d.length - 1) (by omega)
      have hal : Below w.heap.size w (W4.alloc (.cells #[] 3)) := HB4.out.alloc HB4.out.size _
      have HR := Lib.hid ((HD.out.below HX4.out (Nat.le_refl _)).below (show Below W4.heap.size W4 (W4.alloc (.cells #[] 3)) from (Below.refl _ _).alloc (Nat.le_refl _) _) s4)
      have HA := Lib.hid hal
      have HO0 := Lib.hid (OI.new W4 W4.heap.size (Nat.le_refl _))
      have hsB : w.heap.size ≤ W4.heap.size := Nat.le_trans s1 s4
      obtain ⟨n, hn⟩ : ∃ n, d.length = n + 1 := ⟨d.length - 1, by omega⟩
      rw [hn, Nat.add_sub_cancel] at hmore htb
      have hn5 : n ≤ 5 := by omega
      have hnd : n < d.length := by omega
      have hgz : Bs.giZ d n = d[n] := Bs.giZ_at hnd
      rw [hgz] at hmore htb
      obtain ⟨x, hx⟩ : ∃ x, x = d[n] := ⟨_, rfl⟩
      rw [← hx] at hmore htb
      obtain ⟨K, hK⟩ : ∃ K, K = Bs.estL (d.set n (x + 1)) := ⟨_, rfl⟩
      rw [← hK] at hmore
      have hkb := Bs.estL_b (d.set n (x + 1))
      rw [← hK] at hkb
      have HM := Lib.hid hmore
      have HNN := Lib.hid hn
      have HXE := Lib.hid hx
      have HKE := Lib.hid hK
      have hw1 : IntKind.i64.wrap ((d.length : Int) - 1) = (n : Int) := by rw [show (d.length : Int) - 1 = (n : Int) from by omega]; exact IntWalk.i64_in _ ⟨by omega, by omega⟩
      have hw2 : IntKind.i64.wrap (x + 1) = x + 1 := IntWalk.i64_in _ ⟨by omega, by omega⟩
      have hw3 : IntKind.i64.wrap (V + 1) = V + 1 := IntWalk.i64_in _ ⟨by omega, by omega⟩
      have i0 : (0 : Int) ≤ (n : Int) := by omega
      have i1 : (n : Int) < (d.length : Int) := by omega
      clear hmore HV ht hal hgz hn hx hK h0
      go_wp2_with (at_builtin; go_loud (refine push_ints rfl _ _ rfl W4.heap.size (some ⟨W4.heap.size, 0, none⟩) 0 [] d rfl HO0.out A0 c0 rfl w.heap.size w1.heap.size HR.out (by simp; omega) (by simp) ?_; intro A2 c2 w2 ho2 hb2; rw [List.nil_append] at ho2; have hst := ho2.set_ hnd (x + 1); rw [← HXE.out] at hst; obtain ⟨b, rfl, hbl, hbh, hcell, hfz, hri⟩ := hst; have HRI := Lib.hid hri; have HB2 := Lib.hid (HA.out.trans (hb2.mono hsB)); have HBL := Lib.hid hbl; clear hb2 ho2 hri))
      have sb := HB2.out.size
      have c6 := EstimateOf_any (some ⟨b, 0, none⟩) c2 (d.set n (x + 1)) W4.heap.size w2.heap.size (w2.setCell ⟨b, n, none⟩ (.int .i64 (x + 1))) HRI.out (by simp) (by rw [List.length_set]; omega)
      rw [List.length_set, ← HKE.out] at c6
      have C6 := Lib.hid c6
      have HB3 := Lib.hid (HB2.out.setCell (p := ⟨b, n, none⟩) (by show w.heap.size ≤ b; have := HBL.out; omega) (.int .i64 (x + 1)))
      clear c6
      try go_wp2_with fail
      with_reducible refine (C6.out).mono ?_
      rintro e w7 ⟨rfl, hb7⟩
      have HB7 := Lib.hid (HB3.out.trans (hb7.mono HB3.out.size))
      clear hb7 C6
      rcases HM.out with hk | hk | hk
      · have z1 : decide (K < 0) = true := by simp; omega
        clear hk
        go_wp2
        go_ret
        exact ⟨rfl, HB7.out⟩
      · have z1 : decide (K < 0) = false := by simp; omega
        have z2 : (K == V) = true := by simp; omega
        clear hk
        go_wp2
        go_ret
        exact ⟨rfl, HB7.out⟩
      · have z1 : decide (K < 0) = false := by simp; omega
        have z2 : (K == V) = false := by rw [beq_eq_false_iff_ne]; omega
        have z3 : (K == V + 1) = true := by simp; omega
        clear hk
        go_wp2
        go_ret
        exact ⟨rfl, HB7.out⟩
end Go.Proofs.Ytmdmemompjpmkaa
