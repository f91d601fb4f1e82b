/-
  THE WALK OF laws.FnExactFairParts.
-/
import Derived.Test.YtbmfhnijbdmjbaaE2
import Derived.Test.YtbmfhnijbdmjbaaW151
import Derived.Test.YtbmfhnijbdmjbaaW105
import Derived.Test.YtbmfhnijbdmjbaaR61
namespace Go.Proofs.Ytbmfhnijbdmjbaa
open Go.RowKit
set_option linter.unusedVariables false
set_option maxHeartbeats 3200000 in
theorem fnExactFairParts_walk (A0 : Option Addr) (c0 : Nat) (u0 : List Bs.U) (z1 : Int) (w : World) (h0 : RU w 0 w.heap.size A0 u0) (hl0 : u0.length ≤ 9223372036854775807) (hz1 : (Lit.int .i64 z1).wf = true) :
    Calls Try.prog 7 #[.slice A0 u0.length c0, .int .i64 z1] w fun e w' => e = .returned (.bool true) ∧ Below w.heap.size w w' := by
  have CS := Lib.hid (fun (B0 : Option Addr) (d0 : Nat) (lo0 hi0 : Nat) (W : World) (k0 : RU W lo0 hi0 B0 u0) (kk0 : hi0 ≤ W.heap.size) => FairPartsS_any B0 d0 u0 z1 lo0 hi0 W k0 kk0 hl0)
  have CI := Lib.hid (fun (B0 : Option Addr) (d0 : Nat) (lo0 hi0 : Nat) (W : World) (k0 : RU W lo0 hi0 B0 u0) (kk0 : hi0 ≤ W.heap.size) => FairParts_any B0 d0 u0 z1 lo0 hi0 W k0 kk0 hl0)
  have hL : (Bs.partL u0 z1).length ≤ 1000 := partL_len1000 u0 z1
  generalize Bs.partL u0 z1 = L at *
  go_enter Try.func7, Try.ntmps7
  have hb00 : Below w.heap.size w w := Below.refl _ _
  have C90 := Lib.hid (szUserS_any A0 c0 u0 1048576 w hl0 (by omega) (by omega))
  go_wp2_with fail
  with_reducible refine (C90.out).mono ?_
  rintro e _ ⟨⟨r, rfl, hr⟩, rfl⟩
  by_cases hr0 : r < 0
  · go_wp2
    go_ret
    exact ⟨rfl, Below.refl _ _⟩
  have hu0 : u0.length ≤ 1048576 := by omega
  have K0 := Lib.hid (fun W (hb : Below w.heap.size w W) => toUserS_r A0 c0 u0 0 w.heap.size W (h0.below hb (Nat.le_refl _)) hb.size hu0)
  clear hr
  have hb00 : Below w.heap.size w w := Below.refl _ _
  go_wp2_with fail
  with_reducible refine (K0.out _ hb00).mono ?_
  rintro e w1 ⟨⟨rfl, ar0, am0⟩, nb1⟩
  have hb01 := hb00.trans (nb1.mono hb00.size)
  have s1 := nb1.size
  clear nb1
  clear am0
  go_wp2_with fail
  with_reducible refine (CS.out _ _ _ _ w1 ar0 (by omega)).mono ?_
  rintro e w2 ⟨⟨A3, c3, rfl, ho3⟩, nb2⟩
  have hb02 := hb01.trans (nb2.mono hb01.size)
  have s2 := nb2.size
  replace ar0 := ar0.below nb2 (by omega)
  clear nb2
  have q3 := ho3.ri
  clear ho3
  clear ar0
  go_wp2_with fail
  with_reducible refine (K0.out _ hb02).mono ?_
  rintro e w3 ⟨⟨rfl, xr0, xm0⟩, nb3⟩
  have hb03 := hb02.trans (nb3.mono hb02.size)
  have s3 := nb3.size
  replace q3 := q3.below nb3 (by omega)
  clear nb3
  go_wp2_with fail
  with_reducible refine (CI.out _ _ _ _ w3 xr0 (by omega)).mono ?_
  rintro e w4 ⟨⟨A5, c5, rfl, ho5⟩, nb4⟩
  have hb04 := hb03.trans (nb4.mono hb03.size)
  have s4 := nb4.size
  replace q3 := q3.below nb4 (by omega)
  replace xr0 := xr0.below nb4 (by omega)
  replace xm0 := xm0.below nb4 (by omega)
  clear nb4
  have q5 := ho5.ri
  have m5 := ho5.mi
  clear ho5
  go_wp2_with fail
  with_reducible refine (eqIntS_same A5 c5 A3 c3 L _ _ _ _ w4 q5 q3 (by omega)).mono ?_
  rintro e w5 ⟨rfl, nb5⟩
  have hb05 := hb04.trans (nb5.mono hb04.size)
  have s5 := nb5.size
  replace q3 := q3.below nb5 (by omega)
  replace xr0 := xr0.below nb5 (by omega)
  replace xm0 := xm0.below nb5 (by omega)
  replace q5 := q5.below nb5 (by omega)
  replace m5 := m5.below nb5 (by omega)
  clear nb5
  go_wp2_with fail
  with_reducible refine (K0.out _ hb05).mono ?_
  rintro e w6 ⟨⟨rfl, yr0, ym0⟩, nb6⟩
  have hb06 := hb05.trans (nb6.mono hb05.size)
  have s6 := nb6.size
  replace q3 := q3.below nb6 (by omega)
  replace xr0 := xr0.below nb6 (by omega)
  replace xm0 := xm0.below nb6 (by omega)
  replace q5 := q5.below nb6 (by omega)
  replace m5 := m5.below nb6 (by omega)
  clear nb6
  clear ym0
  go_wp2_with fail
  with_reducible refine (eqUserS_same _ u0.length _ u0.length u0 _ _ _ _ w6 xr0 (by omega) yr0 (by omega) (by omega)).mono ?_
  rintro e w7 ⟨rfl, nb7⟩
  have hb07 := hb06.trans (nb7.mono hb06.size)
  have s7 := nb7.size
  replace q3 := q3.below nb7 (by omega)
  replace xr0 := xr0.below nb7 (by omega)
  replace xm0 := xm0.below nb7 (by omega)
  replace q5 := q5.below nb7 (by omega)
  replace m5 := m5.below nb7 (by omega)
  replace yr0 := yr0.below nb7 (by omega)
  clear nb7
  clear yr0
  go_wp2_with fail
  with_reducible refine (markUserS_any _ u0.length u0.length (1) _ _ w7 xm0 (by omega) (by omega) (by omega)).mono ?_
  rintro e w8 ⟨rfl, nt8, _⟩
  have hb08 := hb07.trans (nt8.below (show w.heap.size ≤ _ by omega))
  have s8 := Nat.le_of_eq nt8.size
  have t8 := Nat.le_of_eq nt8.size.symm
  replace q3 := q3.touch nt8 (.inl (by omega))
  clear xr0
  replace xm0 := xm0.touch nt8
  replace q5 := q5.touch nt8 (.inr (by omega))
  replace m5 := m5.touch nt8
  clear nt8
  clear xm0
  have hkk : ¬ (1 + ((u0.length * 3 : Nat) : Int) : Int) < 0 := by omega
  go_wp2_with fail
  with_reducible refine (eqIntS_same A5 c5 A3 c3 L _ _ _ _ w8 q5 q3 (by omega)).mono ?_
  rintro e w9 ⟨rfl, nb9⟩
  have hb09 := hb08.trans (nb9.mono hb08.size)
  have s9 := nb9.size
  replace q3 := q3.below nb9 (by omega)
  replace q5 := q5.below nb9 (by omega)
  replace m5 := m5.below nb9 (by omega)
  clear nb9
  go_wp2_with fail
  with_reducible refine (markIntS_any A5 L.length c5 1 _ _ w9 m5 (by omega) (by omega) (by omega)).mono ?_; rintro e w10 ⟨rfl, nt10, p5⟩
  have hb010 := hb09.trans (nt10.below (show w.heap.size ≤ _ by omega))
  have s10 := Nat.le_of_eq nt10.size
  have t10 := Nat.le_of_eq nt10.size.symm
  replace q3 := q3.touch nt10 (.inl (by omega))
  clear nt10 m5 q5
  go_wp2_with fail
  with_reducible refine (heldIntS_any A5 L.length c5 1 _ _ w10 p5 (by omega) (by omega) (by omega)).mono ?_; rintro e _ ⟨rfl, rfl⟩
  go_wp2_with fail
  with_reducible refine (K0.out _ hb010).mono ?_
  rintro e w11 ⟨⟨rfl, br0, bm0⟩, nb11⟩
  have hb011 := hb010.trans (nb11.mono hb010.size)
  have s11 := nb11.size
  replace q3 := q3.below nb11 (by omega)
  replace p5 := p5.below nb11 (by omega)
  clear nb11
  clear bm0
  go_wp2_with fail
  with_reducible refine (CI.out _ _ _ _ w11 br0 (by omega)).mono ?_
  rintro e w12 ⟨⟨A13, c13, rfl, ho13⟩, nb12⟩
  have hb012 := hb011.trans (nb12.mono hb011.size)
  have s12 := nb12.size
  replace q3 := q3.below nb12 (by omega)
  replace p5 := p5.below nb12 (by omega)
  replace br0 := br0.below nb12 (by omega)
  clear nb12
  have q13 := ho13.ri
  clear ho13
  clear br0
  go_wp2_with fail
  with_reducible refine (eqIntS_same A13 c13 A3 c3 L _ _ _ _ w12 q13 q3 (by omega)).mono ?_
  rintro e w13 ⟨rfl, nb13⟩
  have hb013 := hb012.trans (nb13.mono hb012.size)
  have s13 := nb13.size
  replace q3 := q3.below nb13 (by omega)
  replace p5 := p5.below nb13 (by omega)
  replace q13 := q13.below nb13 (by omega)
  clear nb13
  go_wp2_with fail
  with_reducible refine (heldIntS_any A5 L.length c5 1 _ _ w13 p5 (by omega) (by omega) (by omega)).mono ?_; rintro e _ ⟨rfl, rfl⟩
  go_wp2
  go_ret
  exact ⟨rfl, by exact hb013⟩
end Go.Proofs.Ytbmfhnijbdmjbaa
