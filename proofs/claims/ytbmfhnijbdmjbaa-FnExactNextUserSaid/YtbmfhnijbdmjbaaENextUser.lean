/-
  THE WALK OF laws.FnExactNextUser.
-/
import Derived.Test.YtbmfhnijbdmjbaaE2
import Derived.Test.YtbmfhnijbdmjbaaW151
import Derived.Test.YtbmfhnijbdmjbaaW104
import Derived.Test.YtbmfhnijbdmjbaaR60
namespace Go.Proofs.Ytbmfhnijbdmjbaa
open Go.RowKit
set_option linter.unusedVariables false
set_option maxHeartbeats 3200000 in
theorem fnExactNextUser_walk (A0 : Option Addr) (c0 : Nat) (u0 : List Bs.U) (w : World) (h0 : RU w 0 w.heap.size A0 u0) (hl0 : u0.length ≤ 9223372036854775807) :
    Calls Try.prog 4 #[.slice A0 u0.length c0] w fun e w' => e = .returned (.bool true) ∧ Below w.heap.size w w' := by
  have CS := Lib.hid (fun (B0 : Option Addr) (d0 : Nat) (lo0 hi0 : Nat) (W : World) (k0 : RU W lo0 hi0 B0 u0) (kk0 : hi0 ≤ W.heap.size) => NextUserS_any B0 d0 u0 lo0 hi0 W k0 kk0 hl0)
  have CI := Lib.hid (fun (B0 : Option Addr) (d0 : Nat) (lo0 hi0 : Nat) (W : World) (k0 : RU W lo0 hi0 B0 u0) (kk0 : hi0 ≤ W.heap.size) => NextUser_any B0 d0 u0 lo0 hi0 W k0 kk0 hl0)
  generalize Bs.nextL u0 = V at *
  go_enter Try.func4, Try.ntmps4
  have hb00 : Below w.heap.size w w := Below.refl _ _
  have C90 := Lib.hid (szUserS_any A0 c0 u0 1048576 w hl0 (by omega) (by omega))
  go_wp2_with fail
  with_reducible refine (C90.out).mono ?_
  rintro e _ ⟨⟨r, rfl, hr⟩, rfl⟩
  by_cases hr0 : r < 0
  · go_wp2
    go_ret
    exact ⟨rfl, Below.refl _ _⟩
  have hu0 : u0.length ≤ 1048576 := by omega
  have K0 := Lib.hid (fun W (hb : Below w.heap.size w W) => toUserS_r A0 c0 u0 0 w.heap.size W (h0.below hb (Nat.le_refl _)) hb.size hu0)
  clear hr
  have hb00 : Below w.heap.size w w := Below.refl _ _
  go_wp2_with fail
  with_reducible refine (K0.out _ hb00).mono ?_
  rintro e w1 ⟨⟨rfl, ar0, am0⟩, nb1⟩
  have hb01 := hb00.trans (nb1.mono hb00.size)
  have s1 := nb1.size
  clear nb1
  clear am0
  go_wp2_with fail
  with_reducible refine (CS.out _ _ _ _ w1 ar0 (by omega)).mono ?_
  rintro e w2 ⟨rfl, nb2⟩
  have hb02 := hb01.trans (nb2.mono hb01.size)
  have s2 := nb2.size
  replace ar0 := ar0.below nb2 (by omega)
  clear nb2
  clear ar0
  go_wp2_with fail
  with_reducible refine (K0.out _ hb02).mono ?_
  rintro e w3 ⟨⟨rfl, xr0, xm0⟩, nb3⟩
  have hb03 := hb02.trans (nb3.mono hb02.size)
  have s3 := nb3.size
  clear nb3
  clear xm0
  go_wp2_with fail
  with_reducible refine (CI.out _ _ _ _ w3 xr0 (by omega)).mono ?_
  rintro e w4 ⟨rfl, nb4⟩
  have hb04 := hb03.trans (nb4.mono hb03.size)
  have s4 := nb4.size
  replace xr0 := xr0.below nb4 (by omega)
  clear nb4
  go_wp2_with fail
  with_reducible refine (K0.out _ hb04).mono ?_
  rintro e w5 ⟨⟨rfl, yr0, ym0⟩, nb5⟩
  have hb05 := hb04.trans (nb5.mono hb04.size)
  have s5 := nb5.size
  replace xr0 := xr0.below nb5 (by omega)
  clear nb5
  clear ym0
  go_wp2_with fail
  with_reducible refine (eqUserS_same _ u0.length _ u0.length u0 _ _ _ _ w5 xr0 (by omega) yr0 (by omega) (by omega)).mono ?_
  rintro e w6 ⟨rfl, nb6⟩
  have hb06 := hb05.trans (nb6.mono hb05.size)
  have s6 := nb6.size
  replace xr0 := xr0.below nb6 (by omega)
  replace yr0 := yr0.below nb6 (by omega)
  clear nb6
  clear yr0
  go_wp2
  go_ret
  exact ⟨rfl, by exact hb06⟩
end Go.Proofs.Ytbmfhnijbdmjbaa
