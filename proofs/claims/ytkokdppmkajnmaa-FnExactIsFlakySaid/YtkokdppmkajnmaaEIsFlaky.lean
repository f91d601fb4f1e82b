/-
  THE WALK OF laws.FnExactIsFlaky.
-/
import Derived.Test.YtkokdppmkajnmaaW71
import Derived.Test.YtkokdppmkajnmaaR40
namespace Go.Proofs.Ytkokdppmkajnmaa
open Go.RowKit
set_option linter.unusedVariables false
set_option maxHeartbeats 1600000 in
theorem fnExactIsFlaky_walk (A0 : Option Addr) (c0 : Nat) (g0 : List Bool) (z1 : Int) (w : World) (h0 : RL w 0 w.heap.size A0 g0) (hl0 : g0.length ≤ 9223372036854775807) (_hz1 : (Lit.int .i64 z1).wf = true) :
    Calls Try.prog 9 #[.slice A0 g0.length c0, .int .i64 z1] w fun e w' => e = .returned (.bool true) ∧ Below w.heap.size w w' := by
  by_cases hp0 : g0.length ≤ 1048576
  rotate_left
  · go_enter Try.func9, Try.ntmps9
    go_wp2
    go_ret
    exact ⟨rfl, Below.refl _ _⟩
  have CS := Lib.hid (fun (B0 : Option Addr) (d0 : Nat) (lo0 hi0 : Nat) (W : World) (k0 : RL W lo0 hi0 B0 g0) (kk0 : hi0 ≤ W.heap.size) => IsFlakyS_any B0 d0 g0 z1 lo0 hi0 W k0 kk0 hl0)
  have CI := Lib.hid (fun (B0 : Option Addr) (d0 : Nat) (lo0 hi0 : Nat) (W : World) (k0 : RL W lo0 hi0 B0 g0) (kk0 : hi0 ≤ W.heap.size) => IsFlaky_any B0 d0 g0 z1 lo0 hi0 W k0 kk0 hl0)
  have K0 := Lib.hid (fun W (hb : Below w.heap.size w W) => toBoolS_r A0 c0 g0 0 w.heap.size W (h0.below hb (Nat.le_refl _)) hb.size hp0)
  generalize Bs.flakB g0 z1 = V at *
  cases V
  · go_enter Try.func9, Try.ntmps9
    go_wp2_with fail
    with_reducible refine (K0.out _ (Below.refl _ _)).mono ?_
    rintro e w1 ⟨⟨rfl, ar0⟩, nb1⟩
    have hb01 := nb1
    have s1 := nb1.size
    clear nb1
    go_wp2_with fail
    with_reducible refine (CS.out _ _ _ _ w1 ar0 (by omega)).mono ?_
    rintro e _ ⟨rfl, rfl⟩
    clear ar0
    go_wp2_with fail
    with_reducible refine (K0.out _ hb01).mono ?_
    rintro e w4 ⟨⟨rfl, xr0⟩, nb4⟩
    have hb04 := hb01.trans (nb4.mono hb01.size)
    have s4 := nb4.size
    clear nb4
    go_wp2_with fail
    with_reducible refine (CI.out _ _ _ _ w4 xr0 (by omega)).mono ?_
    rintro e w5 ⟨rfl, nb5⟩
    have hb05 := hb04.trans (nb5.mono hb04.size)
    have s5 := nb5.size
    replace xr0 := xr0.below nb5 (by omega)
    clear nb5
    go_wp2_with fail
    with_reducible refine (K0.out _ hb05).mono ?_
    rintro e w6 ⟨⟨rfl, yr0⟩, nb6⟩
    have hb06 := hb05.trans (nb6.mono hb05.size)
    have s6 := nb6.size
    replace xr0 := xr0.below nb6 (by omega)
    clear nb6
    go_wp2_with fail
    with_reducible refine (eqBoolS_same _ g0.length _ g0.length g0 _ _ _ _ w6 xr0 yr0 (by omega)).mono ?_
    rintro e w7 ⟨rfl, nb7⟩
    have hb07 := hb06.trans (nb7.mono hb06.size)
    clear nb7
    go_wp2
    go_ret
    exact ⟨rfl, by exact hb07⟩
  · go_enter Try.func9, Try.ntmps9
    go_wp2_with fail
    with_reducible refine (K0.out _ (Below.refl _ _)).mono ?_
    rintro e w1 ⟨⟨rfl, ar0⟩, nb1⟩
    have hb01 := nb1
    have s1 := nb1.size
    clear nb1
    go_wp2_with fail
    with_reducible refine (CS.out _ _ _ _ w1 ar0 (by omega)).mono ?_
    rintro e _ ⟨rfl, rfl⟩
    clear ar0
    go_wp2_with fail
    with_reducible refine (K0.out _ hb01).mono ?_
    rintro e w4 ⟨⟨rfl, xr0⟩, nb4⟩
    have hb04 := hb01.trans (nb4.mono hb01.size)
    have s4 := nb4.size
    clear nb4
    go_wp2_with fail
    with_reducible refine (CI.out _ _ _ _ w4 xr0 (by omega)).mono ?_
    rintro e w5 ⟨rfl, nb5⟩
    have hb05 := hb04.trans (nb5.mono hb04.size)
    have s5 := nb5.size
    replace xr0 := xr0.below nb5 (by omega)
    clear nb5
    go_wp2_with fail
    with_reducible refine (K0.out _ hb05).mono ?_
    rintro e w6 ⟨⟨rfl, yr0⟩, nb6⟩
    have hb06 := hb05.trans (nb6.mono hb05.size)
    have s6 := nb6.size
    replace xr0 := xr0.below nb6 (by omega)
    clear nb6
    go_wp2_with fail
    with_reducible refine (eqBoolS_same _ g0.length _ g0.length g0 _ _ _ _ w6 xr0 yr0 (by omega)).mono ?_
    rintro e w7 ⟨rfl, nb7⟩
    have hb07 := hb06.trans (nb7.mono hb06.size)
    clear nb7
    go_wp2
    go_ret
    exact ⟨rfl, by exact hb07⟩
end Go.Proofs.Ytkokdppmkajnmaa
