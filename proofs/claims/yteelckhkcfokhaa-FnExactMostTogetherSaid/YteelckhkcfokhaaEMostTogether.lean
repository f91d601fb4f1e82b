/-
  THE WALK OF laws.FnExactMostTogether.
-/
import Derived.Test.YteelckhkcfokhaaE2
import Derived.Test.YteelckhkcfokhaaW153
import Derived.Test.YteelckhkcfokhaaK30
import Derived.Test.YteelckhkcfokhaaK29
namespace Go.Proofs.Yteelckhkcfokhaa
open Go.RowKit
set_option linter.unusedVariables false
set_option maxHeartbeats 3200000 in
theorem fnExactMostTogether_walk (A0 : Option Addr) (c0 : Nat) (g0 : List Bs.T) (A1 : Option Addr) (c1 : Nat) (v1 : List Bs.E) (w : World) (h0 : RG w 0 w.heap.size A0 g0) (hl0 : g0.length ≤ 9223372036854775807) (h1 : RE w 0 w.heap.size A1 v1) (hl1 : v1.length ≤ 9223372036854775807) :
    Calls Try.prog 13 #[.slice A0 g0.length c0, .slice A1 v1.length c1] w fun e w' => e = .returned (.bool true) ∧ Below w.heap.size w w' := by
  have CS := Lib.hid (fun (B0 : Option Addr) (d0 : Nat) (B1 : Option Addr) (d1 : Nat) (lo0 hi0 : Nat) (lo1 hi1 : Nat) (W : World) (k0 : RG W lo0 hi0 B0 g0) (kk0 : hi0 ≤ W.heap.size) (k1 : RE W lo1 hi1 B1 v1) (kk1 : hi1 ≤ W.heap.size) => MostTogetherS_any B0 d0 g0 B1 d1 v1 lo0 hi0 lo1 hi1 W k0 kk0 k1 kk1 hl0 hl1)
  have CI := Lib.hid (fun (B0 : Option Addr) (d0 : Nat) (B1 : Option Addr) (d1 : Nat) (lo0 hi0 : Nat) (lo1 hi1 : Nat) (W : World) (k0 : RG W lo0 hi0 B0 g0) (kk0 : hi0 ≤ W.heap.size) (k1 : RE W lo1 hi1 B1 v1) (kk1 : hi1 ≤ W.heap.size) => MostTogether_any B0 d0 g0 B1 d1 v1 lo0 hi0 lo1 hi1 W k0 kk0 k1 kk1 hl0 hl1)
  have C1 := Lib.hid (szTaskS_le A0 c0 g0 1048576 0 w.heap.size w h0 (Nat.le_refl _) hl0 (by omega) (by omega))
  generalize Bs.mtL g0 v1 = V at *
  go_enter Try.func13, Try.ntmps13
  have hb00 : Below w.heap.size w w := Below.refl _ _
  go_wp2_with fail
  with_reducible refine (C1.out).mono ?_
  rintro e w1 ⟨⟨r, rfl, hr⟩, nb1⟩
  have hb01 := nb1
  have s1 := nb1.size
  clear nb1
  by_cases hr0 : r < 0
  · go_wp2
    go_ret
    exact ⟨rfl, by exact hb01⟩
  obtain ⟨hr1, hr2, hg, hn⟩ : 0 ≤ r ∧ r ≤ 1048576 ∧ g0.length ≤ 1048576 ∧ ∀ t ∈ g0, t.needs.length ≤ 1048576 := by rcases hr with hr | hr; (· omega); exact hr
  have K0 := Lib.hid (fun W (hb : Below w.heap.size w W) => toTaskS_any A0 c0 g0 0 w.heap.size W (h0.below hb (Nat.le_refl _)) hb.size hg hn)
  have HN := Lib.hid hn
  clear hn hr
  have C91 := Lib.hid (szEventS_any A1 c1 v1 r w1 hl1 hr1 hr2)
  go_wp2_with fail
  with_reducible refine (C91.out).mono ?_
  rintro e _ ⟨⟨r9, rfl, hr9⟩, rfl⟩
  by_cases hr90 : r9 < 0
  · go_wp2
    go_ret
    exact ⟨rfl, by exact hb01⟩
  have hu1 : v1.length ≤ 1048576 := by omega
  have K1 := Lib.hid (fun W (hb : Below w.heap.size w W) => toEventS_r A1 c1 v1 0 w.heap.size W (h1.below hb (Nat.le_refl _)) hb.size hu1)
  clear hr9
  go_wp2_with fail
  with_reducible refine (K0.out _ hb01).mono ?_
  rintro e w2 ⟨⟨rfl, ar0⟩, nb2, au0⟩
  have hb02 := hb01.trans (nb2.mono hb01.size)
  have s2 := nb2.size
  clear nb2
  clear au0
  go_wp2_with fail
  with_reducible refine (K1.out _ hb02).mono ?_
  rintro e w3 ⟨⟨rfl, ar1, am1⟩, nb3⟩
  have hb03 := hb02.trans (nb3.mono hb02.size)
  have s3 := nb3.size
  replace ar0 := ar0.below nb3 (by omega)
  clear nb3
  clear am1
  go_wp2_with fail
  with_reducible refine (CS.out _ _ _ _ _ _ _ _ w3 ar0 (by omega) ar1 (by omega)).mono ?_
  rintro e w4 ⟨rfl, nb4⟩
  have hb04 := hb03.trans (nb4.mono hb03.size)
  have s4 := nb4.size
  replace ar0 := ar0.below nb4 (by omega)
  replace ar1 := ar1.below nb4 (by omega)
  clear nb4
  clear ar0
  clear ar1
  go_wp2_with fail
  with_reducible refine (K0.out _ hb04).mono ?_
  rintro e w5 ⟨⟨rfl, xr0⟩, nb5, xu0⟩
  have hb05 := hb04.trans (nb5.mono hb04.size)
  have s5 := nb5.size
  clear nb5
  clear xu0
  go_wp2_with fail
  with_reducible refine (K1.out _ hb05).mono ?_
  rintro e w6 ⟨⟨rfl, xr1, xm1⟩, nb6⟩
  have hb06 := hb05.trans (nb6.mono hb05.size)
  have s6 := nb6.size
  replace xr0 := xr0.below nb6 (by omega)
  clear nb6
  clear xm1
  go_wp2_with fail
  with_reducible refine (CI.out _ _ _ _ _ _ _ _ w6 xr0 (by omega) xr1 (by omega)).mono ?_
  rintro e w7 ⟨rfl, nb7⟩
  have hb07 := hb06.trans (nb7.mono hb06.size)
  have s7 := nb7.size
  replace xr0 := xr0.below nb7 (by omega)
  replace xr1 := xr1.below nb7 (by omega)
  clear nb7
  go_wp2_with fail
  with_reducible refine (K0.out _ hb07).mono ?_
  rintro e w8 ⟨⟨rfl, yr0⟩, nb8, yu0⟩
  have hb08 := hb07.trans (nb8.mono hb07.size)
  have s8 := nb8.size
  replace xr0 := xr0.below nb8 (by omega)
  replace xr1 := xr1.below nb8 (by omega)
  clear nb8
  clear yu0
  go_wp2_with fail
  with_reducible refine (eqTaskS_any _ g0.length _ g0.length g0 _ _ _ _ w8 xr0 (by omega) yr0 (by omega) hl0).mono ?_
  rintro e w9 ⟨rfl, nb9⟩
  have hb09 := hb08.trans (nb9.mono hb08.size)
  have s9 := nb9.size
  replace xr0 := xr0.below nb9 (by omega)
  replace xr1 := xr1.below nb9 (by omega)
  replace yr0 := yr0.below nb9 (by omega)
  clear nb9
  clear yr0
  go_wp2_with fail
  with_reducible refine (K1.out _ hb09).mono ?_
  rintro e w10 ⟨⟨rfl, yr1, ym1⟩, nb10⟩
  have hb010 := hb09.trans (nb10.mono hb09.size)
  have s10 := nb10.size
  replace xr0 := xr0.below nb10 (by omega)
  replace xr1 := xr1.below nb10 (by omega)
  clear nb10
  clear ym1
  go_wp2_with fail
  with_reducible refine (eqEventS_same _ v1.length _ v1.length v1 _ _ _ _ w10 xr1 (by omega) yr1 (by omega) (by omega)).mono ?_
  rintro e w11 ⟨rfl, nb11⟩
  have hb011 := hb010.trans (nb11.mono hb010.size)
  have s11 := nb11.size
  replace xr0 := xr0.below nb11 (by omega)
  replace xr1 := xr1.below nb11 (by omega)
  replace yr1 := yr1.below nb11 (by omega)
  clear nb11
  clear yr1
  go_wp2
  go_ret
  exact ⟨rfl, by exact hb011⟩
end Go.Proofs.Yteelckhkcfokhaa
