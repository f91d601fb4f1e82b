/-
  THE WALK OF laws.FnExactMeetsDeadline.
-/
import Derived.Test.YtfholjgndpefdaaE2
import Derived.Test.YtfholjgndpefdaaW120
import Derived.Test.YtfholjgndpefdaaR80
namespace Go.Proofs.Ytfholjgndpefdaa
open Go.RowKit
set_option linter.unusedVariables false
set_option maxHeartbeats 3200000 in
theorem fnExactMeetsDeadline_walk (A0 : Option Addr) (c0 : Nat) (g0 : List Bs.T) (A1 : Option Addr) (c1 : Nat) (l1 : List Int) (z2 : Int) (A3 : Option Addr) (c3 : Nat) (l3 : List Int) (z4 : Int) (w : World) (h0 : RG w 0 w.heap.size A0 g0) (hl0 : g0.length ≤ 9223372036854775807) (h1 : RI w 0 w.heap.size A1 l1) (hl1 : l1.length ≤ 9223372036854775807) (hz2 : (Lit.int .i64 z2).wf = true) (h3 : RI w 0 w.heap.size A3 l3) (hl3 : l3.length ≤ 9223372036854775807) (hz4 : (Lit.int .i64 z4).wf = true) :
    Calls Try.prog 9 #[.slice A0 g0.length c0, .slice A1 l1.length c1, .int .i64 z2, .slice A3 l3.length c3, .int .i64 z4] w fun e w' => e = .returned (.bool true) ∧ Below w.heap.size w w' := by
  by_cases hp1 : l1.length ≤ 1048576
  rotate_left
  · go_enter Try.func9, Try.ntmps9
    go_wp2
    go_ret
    exact ⟨rfl, Below.refl _ _⟩
  by_cases hp3 : l3.length ≤ 1048576
  rotate_left
  · go_enter Try.func9, Try.ntmps9
    go_wp2
    go_ret
    exact ⟨rfl, Below.refl _ _⟩
  have CS := Lib.hid (fun (B0 : Option Addr) (d0 : Nat) (B1 : Option Addr) (d1 : Nat) (B3 : Option Addr) (d3 : Nat) (lo0 hi0 : Nat) (lo1 hi1 : Nat) (lo3 hi3 : Nat) (W : World) (k0 : RG W lo0 hi0 B0 g0) (kk0 : hi0 ≤ W.heap.size) (k1 : RI W lo1 hi1 B1 l1) (kk1 : hi1 ≤ W.heap.size) (k3 : RI W lo3 hi3 B3 l3) (kk3 : hi3 ≤ W.heap.size) => MeetsDeadlineS_any B0 d0 g0 B1 d1 l1 B3 d3 l3 z2 z4 lo0 hi0 lo1 hi1 lo3 hi3 W k0 kk0 k1 kk1 k3 kk3 hl0 hl1 hl3)
  have CI := Lib.hid (fun (B0 : Option Addr) (d0 : Nat) (B1 : Option Addr) (d1 : Nat) (B3 : Option Addr) (d3 : Nat) (lo0 hi0 : Nat) (lo1 hi1 : Nat) (lo3 hi3 : Nat) (W : World) (k0 : RG W lo0 hi0 B0 g0) (kk0 : hi0 ≤ W.heap.size) (k1 : RI W lo1 hi1 B1 l1) (kk1 : hi1 ≤ W.heap.size) (k3 : RI W lo3 hi3 B3 l3) (kk3 : hi3 ≤ W.heap.size) => MeetsDeadline_any B0 d0 g0 B1 d1 l1 B3 d3 l3 z2 z4 lo0 hi0 lo1 hi1 lo3 hi3 W k0 kk0 k1 kk1 k3 kk3 hl0 hl1 hl3)
  have C1 := Lib.hid (szTaskS_any A0 c0 g0 1048576 0 w.heap.size w h0 (Nat.le_refl _) hl0 (by omega) (by omega))
  have K1 := Lib.hid (fun W (hb : Below w.heap.size w W) => toIntS_r A1 c1 l1 0 w.heap.size W (h1.below hb (Nat.le_refl _)) hb.size hp1)
  have K3 := Lib.hid (fun W (hb : Below w.heap.size w W) => toIntS_r A3 c3 l3 0 w.heap.size W (h3.below hb (Nat.le_refl _)) hb.size hp3)
  generalize Bs.meetB g0 l1 z2 l3 z4 = V at *
  go_enter Try.func9, Try.ntmps9
  have hb00 : Below w.heap.size w w := Below.refl _ _
  go_wp2_with fail
  with_reducible refine (C1.out).mono ?_
  rintro e w1 ⟨⟨r, rfl, hr⟩, nb1⟩
  have hb01 := nb1
  have s1 := nb1.size
  clear nb1
  by_cases hr0 : r < 0
  · go_wp2
    go_ret
    exact ⟨rfl, by exact hb01⟩
  obtain ⟨hg, hn⟩ : g0.length ≤ 1048576 ∧ ∀ t ∈ g0, t.needs.length ≤ 1048576 := by rcases hr with hr | hr; (· omega); exact hr
  have K0 := Lib.hid (fun W (hb : Below w.heap.size w W) => toTaskS_any A0 c0 g0 0 w.heap.size W (h0.below hb (Nat.le_refl _)) hb.size hg hn)
  have HN := Lib.hid hn
  clear hn hr
  go_wp2_with fail
  with_reducible refine (K0.out _ hb01).mono ?_
  rintro e w2 ⟨⟨rfl, ar0⟩, nb2, au0⟩
  have hb02 := hb01.trans (nb2.mono hb01.size)
  have s2 := nb2.size
  clear nb2
  clear au0
  go_wp2_with fail
  with_reducible refine (K1.out _ hb02).mono ?_
  rintro e w3 ⟨⟨rfl, ar1, am1⟩, nb3⟩
  have hb03 := hb02.trans (nb3.mono hb02.size)
  have s3 := nb3.size
  replace ar0 := ar0.below nb3 (by omega)
  clear nb3
  clear am1
  go_wp2_with fail
  with_reducible refine (K3.out _ hb03).mono ?_
  rintro e w4 ⟨⟨rfl, ar3, am3⟩, nb4⟩
  have hb04 := hb03.trans (nb4.mono hb03.size)
  have s4 := nb4.size
  replace ar0 := ar0.below nb4 (by omega)
  replace ar1 := ar1.below nb4 (by omega)
  clear nb4
  clear am3
  go_wp2_with fail
  with_reducible refine (CS.out _ _ _ _ _ _ _ _ _ _ _ _ w4 ar0 (by omega) ar1 (by omega) ar3 (by omega)).mono ?_
  rintro e w5 ⟨rfl, nb5⟩
  have hb05 := hb04.trans (nb5.mono hb04.size)
  have s5 := nb5.size
  replace ar0 := ar0.below nb5 (by omega)
  replace ar1 := ar1.below nb5 (by omega)
  replace ar3 := ar3.below nb5 (by omega)
  clear nb5
  clear ar0
  clear ar1
  clear ar3
  go_wp2_with fail
  with_reducible refine (K0.out _ hb05).mono ?_
  rintro e w6 ⟨⟨rfl, xr0⟩, nb6, xu0⟩
  have hb06 := hb05.trans (nb6.mono hb05.size)
  have s6 := nb6.size
  clear nb6
  clear xu0
  go_wp2_with fail
  with_reducible refine (K1.out _ hb06).mono ?_
  rintro e w7 ⟨⟨rfl, xr1, xm1⟩, nb7⟩
  have hb07 := hb06.trans (nb7.mono hb06.size)
  have s7 := nb7.size
  replace xr0 := xr0.below nb7 (by omega)
  clear nb7
  clear xm1
  go_wp2_with fail
  with_reducible refine (K3.out _ hb07).mono ?_
  rintro e w8 ⟨⟨rfl, xr3, xm3⟩, nb8⟩
  have hb08 := hb07.trans (nb8.mono hb07.size)
  have s8 := nb8.size
  replace xr0 := xr0.below nb8 (by omega)
  replace xr1 := xr1.below nb8 (by omega)
  clear nb8
  clear xm3
  go_wp2_with fail
  with_reducible refine (CI.out _ _ _ _ _ _ _ _ _ _ _ _ w8 xr0 (by omega) xr1 (by omega) xr3 (by omega)).mono ?_
  rintro e w9 ⟨rfl, nb9⟩
  have hb09 := hb08.trans (nb9.mono hb08.size)
  have s9 := nb9.size
  replace xr0 := xr0.below nb9 (by omega)
  replace xr1 := xr1.below nb9 (by omega)
  replace xr3 := xr3.below nb9 (by omega)
  clear nb9
  go_wp2_with fail
  with_reducible refine (K0.out _ hb09).mono ?_
  rintro e w10 ⟨⟨rfl, yr0⟩, nb10, yu0⟩
  have hb010 := hb09.trans (nb10.mono hb09.size)
  have s10 := nb10.size
  replace xr0 := xr0.below nb10 (by omega)
  replace xr1 := xr1.below nb10 (by omega)
  replace xr3 := xr3.below nb10 (by omega)
  clear nb10
  clear yu0
  go_wp2_with fail
  with_reducible refine (eqTaskS_any _ g0.length _ g0.length g0 _ _ _ _ w10 xr0 (by omega) yr0 (by omega) hl0).mono ?_
  rintro e w11 ⟨rfl, nb11⟩
  have hb011 := hb010.trans (nb11.mono hb010.size)
  have s11 := nb11.size
  replace xr0 := xr0.below nb11 (by omega)
  replace xr1 := xr1.below nb11 (by omega)
  replace xr3 := xr3.below nb11 (by omega)
  replace yr0 := yr0.below nb11 (by omega)
  clear nb11
  clear yr0
  go_wp2_with fail
  with_reducible refine (K1.out _ hb011).mono ?_
  rintro e w12 ⟨⟨rfl, yr1, ym1⟩, nb12⟩
  have hb012 := hb011.trans (nb12.mono hb011.size)
  have s12 := nb12.size
  replace xr0 := xr0.below nb12 (by omega)
  replace xr1 := xr1.below nb12 (by omega)
  replace xr3 := xr3.below nb12 (by omega)
  clear nb12
  clear ym1
  go_wp2_with fail
  with_reducible refine (eqIntS_same _ l1.length _ l1.length l1 _ _ _ _ w12 xr1 yr1 (by omega)).mono ?_
  rintro e w13 ⟨rfl, nb13⟩
  have hb013 := hb012.trans (nb13.mono hb012.size)
  have s13 := nb13.size
  replace xr0 := xr0.below nb13 (by omega)
  replace xr1 := xr1.below nb13 (by omega)
  replace xr3 := xr3.below nb13 (by omega)
  replace yr1 := yr1.below nb13 (by omega)
  clear nb13
  clear yr1
  go_wp2_with fail
  with_reducible refine (K3.out _ hb013).mono ?_
  rintro e w14 ⟨⟨rfl, yr3, ym3⟩, nb14⟩
  have hb014 := hb013.trans (nb14.mono hb013.size)
  have s14 := nb14.size
  replace xr0 := xr0.below nb14 (by omega)
  replace xr1 := xr1.below nb14 (by omega)
  replace xr3 := xr3.below nb14 (by omega)
  clear nb14
  clear ym3
  go_wp2_with fail
  with_reducible refine (eqIntS_same _ l3.length _ l3.length l3 _ _ _ _ w14 xr3 yr3 (by omega)).mono ?_
  rintro e w15 ⟨rfl, nb15⟩
  have hb015 := hb014.trans (nb15.mono hb014.size)
  have s15 := nb15.size
  replace xr0 := xr0.below nb15 (by omega)
  replace xr1 := xr1.below nb15 (by omega)
  replace xr3 := xr3.below nb15 (by omega)
  replace yr3 := yr3.below nb15 (by omega)
  clear nb15
  clear yr3
  go_wp2
  go_ret
  exact ⟨rfl, by exact hb015⟩
end Go.Proofs.Ytfholjgndpefdaa
