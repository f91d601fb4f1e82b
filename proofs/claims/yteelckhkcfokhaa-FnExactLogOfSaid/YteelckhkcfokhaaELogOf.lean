/-
  THE WALK OF laws.FnExactLogOf.
-/
import Derived.Test.YteelckhkcfokhaaE2
import Derived.Test.YteelckhkcfokhaaW153
import Derived.Test.YteelckhkcfokhaaW119
import Derived.Test.YteelckhkcfokhaaK29
namespace Go.Proofs.Yteelckhkcfokhaa
open Go.RowKit
set_option linter.unusedVariables false
set_option maxHeartbeats 3200000 in
theorem fnExactLogOf_walk (A0 : Option Addr) (c0 : Nat) (g0 : List Bs.T) (A1 : Option Addr) (c1 : Nat) (l1 : List Int) (z2 : Int) (A3 : Option Addr) (c3 : Nat) (l3 : List Int) (w : World) (h0 : RG w 0 w.heap.size A0 g0) (hl0 : g0.length ≤ 9223372036854775807) (h1 : RI w 0 w.heap.size A1 l1) (hl1 : l1.length ≤ 9223372036854775807) (hz2 : (Lit.int .i64 z2).wf = true) (h3 : RI w 0 w.heap.size A3 l3) (hl3 : l3.length ≤ 9223372036854775807) :
    Calls Try.prog 10 #[.slice A0 g0.length c0, .slice A1 l1.length c1, .int .i64 z2, .slice A3 l3.length c3] w fun e w' => e = .returned (.bool true) ∧ Below w.heap.size w w' := by
  by_cases hp1 : l1.length ≤ 1048576
  rotate_left
  · go_enter Try.func10, Try.ntmps10
    go_wp2
    go_ret
    exact ⟨rfl, Below.refl _ _⟩
  by_cases hp3 : l3.length ≤ 1048576
  rotate_left
  · go_enter Try.func10, Try.ntmps10
    go_wp2
    go_ret
    exact ⟨rfl, Below.refl _ _⟩
  have CS := Lib.hid (fun (B0 : Option Addr) (d0 : Nat) (B1 : Option Addr) (d1 : Nat) (B3 : Option Addr) (d3 : Nat) (lo0 hi0 : Nat) (lo1 hi1 : Nat) (lo3 hi3 : Nat) (W : World) (k0 : RG W lo0 hi0 B0 g0) (kk0 : hi0 ≤ W.heap.size) (k1 : RI W lo1 hi1 B1 l1) (kk1 : hi1 ≤ W.heap.size) (k3 : RI W lo3 hi3 B3 l3) (kk3 : hi3 ≤ W.heap.size) => LogOfS_any B0 d0 g0 B1 d1 l1 B3 d3 l3 z2 lo0 hi0 lo1 hi1 lo3 hi3 W k0 kk0 k1 kk1 k3 kk3 hl0 hl1 hl3)
  have CI := Lib.hid (fun (B0 : Option Addr) (d0 : Nat) (B1 : Option Addr) (d1 : Nat) (B3 : Option Addr) (d3 : Nat) (lo0 hi0 : Nat) (lo1 hi1 : Nat) (lo3 hi3 : Nat) (W : World) (k0 : RG W lo0 hi0 B0 g0) (kk0 : hi0 ≤ W.heap.size) (k1 : RI W lo1 hi1 B1 l1) (kk1 : hi1 ≤ W.heap.size) (k3 : RI W lo3 hi3 B3 l3) (kk3 : hi3 ≤ W.heap.size) => LogOf_any B0 d0 g0 B1 d1 l1 B3 d3 l3 z2 lo0 hi0 lo1 hi1 lo3 hi3 W k0 kk0 k1 kk1 k3 kk3 hl0 hl1 hl3)
  have C1 := Lib.hid (szTaskS_any A0 c0 g0 1048576 0 w.heap.size w h0 (Nat.le_refl _) hl0 (by omega) (by omega))
  have K1 := Lib.hid (fun W (hb : Below w.heap.size w W) => toIntS_r A1 c1 l1 0 w.heap.size W (h1.below hb (Nat.le_refl _)) hb.size hp1)
  have K3 := Lib.hid (fun W (hb : Below w.heap.size w W) => toIntS_r A3 c3 l3 0 w.heap.size W (h3.below hb (Nat.le_refl _)) hb.size hp3)
  have hL : (Bs.logL g0 l1 z2 l3).length ≤ 4000 := logL_len4000 g0 l1 z2 l3
  generalize Bs.logL g0 l1 z2 l3 = L at *
  go_enter Try.func10, Try.ntmps10
  have hb00 : Below w.heap.size w w := Below.refl _ _
  go_wp2_with fail
  with_reducible refine (C1.out).mono ?_
  rintro e w1 ⟨⟨r, rfl, hr⟩, nb1⟩
  have hb01 := nb1
  have s1 := nb1.size
  clear nb1
  by_cases hr0 : r < 0
  · go_wp2
    go_ret
    exact ⟨rfl, by exact hb01⟩
  obtain ⟨hg, hn⟩ : g0.length ≤ 1048576 ∧ ∀ t ∈ g0, t.needs.length ≤ 1048576 := by rcases hr with hr | hr; (· omega); exact hr
  have K0 := Lib.hid (fun W (hb : Below w.heap.size w W) => toTaskS_any A0 c0 g0 0 w.heap.size W (h0.below hb (Nat.le_refl _)) hb.size hg hn)
  have HN := Lib.hid hn
  clear hn hr
  go_wp2_with fail
  with_reducible refine (K0.out _ hb01).mono ?_
  rintro e w2 ⟨⟨rfl, ar0⟩, nb2, au0⟩
  have hb02 := hb01.trans (nb2.mono hb01.size)
  have s2 := nb2.size
  clear nb2
  clear au0
  go_wp2_with fail
  with_reducible refine (K1.out _ hb02).mono ?_
  rintro e w3 ⟨⟨rfl, ar1, am1⟩, nb3⟩
  have hb03 := hb02.trans (nb3.mono hb02.size)
  have s3 := nb3.size
  replace ar0 := ar0.below nb3 (by omega)
  clear nb3
  clear am1
  go_wp2_with fail
  with_reducible refine (K3.out _ hb03).mono ?_
  rintro e w4 ⟨⟨rfl, ar3, am3⟩, nb4⟩
  have hb04 := hb03.trans (nb4.mono hb03.size)
  have s4 := nb4.size
  replace ar0 := ar0.below nb4 (by omega)
  replace ar1 := ar1.below nb4 (by omega)
  clear nb4
  clear am3
  go_wp2_with fail
  with_reducible refine (CS.out _ _ _ _ _ _ _ _ _ _ _ _ w4 ar0 (by omega) ar1 (by omega) ar3 (by omega)).mono ?_
  rintro e w5 ⟨⟨A3, c3, rfl, ho3⟩, nb5⟩
  have hb05 := hb04.trans (nb5.mono hb04.size)
  have s5 := nb5.size
  replace ar0 := ar0.below nb5 (by omega)
  replace ar1 := ar1.below nb5 (by omega)
  replace ar3 := ar3.below nb5 (by omega)
  clear nb5
  have q3 := ho3.re
  clear ho3
  clear ar0
  clear ar1
  clear ar3
  go_wp2_with fail
  with_reducible refine (K0.out _ hb05).mono ?_
  rintro e w6 ⟨⟨rfl, xr0⟩, nb6, xu0⟩
  have hb06 := hb05.trans (nb6.mono hb05.size)
  have s6 := nb6.size
  replace q3 := q3.below nb6 (by omega)
  clear nb6
  replace xu0 : ∀ p : Addr, w5.heap.size ≤ p.block → p.block < w6.heap.size → w6.frozen? p = false := fun p h _ => xu0 p h
  go_wp2_with fail
  with_reducible refine (K1.out _ hb06).mono ?_
  rintro e w7 ⟨⟨rfl, xr1, xm1⟩, nb7⟩
  have hb07 := hb06.trans (nb7.mono hb06.size)
  have s7 := nb7.size
  replace q3 := q3.below nb7 (by omega)
  replace xr0 := xr0.below nb7 (by omega)
  replace xu0 := upToB xu0 nb7 (by omega)
  clear nb7
  go_wp2_with fail
  with_reducible refine (K3.out _ hb07).mono ?_
  rintro e w8 ⟨⟨rfl, xr3, xm3⟩, nb8⟩
  have hb08 := hb07.trans (nb8.mono hb07.size)
  have s8 := nb8.size
  replace q3 := q3.below nb8 (by omega)
  replace xr0 := xr0.below nb8 (by omega)
  replace xu0 := upToB xu0 nb8 (by omega)
  replace xr1 := xr1.below nb8 (by omega)
  replace xm1 := xm1.below nb8 (by omega)
  clear nb8
  go_wp2_with fail
  with_reducible refine (CI.out _ _ _ _ _ _ _ _ _ _ _ _ w8 xr0 (by omega) xr1 (by omega) xr3 (by omega)).mono ?_
  rintro e w9 ⟨⟨A5, c5, rfl, ho5⟩, nb9⟩
  have hb09 := hb08.trans (nb9.mono hb08.size)
  have s9 := nb9.size
  replace q3 := q3.below nb9 (by omega)
  replace xr0 := xr0.below nb9 (by omega)
  replace xu0 := upToB xu0 nb9 (by omega)
  replace xr1 := xr1.below nb9 (by omega)
  replace xm1 := xm1.below nb9 (by omega)
  replace xr3 := xr3.below nb9 (by omega)
  replace xm3 := xm3.below nb9 (by omega)
  clear nb9
  have q5 := ho5.re
  have m5 := ho5.me
  clear ho5
  go_wp2_with fail
  with_reducible refine (eqEventS_same A5 c5 A3 c3 L _ _ _ _ w9 q5 (by omega) q3 (by omega) (by omega)).mono ?_
  rintro e w10 ⟨rfl, nb10⟩
  have hb010 := hb09.trans (nb10.mono hb09.size)
  have s10 := nb10.size
  replace q3 := q3.below nb10 (by omega)
  replace xr0 := xr0.below nb10 (by omega)
  replace xu0 := upToB xu0 nb10 (by omega)
  replace xr1 := xr1.below nb10 (by omega)
  replace xm1 := xm1.below nb10 (by omega)
  replace xr3 := xr3.below nb10 (by omega)
  replace xm3 := xm3.below nb10 (by omega)
  replace q5 := q5.below nb10 (by omega)
  replace m5 := m5.below nb10 (by omega)
  clear nb10
  go_wp2_with fail
  with_reducible refine (K0.out _ hb010).mono ?_
  rintro e w11 ⟨⟨rfl, yr0⟩, nb11, yu0⟩
  have hb011 := hb010.trans (nb11.mono hb010.size)
  have s11 := nb11.size
  replace q3 := q3.below nb11 (by omega)
  replace xr0 := xr0.below nb11 (by omega)
  replace xu0 := upToB xu0 nb11 (by omega)
  replace xr1 := xr1.below nb11 (by omega)
  replace xm1 := xm1.below nb11 (by omega)
  replace xr3 := xr3.below nb11 (by omega)
  replace xm3 := xm3.below nb11 (by omega)
  replace q5 := q5.below nb11 (by omega)
  replace m5 := m5.below nb11 (by omega)
  clear nb11
  clear yu0
  go_wp2_with fail
  with_reducible refine (eqTaskS_any _ g0.length _ g0.length g0 _ _ _ _ w11 xr0 (by omega) yr0 (by omega) hl0).mono ?_
  rintro e w12 ⟨rfl, nb12⟩
  have hb012 := hb011.trans (nb12.mono hb011.size)
  have s12 := nb12.size
  replace q3 := q3.below nb12 (by omega)
  replace xr0 := xr0.below nb12 (by omega)
  replace xu0 := upToB xu0 nb12 (by omega)
  replace xr1 := xr1.below nb12 (by omega)
  replace xm1 := xm1.below nb12 (by omega)
  replace xr3 := xr3.below nb12 (by omega)
  replace xm3 := xm3.below nb12 (by omega)
  replace q5 := q5.below nb12 (by omega)
  replace m5 := m5.below nb12 (by omega)
  replace yr0 := yr0.below nb12 (by omega)
  clear nb12
  clear yr0
  go_wp2_with fail
  with_reducible refine (K1.out _ hb012).mono ?_
  rintro e w13 ⟨⟨rfl, yr1, ym1⟩, nb13⟩
  have hb013 := hb012.trans (nb13.mono hb012.size)
  have s13 := nb13.size
  replace q3 := q3.below nb13 (by omega)
  replace xr0 := xr0.below nb13 (by omega)
  replace xu0 := upToB xu0 nb13 (by omega)
  replace xr1 := xr1.below nb13 (by omega)
  replace xm1 := xm1.below nb13 (by omega)
  replace xr3 := xr3.below nb13 (by omega)
  replace xm3 := xm3.below nb13 (by omega)
  replace q5 := q5.below nb13 (by omega)
  replace m5 := m5.below nb13 (by omega)
  clear nb13
  clear ym1
  go_wp2_with fail
  with_reducible refine (eqIntS_same _ l1.length _ l1.length l1 _ _ _ _ w13 xr1 yr1 (by omega)).mono ?_
  rintro e w14 ⟨rfl, nb14⟩
  have hb014 := hb013.trans (nb14.mono hb013.size)
  have s14 := nb14.size
  replace q3 := q3.below nb14 (by omega)
  replace xr0 := xr0.below nb14 (by omega)
  replace xu0 := upToB xu0 nb14 (by omega)
  replace xr1 := xr1.below nb14 (by omega)
  replace xm1 := xm1.below nb14 (by omega)
  replace xr3 := xr3.below nb14 (by omega)
  replace xm3 := xm3.below nb14 (by omega)
  replace q5 := q5.below nb14 (by omega)
  replace m5 := m5.below nb14 (by omega)
  replace yr1 := yr1.below nb14 (by omega)
  clear nb14
  clear yr1
  go_wp2_with fail
  with_reducible refine (K3.out _ hb014).mono ?_
  rintro e w15 ⟨⟨rfl, yr3, ym3⟩, nb15⟩
  have hb015 := hb014.trans (nb15.mono hb014.size)
  have s15 := nb15.size
  replace q3 := q3.below nb15 (by omega)
  replace xr0 := xr0.below nb15 (by omega)
  replace xu0 := upToB xu0 nb15 (by omega)
  replace xr1 := xr1.below nb15 (by omega)
  replace xm1 := xm1.below nb15 (by omega)
  replace xr3 := xr3.below nb15 (by omega)
  replace xm3 := xm3.below nb15 (by omega)
  replace q5 := q5.below nb15 (by omega)
  replace m5 := m5.below nb15 (by omega)
  clear nb15
  clear ym3
  go_wp2_with fail
  with_reducible refine (eqIntS_same _ l3.length _ l3.length l3 _ _ _ _ w15 xr3 yr3 (by omega)).mono ?_
  rintro e w16 ⟨rfl, nb16⟩
  have hb016 := hb015.trans (nb16.mono hb015.size)
  have s16 := nb16.size
  replace q3 := q3.below nb16 (by omega)
  replace xr0 := xr0.below nb16 (by omega)
  replace xu0 := upToB xu0 nb16 (by omega)
  replace xr1 := xr1.below nb16 (by omega)
  replace xm1 := xm1.below nb16 (by omega)
  replace xr3 := xr3.below nb16 (by omega)
  replace xm3 := xm3.below nb16 (by omega)
  replace q5 := q5.below nb16 (by omega)
  replace m5 := m5.below nb16 (by omega)
  replace yr3 := yr3.below nb16 (by omega)
  clear nb16
  clear yr3
  go_wp2_with fail
  with_reducible refine (markTaskS_gb _ g0.length g0 _ _ w16 xr0 xu0 HN.out hg).mono ?_
  rintro e w17 ⟨⟨rk, rfl, hrk, hrk2⟩, nt17⟩
  have hb017 := hb016.trans (nt17.below (show w.heap.size ≤ _ by omega))
  have s17 := Nat.le_of_eq nt17.size
  have t17 := Nat.le_of_eq nt17.size.symm
  replace q3 := q3.touch nt17 (.inl (by omega))
  clear xr0
  clear xu0
  replace xr1 := xr1.touch nt17 (.inr (by omega))
  replace xm1 := xm1.touch nt17
  replace xr3 := xr3.touch nt17 (.inr (by omega))
  replace xm3 := xm3.touch nt17
  replace q5 := q5.touch nt17 (.inr (by omega))
  replace m5 := m5.touch nt17 (.inr (by omega))
  clear nt17
  go_wp2_with fail
  with_reducible refine (markIntS_any _ l1.length l1.length (rk) _ _ w17 xm1 (by omega) (by omega) (by omega)).mono ?_
  rintro e w18 ⟨rfl, nt18, _⟩
  have hb018 := hb017.trans (nt18.below (show w.heap.size ≤ _ by omega))
  have s18 := Nat.le_of_eq nt18.size
  have t18 := Nat.le_of_eq nt18.size.symm
  replace q3 := q3.touch nt18 (.inl (by omega))
  clear xr1
  replace xm1 := xm1.touch nt18
  replace xr3 := xr3.touch nt18 (.inr (by omega))
  replace xm3 := xm3.touch nt18
  replace q5 := q5.touch nt18 (.inr (by omega))
  replace m5 := m5.touch nt18 (.inr (by omega))
  clear nt18
  clear xm1
  go_wp2_with fail
  with_reducible refine (markIntS_any _ l3.length l3.length (rk + l1.length) _ _ w18 xm3 (by omega) (by omega) (by omega)).mono ?_
  rintro e w19 ⟨rfl, nt19, _⟩
  have hb019 := hb018.trans (nt19.below (show w.heap.size ≤ _ by omega))
  have s19 := Nat.le_of_eq nt19.size
  have t19 := Nat.le_of_eq nt19.size.symm
  replace q3 := q3.touch nt19 (.inl (by omega))
  clear xr3
  replace xm3 := xm3.touch nt19
  replace q5 := q5.touch nt19 (.inr (by omega))
  replace m5 := m5.touch nt19 (.inr (by omega))
  clear nt19
  clear xm3
  have hkk : ¬ (rk + l1.length + l3.length : Int) < 0 := by omega
  go_wp2_with fail
  with_reducible refine (eqEventS_same A5 c5 A3 c3 L _ _ _ _ w19 q5 (by omega) q3 (by omega) (by omega)).mono ?_
  rintro e w20 ⟨rfl, nb20⟩
  have hb020 := hb019.trans (nb20.mono hb019.size)
  have s20 := nb20.size
  replace q3 := q3.below nb20 (by omega)
  replace q5 := q5.below nb20 (by omega)
  replace m5 := m5.below nb20 (by omega)
  clear nb20
  go_wp2_with fail
  with_reducible refine (markEventS_any A5 L.length c5 1 _ _ w20 m5 (by omega) (by omega) (by omega)).mono ?_; rintro e w21 ⟨rfl, nt21, p5⟩
  have hb021 := hb020.trans (nt21.below (show w.heap.size ≤ _ by omega))
  have s21 := Nat.le_of_eq nt21.size
  have t21 := Nat.le_of_eq nt21.size.symm
  replace q3 := q3.farE nt21 (.inl (by omega))
  clear nt21 m5 q5
  go_wp2_with fail
  with_reducible refine (heldEventS_any A5 L.length c5 1 _ _ w21 p5 (by omega) (by omega) (by omega)).mono ?_; rintro e _ ⟨rfl, rfl⟩
  go_wp2_with fail
  with_reducible refine (K0.out _ hb021).mono ?_
  rintro e w22 ⟨⟨rfl, br0⟩, nb22, bu0⟩
  have hb022 := hb021.trans (nb22.mono hb021.size)
  have s22 := nb22.size
  replace q3 := q3.below nb22 (by omega)
  replace p5 := p5.below nb22 (by omega)
  clear nb22
  clear bu0
  go_wp2_with fail
  with_reducible refine (K1.out _ hb022).mono ?_
  rintro e w23 ⟨⟨rfl, br1, bm1⟩, nb23⟩
  have hb023 := hb022.trans (nb23.mono hb022.size)
  have s23 := nb23.size
  replace q3 := q3.below nb23 (by omega)
  replace p5 := p5.below nb23 (by omega)
  replace br0 := br0.below nb23 (by omega)
  clear nb23
  clear bm1
  go_wp2_with fail
  with_reducible refine (K3.out _ hb023).mono ?_
  rintro e w24 ⟨⟨rfl, br3, bm3⟩, nb24⟩
  have hb024 := hb023.trans (nb24.mono hb023.size)
  have s24 := nb24.size
  replace q3 := q3.below nb24 (by omega)
  replace p5 := p5.below nb24 (by omega)
  replace br0 := br0.below nb24 (by omega)
  replace br1 := br1.below nb24 (by omega)
  clear nb24
  clear bm3
  go_wp2_with fail
  with_reducible refine (CI.out _ _ _ _ _ _ _ _ _ _ _ _ w24 br0 (by omega) br1 (by omega) br3 (by omega)).mono ?_
  rintro e w25 ⟨⟨A13, c13, rfl, ho13⟩, nb25⟩
  have hb025 := hb024.trans (nb25.mono hb024.size)
  have s25 := nb25.size
  replace q3 := q3.below nb25 (by omega)
  replace p5 := p5.below nb25 (by omega)
  replace br0 := br0.below nb25 (by omega)
  replace br1 := br1.below nb25 (by omega)
  replace br3 := br3.below nb25 (by omega)
  clear nb25
  have q13 := ho13.re
  clear ho13
  clear br0
  clear br1
  clear br3
  go_wp2_with fail
  with_reducible refine (eqEventS_same A13 c13 A3 c3 L _ _ _ _ w25 q13 (by omega) q3 (by omega) (by omega)).mono ?_
  rintro e w26 ⟨rfl, nb26⟩
  have hb026 := hb025.trans (nb26.mono hb025.size)
  have s26 := nb26.size
  replace q3 := q3.below nb26 (by omega)
  replace p5 := p5.below nb26 (by omega)
  replace q13 := q13.below nb26 (by omega)
  clear nb26
  go_wp2_with fail
  with_reducible refine (heldEventS_any A5 L.length c5 1 _ _ w26 p5 (by omega) (by omega) (by omega)).mono ?_; rintro e _ ⟨rfl, rfl⟩
  go_wp2
  go_ret
  exact ⟨rfl, by exact hb026⟩
end Go.Proofs.Yteelckhkcfokhaa
