/-
  THE WALK OF laws.FnExactDoneBy.
-/
import Derived.Test.YteelckhkcfokhaaE2
import Derived.Test.YteelckhkcfokhaaW153
import Derived.Test.YteelckhkcfokhaaK30
import Derived.Test.YteelckhkcfokhaaR77
import Derived.Test.YteelckhkcfokhaaMath98
namespace Go.Proofs.Yteelckhkcfokhaa
open Go.RowKit
set_option linter.unusedVariables false
set_option maxHeartbeats 3200000 in
theorem fnExactDoneBy_walk (A0 : Option Addr) (c0 : Nat) (g0 : List Bs.T) (A1 : Option Addr) (c1 : Nat) (v1 : List Bs.E) (z2 : Int) (w : World) (h0 : RG w 0 w.heap.size A0 g0) (hl0 : g0.length ≤ 9223372036854775807) (h1 : RE w 0 w.heap.size A1 v1) (hl1 : v1.length ≤ 9223372036854775807) (hz2 : (Lit.int .i64 z2).wf = true) :
    Calls Try.prog 11 #[.slice A0 g0.length c0, .slice A1 v1.length c1, .int .i64 z2] w fun e w' => e = .returned (.bool true) ∧ Below w.heap.size w w' := by
  have CS := Lib.hid (fun (B0 : Option Addr) (d0 : Nat) (B1 : Option Addr) (d1 : Nat) (lo0 hi0 : Nat) (lo1 hi1 : Nat) (W : World) (k0 : RG W lo0 hi0 B0 g0) (kk0 : hi0 ≤ W.heap.size) (k1 : RE W lo1 hi1 B1 v1) (kk1 : hi1 ≤ W.heap.size) => DoneByS_any B0 d0 g0 B1 d1 v1 z2 lo0 hi0 lo1 hi1 W k0 kk0 k1 kk1 hl0 hl1)
  have CI := Lib.hid (fun (B0 : Option Addr) (d0 : Nat) (B1 : Option Addr) (d1 : Nat) (lo0 hi0 : Nat) (lo1 hi1 : Nat) (W : World) (k0 : RG W lo0 hi0 B0 g0) (kk0 : hi0 ≤ W.heap.size) (k1 : RE W lo1 hi1 B1 v1) (kk1 : hi1 ≤ W.heap.size) => DoneBy_any B0 d0 g0 B1 d1 v1 z2 lo0 hi0 lo1 hi1 W k0 kk0 k1 kk1 hl0 hl1)
  have C1 := Lib.hid (szTaskS_le A0 c0 g0 1048576 0 w.heap.size w h0 (Nat.le_refl _) hl0 (by omega) (by omega))
  have hL : (Bs.doneL g0 v1 z2).length ≤ 1000 := doneL_len1000 g0 v1 z2
  generalize Bs.doneL g0 v1 z2 = L at *
  go_enter Try.func11, Try.ntmps11
  have hb00 : Below w.heap.size w w := Below.refl _ _
  go_wp2_with fail
  with_reducible refine (C1.out).mono ?_
  rintro e w1 ⟨⟨r, rfl, hr⟩, nb1⟩
  have hb01 := nb1
  have s1 := nb1.size
  clear nb1
  by_cases hr0 : r < 0
  · go_wp2
    go_ret
    exact ⟨rfl, by exact hb01⟩
  obtain ⟨hr1, hr2, hg, hn⟩ : 0 ≤ r ∧ r ≤ 1048576 ∧ g0.length ≤ 1048576 ∧ ∀ t ∈ g0, t.needs.length ≤ 1048576 := by rcases hr with hr | hr; (· omega); exact hr
  have K0 := Lib.hid (fun W (hb : Below w.heap.size w W) => toTaskS_any A0 c0 g0 0 w.heap.size W (h0.below hb (Nat.le_refl _)) hb.size hg hn)
  have HN := Lib.hid hn
  clear hn hr
  have C91 := Lib.hid (szEventS_any A1 c1 v1 r w1 hl1 hr1 hr2)
  go_wp2_with fail
  with_reducible refine (C91.out).mono ?_
  rintro e _ ⟨⟨r9, rfl, hr9⟩, rfl⟩
  by_cases hr90 : r9 < 0
  · go_wp2
    go_ret
    exact ⟨rfl, by exact hb01⟩
  have hu1 : v1.length ≤ 1048576 := by omega
  have K1 := Lib.hid (fun W (hb : Below w.heap.size w W) => toEventS_r A1 c1 v1 0 w.heap.size W (h1.below hb (Nat.le_refl _)) hb.size hu1)
  clear hr9
  go_wp2_with fail
  with_reducible refine (K0.out _ hb01).mono ?_
  rintro e w2 ⟨⟨rfl, ar0⟩, nb2, au0⟩
  have hb02 := hb01.trans (nb2.mono hb01.size)
  have s2 := nb2.size
  clear nb2
  clear au0
  go_wp2_with fail
  with_reducible refine (K1.out _ hb02).mono ?_
  rintro e w3 ⟨⟨rfl, ar1, am1⟩, nb3⟩
  have hb03 := hb02.trans (nb3.mono hb02.size)
  have s3 := nb3.size
  replace ar0 := ar0.below nb3 (by omega)
  clear nb3
  clear am1
  go_wp2_with fail
  with_reducible refine (CS.out _ _ _ _ _ _ _ _ w3 ar0 (by omega) ar1 (by omega)).mono ?_
  rintro e w4 ⟨⟨A3, c3, rfl, ho3⟩, nb4⟩
  have hb04 := hb03.trans (nb4.mono hb03.size)
  have s4 := nb4.size
  replace ar0 := ar0.below nb4 (by omega)
  replace ar1 := ar1.below nb4 (by omega)
  clear nb4
  have q3 := ho3.ri
  clear ho3
  clear ar0
  clear ar1
  go_wp2_with fail
  with_reducible refine (K0.out _ hb04).mono ?_
  rintro e w5 ⟨⟨rfl, xr0⟩, nb5, xu0⟩
  have hb05 := hb04.trans (nb5.mono hb04.size)
  have s5 := nb5.size
  replace q3 := q3.below nb5 (by omega)
  clear nb5
  replace xu0 : ∀ p : Addr, w4.heap.size ≤ p.block → p.block < w5.heap.size → w5.frozen? p = false := fun p h _ => xu0 p h
  go_wp2_with fail
  with_reducible refine (K1.out _ hb05).mono ?_
  rintro e w6 ⟨⟨rfl, xr1, xm1⟩, nb6⟩
  have hb06 := hb05.trans (nb6.mono hb05.size)
  have s6 := nb6.size
  replace q3 := q3.below nb6 (by omega)
  replace xr0 := xr0.below nb6 (by omega)
  replace xu0 := upToB xu0 nb6 (by omega)
  clear nb6
  go_wp2_with fail
  with_reducible refine (CI.out _ _ _ _ _ _ _ _ w6 xr0 (by omega) xr1 (by omega)).mono ?_
  rintro e w7 ⟨⟨A5, c5, rfl, ho5⟩, nb7⟩
  have hb07 := hb06.trans (nb7.mono hb06.size)
  have s7 := nb7.size
  replace q3 := q3.below nb7 (by omega)
  replace xr0 := xr0.below nb7 (by omega)
  replace xu0 := upToB xu0 nb7 (by omega)
  replace xr1 := xr1.below nb7 (by omega)
  replace xm1 := xm1.below nb7 (by omega)
  clear nb7
  have q5 := ho5.ri
  have m5 := ho5.mi
  clear ho5
  go_wp2_with fail
  with_reducible refine (eqIntS_same A5 c5 A3 c3 L _ _ _ _ w7 q5 q3 (by omega)).mono ?_
  rintro e w8 ⟨rfl, nb8⟩
  have hb08 := hb07.trans (nb8.mono hb07.size)
  have s8 := nb8.size
  replace q3 := q3.below nb8 (by omega)
  replace xr0 := xr0.below nb8 (by omega)
  replace xu0 := upToB xu0 nb8 (by omega)
  replace xr1 := xr1.below nb8 (by omega)
  replace xm1 := xm1.below nb8 (by omega)
  replace q5 := q5.below nb8 (by omega)
  replace m5 := m5.below nb8 (by omega)
  clear nb8
  go_wp2_with fail
  with_reducible refine (K0.out _ hb08).mono ?_
  rintro e w9 ⟨⟨rfl, yr0⟩, nb9, yu0⟩
  have hb09 := hb08.trans (nb9.mono hb08.size)
  have s9 := nb9.size
  replace q3 := q3.below nb9 (by omega)
  replace xr0 := xr0.below nb9 (by omega)
  replace xu0 := upToB xu0 nb9 (by omega)
  replace xr1 := xr1.below nb9 (by omega)
  replace xm1 := xm1.below nb9 (by omega)
  replace q5 := q5.below nb9 (by omega)
  replace m5 := m5.below nb9 (by omega)
  clear nb9
  clear yu0
  go_wp2_with fail
  with_reducible refine (eqTaskS_any _ g0.length _ g0.length g0 _ _ _ _ w9 xr0 (by omega) yr0 (by omega) hl0).mono ?_
  rintro e w10 ⟨rfl, nb10⟩
  have hb010 := hb09.trans (nb10.mono hb09.size)
  have s10 := nb10.size
  replace q3 := q3.below nb10 (by omega)
  replace xr0 := xr0.below nb10 (by omega)
  replace xu0 := upToB xu0 nb10 (by omega)
  replace xr1 := xr1.below nb10 (by omega)
  replace xm1 := xm1.below nb10 (by omega)
  replace q5 := q5.below nb10 (by omega)
  replace m5 := m5.below nb10 (by omega)
  replace yr0 := yr0.below nb10 (by omega)
  clear nb10
  clear yr0
  go_wp2_with fail
  with_reducible refine (K1.out _ hb010).mono ?_
  rintro e w11 ⟨⟨rfl, yr1, ym1⟩, nb11⟩
  have hb011 := hb010.trans (nb11.mono hb010.size)
  have s11 := nb11.size
  replace q3 := q3.below nb11 (by omega)
  replace xr0 := xr0.below nb11 (by omega)
  replace xu0 := upToB xu0 nb11 (by omega)
  replace xr1 := xr1.below nb11 (by omega)
  replace xm1 := xm1.below nb11 (by omega)
  replace q5 := q5.below nb11 (by omega)
  replace m5 := m5.below nb11 (by omega)
  clear nb11
  clear ym1
  go_wp2_with fail
  with_reducible refine (eqEventS_same _ v1.length _ v1.length v1 _ _ _ _ w11 xr1 (by omega) yr1 (by omega) (by omega)).mono ?_
  rintro e w12 ⟨rfl, nb12⟩
  have hb012 := hb011.trans (nb12.mono hb011.size)
  have s12 := nb12.size
  replace q3 := q3.below nb12 (by omega)
  replace xr0 := xr0.below nb12 (by omega)
  replace xu0 := upToB xu0 nb12 (by omega)
  replace xr1 := xr1.below nb12 (by omega)
  replace xm1 := xm1.below nb12 (by omega)
  replace q5 := q5.below nb12 (by omega)
  replace m5 := m5.below nb12 (by omega)
  replace yr1 := yr1.below nb12 (by omega)
  clear nb12
  clear yr1
  go_wp2_with fail
  with_reducible refine (markTaskS_gb _ g0.length g0 _ _ w12 xr0 xu0 HN.out hg).mono ?_
  rintro e w13 ⟨⟨rk, rfl, hrk, hrk2⟩, nt13⟩
  have hb013 := hb012.trans (nt13.below (show w.heap.size ≤ _ by omega))
  have s13 := Nat.le_of_eq nt13.size
  have t13 := Nat.le_of_eq nt13.size.symm
  replace q3 := q3.touch nt13 (.inl (by omega))
  clear xr0
  clear xu0
  replace xr1 := xr1.touch nt13 (.inr (by omega))
  replace xm1 := xm1.touch nt13 (.inr (by omega))
  replace q5 := q5.touch nt13 (.inr (by omega))
  replace m5 := m5.touch nt13
  clear nt13
  go_wp2_with fail
  with_reducible refine (markEventS_any _ v1.length v1.length (rk) _ _ w13 xm1 (by omega) (by omega) (by omega)).mono ?_
  rintro e w14 ⟨rfl, nt14, _⟩
  have hb014 := hb013.trans (nt14.below (show w.heap.size ≤ _ by omega))
  have s14 := Nat.le_of_eq nt14.size
  have t14 := Nat.le_of_eq nt14.size.symm
  replace q3 := q3.farE nt14 (.inl (by omega))
  clear xr1
  clear xm1
  replace q5 := q5.farE nt14 (.inr (by omega))
  replace m5 := m5.farE nt14 (.inr (by omega))
  clear nt14
  have hkk : ¬ (rk + ((v1.length * 3 : Nat) : Int) : Int) < 0 := by omega
  go_wp2_with fail
  with_reducible refine (eqIntS_same A5 c5 A3 c3 L _ _ _ _ w14 q5 q3 (by omega)).mono ?_
  rintro e w15 ⟨rfl, nb15⟩
  have hb015 := hb014.trans (nb15.mono hb014.size)
  have s15 := nb15.size
  replace q3 := q3.below nb15 (by omega)
  replace q5 := q5.below nb15 (by omega)
  replace m5 := m5.below nb15 (by omega)
  clear nb15
  go_wp2_with fail
  with_reducible refine (markIntS_any A5 L.length c5 1 _ _ w15 m5 (by omega) (by omega) (by omega)).mono ?_; rintro e w16 ⟨rfl, nt16, p5⟩
  have hb016 := hb015.trans (nt16.below (show w.heap.size ≤ _ by omega))
  have s16 := Nat.le_of_eq nt16.size
  have t16 := Nat.le_of_eq nt16.size.symm
  replace q3 := q3.touch nt16 (.inl (by omega))
  clear nt16 m5 q5
  go_wp2_with fail
  with_reducible refine (heldIntS_any A5 L.length c5 1 _ _ w16 p5 (by omega) (by omega) (by omega)).mono ?_; rintro e _ ⟨rfl, rfl⟩
  go_wp2_with fail
  with_reducible refine (K0.out _ hb016).mono ?_
  rintro e w17 ⟨⟨rfl, br0⟩, nb17, bu0⟩
  have hb017 := hb016.trans (nb17.mono hb016.size)
  have s17 := nb17.size
  replace q3 := q3.below nb17 (by omega)
  replace p5 := p5.below nb17 (by omega)
  clear nb17
  clear bu0
  go_wp2_with fail
  with_reducible refine (K1.out _ hb017).mono ?_
  rintro e w18 ⟨⟨rfl, br1, bm1⟩, nb18⟩
  have hb018 := hb017.trans (nb18.mono hb017.size)
  have s18 := nb18.size
  replace q3 := q3.below nb18 (by omega)
  replace p5 := p5.below nb18 (by omega)
  replace br0 := br0.below nb18 (by omega)
  clear nb18
  clear bm1
  go_wp2_with fail
  with_reducible refine (CI.out _ _ _ _ _ _ _ _ w18 br0 (by omega) br1 (by omega)).mono ?_
  rintro e w19 ⟨⟨A13, c13, rfl, ho13⟩, nb19⟩
  have hb019 := hb018.trans (nb19.mono hb018.size)
  have s19 := nb19.size
  replace q3 := q3.below nb19 (by omega)
  replace p5 := p5.below nb19 (by omega)
  replace br0 := br0.below nb19 (by omega)
  replace br1 := br1.below nb19 (by omega)
  clear nb19
  have q13 := ho13.ri
  clear ho13
  clear br0
  clear br1
  go_wp2_with fail
  with_reducible refine (eqIntS_same A13 c13 A3 c3 L _ _ _ _ w19 q13 q3 (by omega)).mono ?_
  rintro e w20 ⟨rfl, nb20⟩
  have hb020 := hb019.trans (nb20.mono hb019.size)
  have s20 := nb20.size
  replace q3 := q3.below nb20 (by omega)
  replace p5 := p5.below nb20 (by omega)
  replace q13 := q13.below nb20 (by omega)
  clear nb20
  go_wp2_with fail
  with_reducible refine (heldIntS_any A5 L.length c5 1 _ _ w20 p5 (by omega) (by omega) (by omega)).mono ?_; rintro e _ ⟨rfl, rfl⟩
  go_wp2
  go_ret
  exact ⟨rfl, by exact hb020⟩
end Go.Proofs.Yteelckhkcfokhaa
