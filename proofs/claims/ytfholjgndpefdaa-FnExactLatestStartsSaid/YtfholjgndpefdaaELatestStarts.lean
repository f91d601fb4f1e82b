/-
  THE WALK OF laws.FnExactLatestStarts.
-/
import Derived.Test.YtfholjgndpefdaaE2
import Derived.Test.YtfholjgndpefdaaW121
import Derived.Test.YtfholjgndpefdaaR81
import Derived.Test.YtfholjgndpefdaaMath121
namespace Go.Proofs.Ytfholjgndpefdaa
open Go.RowKit
set_option linter.unusedVariables false
set_option maxHeartbeats 3200000 in
theorem fnExactLatestStarts_walk (A0 : Option Addr) (c0 : Nat) (g0 : List Bs.T) (z1 : Int) (w : World) (h0 : RG w 0 w.heap.size A0 g0) (hl0 : g0.length ≤ 9223372036854775807) (hz1 : (Lit.int .i64 z1).wf = true) :
    Calls Try.prog 7 #[.slice A0 g0.length c0, .int .i64 z1] w fun e w' => e = .returned (.bool true) ∧ Below w.heap.size w w' := by
  have CS := Lib.hid (fun (B0 : Option Addr) (d0 : Nat) (lo0 hi0 : Nat) (W : World) (k0 : RG W lo0 hi0 B0 g0) (kk0 : hi0 ≤ W.heap.size) => LatestStartsS_any B0 d0 g0 z1 lo0 hi0 W k0 kk0 hl0)
  have CI := Lib.hid (fun (B0 : Option Addr) (d0 : Nat) (lo0 hi0 : Nat) (W : World) (k0 : RG W lo0 hi0 B0 g0) (kk0 : hi0 ≤ W.heap.size) => LatestStarts_any B0 d0 g0 z1 lo0 hi0 W k0 kk0 hl0)
  have C1 := Lib.hid (szTaskS_any A0 c0 g0 1048576 0 w.heap.size w h0 (Nat.le_refl _) hl0 (by omega) (by omega))
  have hL : (Bs.latL g0 z1).length ≤ 1000 := (Nat.le_trans (Bs.latL_len g0 z1) (by decide))
  generalize Bs.latL g0 z1 = L at *
  go_enter Try.func7, Try.ntmps7
  have hb00 : Below w.heap.size w w := Below.refl _ _
  go_wp2_with fail
  with_reducible refine (C1.out).mono ?_
  rintro e w1 ⟨⟨r, rfl, hr⟩, nb1⟩
  have hb01 := nb1
  have s1 := nb1.size
  clear nb1
  by_cases hr0 : r < 0
  · go_wp2
    go_ret
    exact ⟨rfl, by exact hb01⟩
  obtain ⟨hg, hn⟩ : g0.length ≤ 1048576 ∧ ∀ t ∈ g0, t.needs.length ≤ 1048576 := by rcases hr with hr | hr; (· omega); exact hr
  have K0 := Lib.hid (fun W (hb : Below w.heap.size w W) => toTaskS_any A0 c0 g0 0 w.heap.size W (h0.below hb (Nat.le_refl _)) hb.size hg hn)
  have HN := Lib.hid hn
  clear hn hr
  go_wp2_with fail
  with_reducible refine (K0.out _ hb01).mono ?_
  rintro e w2 ⟨⟨rfl, ar0⟩, nb2, au0⟩
  have hb02 := hb01.trans (nb2.mono hb01.size)
  have s2 := nb2.size
  clear nb2
  clear au0
  go_wp2_with fail
  with_reducible refine (CS.out _ _ _ _ w2 ar0 (by omega)).mono ?_
  rintro e w3 ⟨⟨A3, c3, rfl, ho3⟩, nb3⟩
  have hb03 := hb02.trans (nb3.mono hb02.size)
  have s3 := nb3.size
  replace ar0 := ar0.below nb3 (by omega)
  clear nb3
  have q3 := ho3.ri
  clear ho3
  clear ar0
  go_wp2_with fail
  with_reducible refine (K0.out _ hb03).mono ?_
  rintro e w4 ⟨⟨rfl, xr0⟩, nb4, xu0⟩
  have hb04 := hb03.trans (nb4.mono hb03.size)
  have s4 := nb4.size
  replace q3 := q3.below nb4 (by omega)
  clear nb4
  replace xu0 : ∀ p : Addr, w3.heap.size ≤ p.block → p.block < w4.heap.size → w4.frozen? p = false := fun p h _ => xu0 p h
  go_wp2_with fail
  with_reducible refine (CI.out _ _ _ _ w4 xr0 (by omega)).mono ?_
  rintro e w5 ⟨⟨A5, c5, rfl, ho5⟩, nb5⟩
  have hb05 := hb04.trans (nb5.mono hb04.size)
  have s5 := nb5.size
  replace q3 := q3.below nb5 (by omega)
  replace xr0 := xr0.below nb5 (by omega)
  replace xu0 := upToB xu0 nb5 (by omega)
  clear nb5
  have q5 := ho5.ri
  have m5 := ho5.mi
  clear ho5
  go_wp2_with fail
  with_reducible refine (eqIntS_same A5 c5 A3 c3 L _ _ _ _ w5 q5 q3 (by omega)).mono ?_
  rintro e w6 ⟨rfl, nb6⟩
  have hb06 := hb05.trans (nb6.mono hb05.size)
  have s6 := nb6.size
  replace q3 := q3.below nb6 (by omega)
  replace xr0 := xr0.below nb6 (by omega)
  replace xu0 := upToB xu0 nb6 (by omega)
  replace q5 := q5.below nb6 (by omega)
  replace m5 := m5.below nb6 (by omega)
  clear nb6
  go_wp2_with fail
  with_reducible refine (K0.out _ hb06).mono ?_
  rintro e w7 ⟨⟨rfl, yr0⟩, nb7, yu0⟩
  have hb07 := hb06.trans (nb7.mono hb06.size)
  have s7 := nb7.size
  replace q3 := q3.below nb7 (by omega)
  replace xr0 := xr0.below nb7 (by omega)
  replace xu0 := upToB xu0 nb7 (by omega)
  replace q5 := q5.below nb7 (by omega)
  replace m5 := m5.below nb7 (by omega)
  clear nb7
  clear yu0
  go_wp2_with fail
  with_reducible refine (eqTaskS_any _ g0.length _ g0.length g0 _ _ _ _ w7 xr0 (by omega) yr0 (by omega) hl0).mono ?_
  rintro e w8 ⟨rfl, nb8⟩
  have hb08 := hb07.trans (nb8.mono hb07.size)
  have s8 := nb8.size
  replace q3 := q3.below nb8 (by omega)
  replace xr0 := xr0.below nb8 (by omega)
  replace xu0 := upToB xu0 nb8 (by omega)
  replace q5 := q5.below nb8 (by omega)
  replace m5 := m5.below nb8 (by omega)
  replace yr0 := yr0.below nb8 (by omega)
  clear nb8
  clear yr0
  go_wp2_with fail
  with_reducible refine (markTaskS_gb _ g0.length g0 _ _ w8 xr0 xu0 HN.out hg).mono ?_
  rintro e w9 ⟨⟨rk, rfl, hrk, hrk2⟩, nt9⟩
  have hb09 := hb08.trans (nt9.below (show w.heap.size ≤ _ by omega))
  have s9 := Nat.le_of_eq nt9.size
  have t9 := Nat.le_of_eq nt9.size.symm
  replace q3 := q3.touch nt9 (.inl (by omega))
  clear xr0
  clear xu0
  replace q5 := q5.touch nt9 (.inr (by omega))
  replace m5 := m5.touch nt9
  clear nt9
  have hkk : ¬ (rk : Int) < 0 := by omega
  go_wp2_with fail
  with_reducible refine (eqIntS_same A5 c5 A3 c3 L _ _ _ _ w9 q5 q3 (by omega)).mono ?_
  rintro e w10 ⟨rfl, nb10⟩
  have hb010 := hb09.trans (nb10.mono hb09.size)
  have s10 := nb10.size
  replace q3 := q3.below nb10 (by omega)
  replace q5 := q5.below nb10 (by omega)
  replace m5 := m5.below nb10 (by omega)
  clear nb10
  go_wp2_with fail
  with_reducible refine (markIntS_any A5 L.length c5 1 _ _ w10 m5 (by omega) (by omega) (by omega)).mono ?_; rintro e w11 ⟨rfl, nt11, p5⟩
  have hb011 := hb010.trans (nt11.below (show w.heap.size ≤ _ by omega))
  have s11 := Nat.le_of_eq nt11.size
  have t11 := Nat.le_of_eq nt11.size.symm
  replace q3 := q3.touch nt11 (.inl (by omega))
  clear nt11 m5 q5
  go_wp2_with fail
  with_reducible refine (heldIntS_any A5 L.length c5 1 _ _ w11 p5 (by omega) (by omega) (by omega)).mono ?_; rintro e _ ⟨rfl, rfl⟩
  go_wp2_with fail
  with_reducible refine (K0.out _ hb011).mono ?_
  rintro e w12 ⟨⟨rfl, br0⟩, nb12, bu0⟩
  have hb012 := hb011.trans (nb12.mono hb011.size)
  have s12 := nb12.size
  replace q3 := q3.below nb12 (by omega)
  replace p5 := p5.below nb12 (by omega)
  clear nb12
  clear bu0
  go_wp2_with fail
  with_reducible refine (CI.out _ _ _ _ w12 br0 (by omega)).mono ?_
  rintro e w13 ⟨⟨A13, c13, rfl, ho13⟩, nb13⟩
  have hb013 := hb012.trans (nb13.mono hb012.size)
  have s13 := nb13.size
  replace q3 := q3.below nb13 (by omega)
  replace p5 := p5.below nb13 (by omega)
  replace br0 := br0.below nb13 (by omega)
  clear nb13
  have q13 := ho13.ri
  clear ho13
  clear br0
  go_wp2_with fail
  with_reducible refine (eqIntS_same A13 c13 A3 c3 L _ _ _ _ w13 q13 q3 (by omega)).mono ?_
  rintro e w14 ⟨rfl, nb14⟩
  have hb014 := hb013.trans (nb14.mono hb013.size)
  have s14 := nb14.size
  replace q3 := q3.below nb14 (by omega)
  replace p5 := p5.below nb14 (by omega)
  replace q13 := q13.below nb14 (by omega)
  clear nb14
  go_wp2_with fail
  with_reducible refine (heldIntS_any A5 L.length c5 1 _ _ w14 p5 (by omega) (by omega) (by omega)).mono ?_; rintro e _ ⟨rfl, rfl⟩
  go_wp2
  go_ret
  exact ⟨rfl, by exact hb014⟩
end Go.Proofs.Ytfholjgndpefdaa
