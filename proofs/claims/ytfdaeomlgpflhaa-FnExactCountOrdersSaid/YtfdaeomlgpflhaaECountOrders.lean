/-
  THE WALK OF laws.FnExactCountOrders.
-/
import Derived.Test.YtfdaeomlgpflhaaE2
import Derived.Test.YtfdaeomlgpflhaaW60
import Derived.Test.YtfdaeomlgpflhaaR30
namespace Go.Proofs.Ytfdaeomlgpflhaa
open Go.RowKit
set_option linter.unusedVariables false
set_option maxHeartbeats 3200000 in
theorem fnExactCountOrders_walk (A0 : Option Addr) (c0 : Nat) (g0 : List Bs.T) (w : World) (h0 : RG w 0 w.heap.size A0 g0) (hl0 : g0.length ≤ 9223372036854775807) :
    Calls Try.prog 11 #[.slice A0 g0.length c0] w fun e w' => e = .returned (.bool true) ∧ Below w.heap.size w w' := by
  have CS := Lib.hid (fun (B0 : Option Addr) (d0 : Nat) (lo0 hi0 : Nat) (W : World) (k0 : RG W lo0 hi0 B0 g0) (kk0 : hi0 ≤ W.heap.size) => CountOrdersS_any B0 d0 g0 lo0 hi0 W k0 kk0 hl0)
  have CI := Lib.hid (fun (B0 : Option Addr) (d0 : Nat) (lo0 hi0 : Nat) (W : World) (k0 : RG W lo0 hi0 B0 g0) (kk0 : hi0 ≤ W.heap.size) => CountOrders_any B0 d0 g0 lo0 hi0 W k0 kk0 hl0)
  have C1 := Lib.hid (szTaskS_any A0 c0 g0 1048576 0 w.heap.size w h0 (Nat.le_refl _) hl0 (by omega) (by omega))
  generalize Bs.cntC g0 = V at *
  go_enter Try.func11, Try.ntmps11
  have hb00 : Below w.heap.size w w := Below.refl _ _
  go_wp2_with fail
  with_reducible refine (C1.out).mono ?_
  rintro e w1 ⟨⟨r, rfl, hr⟩, nb1⟩
  have hb01 := nb1
  have s1 := nb1.size
  clear nb1
  by_cases hr0 : r < 0
  · go_wp2
    go_ret
    exact ⟨rfl, by exact hb01⟩
  obtain ⟨hg, hn⟩ : g0.length ≤ 1048576 ∧ ∀ t ∈ g0, t.needs.length ≤ 1048576 := by rcases hr with hr | hr; (· omega); exact hr
  have K0 := Lib.hid (fun W (hb : Below w.heap.size w W) => toTaskS_any A0 c0 g0 0 w.heap.size W (h0.below hb (Nat.le_refl _)) hb.size hg hn)
  have HN := Lib.hid hn
  clear hn hr
  go_wp2_with fail
  with_reducible refine (K0.out _ hb01).mono ?_
  rintro e w2 ⟨⟨rfl, ar0⟩, nb2, au0⟩
  have hb02 := hb01.trans (nb2.mono hb01.size)
  have s2 := nb2.size
  clear nb2
  clear au0
  go_wp2_with fail
  with_reducible refine (CS.out _ _ _ _ w2 ar0 (by omega)).mono ?_
  rintro e w3 ⟨rfl, nb3⟩
  have hb03 := hb02.trans (nb3.mono hb02.size)
  have s3 := nb3.size
  replace ar0 := ar0.below nb3 (by omega)
  clear nb3
  clear ar0
  go_wp2_with fail
  with_reducible refine (K0.out _ hb03).mono ?_
  rintro e w4 ⟨⟨rfl, xr0⟩, nb4, xu0⟩
  have hb04 := hb03.trans (nb4.mono hb03.size)
  have s4 := nb4.size
  clear nb4
  clear xu0
  go_wp2_with fail
  with_reducible refine (CI.out _ _ _ _ w4 xr0 (by omega)).mono ?_
  rintro e w5 ⟨rfl, nb5⟩
  have hb05 := hb04.trans (nb5.mono hb04.size)
  have s5 := nb5.size
  replace xr0 := xr0.below nb5 (by omega)
  clear nb5
  go_wp2_with fail
  with_reducible refine (K0.out _ hb05).mono ?_
  rintro e w6 ⟨⟨rfl, yr0⟩, nb6, yu0⟩
  have hb06 := hb05.trans (nb6.mono hb05.size)
  have s6 := nb6.size
  replace xr0 := xr0.below nb6 (by omega)
  clear nb6
  clear yu0
  go_wp2_with fail
  with_reducible refine (eqTaskS_any _ g0.length _ g0.length g0 _ _ _ _ w6 xr0 (by omega) yr0 (by omega) hl0).mono ?_
  rintro e w7 ⟨rfl, nb7⟩
  have hb07 := hb06.trans (nb7.mono hb06.size)
  have s7 := nb7.size
  replace xr0 := xr0.below nb7 (by omega)
  replace yr0 := yr0.below nb7 (by omega)
  clear nb7
  clear yr0
  go_wp2
  go_ret
  exact ⟨rfl, by exact hb07⟩
end Go.Proofs.Ytfdaeomlgpflhaa
