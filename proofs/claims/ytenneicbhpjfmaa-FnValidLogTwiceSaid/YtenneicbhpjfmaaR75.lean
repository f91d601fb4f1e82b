/-
  WALKS: valid logs, of the model: the function itself.
-/
import Derived.Test.YtenneicbhpjfmaaR73
namespace Go.Proofs.Ytenneicbhpjfmaa
open Go.RowKit
theorem ValidLogS_any (A : Option Addr) (c : Nat) (g : List Bs.T) (A1 : Option Addr) (c1 : Nat) (l : List Bs.E) (lo hi l1 h1 : Nat) (w : World) (h : RG w lo hi A g) (hh : hi ≤ w.heap.size) (hm : RE w l1 h1 A1 l) (hh1 : h1 ≤ w.heap.size) (hl : g.length ≤ 9223372036854775807) (hll : l.length ≤ 9223372036854775807) :
    Calls Try.prog 17 #[.slice A g.length c, .slice A1 l.length c1] w fun e w' => e = .returned (.bool (Bs.logV g l)) ∧ Below w.heap.size w w' := by
  have C1 := Lib.hid (validLogS_any A c g A1 c1 l lo hi l1 h1 w h hh hm hh1 hl hll)
  clear h hm
  generalize Bs.logV g l = v at *
  go_enter Try.func17, Try.ntmps17
  go_wp2_with fail
  with_reducible refine (C1.out).mono ?_
  rintro e w1 ⟨rfl, hb⟩
  go_wp2
  go_ret
  exact ⟨rfl, hb⟩
end Go.Proofs.Ytenneicbhpjfmaa
