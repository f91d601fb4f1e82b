/-
  WALKS: the time that is left, progress, of the model.
-/
import Derived.Test.YtihgakbopkaemaaK4
import Derived.Test.YtihgakbopkaemaaK8
import Derived.Test.YtihgakbopkaemaaMath91
import Derived.Deep.RegionHeld3
namespace Go.Proofs.Ytihgakbopkaemaa
open Go.RowKit
theorem isInE_q (A : Option Addr) (c : Nat) (l : List Int) (n : Int) (lo hi : Nat) (w : World) (h : RI w lo hi A l) (hl : l.length ≤ 9223372036854775807) (i j : Nat) :
    Calls Try.prog 101 #[.slice A l.length c, .int .i64 n] (w.drewN (i + j)) fun e w' => e = .returned (.bool (l.contains n)) ∧ ∃ m, w' = w.drewN (i + m) :=
  (isIn_any A c l n lo hi (w.drewN (i + j)) h hl).mono fun _ _ ⟨h1, h2⟩ => ⟨h1, j, h2.symm⟩
theorem toIntE_any (b : Bool) (w : World) : Calls Try.prog 61 #[.bool b] w fun e w' => e = .returned (.int .i64 (if b then 1 else 0)) ∧ w = w' := by
  cases b
  · go_enter Try.func61, Try.ntmps61
    go_wp2
    go_ret
    exact ⟨rfl, rfl⟩
  · go_enter Try.func61, Try.ntmps61
    go_wp2
    go_ret
    exact ⟨rfl, rfl⟩
theorem toIntE_q (b : Bool) (w : World) (i j : Nat) : Calls Try.prog 61 #[.bool b] (w.drewN (i + j)) fun e w' => e = .returned (.int .i64 (if b then 1 else 0)) ∧ ∃ m, w' = w.drewN (i + m) :=
  (toIntE_any b (w.drewN (i + j))).mono fun _ _ ⟨h1, h2⟩ => ⟨h1, j, h2.symm⟩
def lmS (g : List Bs.T) (R : List Int) (k : Nat) : Int := Bs.maxL ((R.take k).map fun x => Bs.gi (Bs.tailsC g) x.toNat)
theorem lmS_succ (g : List Bs.T) (R : List Int) (k : Nat) (hk : k < R.length) : lmS g R (k + 1) = max (lmS g R k) (Bs.gi (Bs.tailsC g) R[k].toNat) := by
  unfold lmS
  rw [List.take_succ_eq_append_getElem hk, List.map_append]
  exact Bs.maxL_snoc _ _
end Go.Proofs.Ytihgakbopkaemaa
