/-
  WALKS: the least time, of the program.
-/
import Derived.Test.YtihgakbopkaemaaK14
import Derived.Test.YtihgakbopkaemaaK27
import Derived.Test.YtihgakbopkaemaaK8
namespace Go.Proofs.Ytihgakbopkaemaa
open Go.RowKit
def leastK (g : List Bs.T) (m : List Int) (wk : Int) : Nat → Int
  | 0 => max (longC g) ((Bs.sumT g + wk - 1) / wk)
  | k + 1 => max (leastK g m wk k) (Bs.poolT g k (Bs.giZ m k))
def leastL (g : List Bs.T) (m : List Int) (wk : Int) : Int := if Bs.canV g m wk then leastK g m wk 3 else -1
theorem leastL_no {g : List Bs.T} {m : List Int} {wk : Int} (h : Bs.canV g m wk = false) : leastL g m wk = -1 := by unfold leastL; rw [h]; rfl
theorem leastL_yes {g : List Bs.T} {m : List Int} {wk : Int} (h : Bs.canV g m wk = true) : leastL g m wk = leastK g m wk 3 := by unfold leastL; rw [h]; rfl
end Go.Proofs.Ytihgakbopkaemaa
