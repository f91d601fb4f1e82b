/-
  WALKS: used units, what runs together, of the program.
-/
import Derived.Test.YtlanlcdbcblfjaaW36
namespace Go.Proofs.Ytlanlcdbcblfjaa
open Go.RowKit
theorem used_list (g : List Bs.T) (r : List Int) (h : Bs.valid g = true) (h2 : Bs.inG g r = true) : Bs.usedL g r = [Bs.usedC g r 0, Bs.usedC g r 1, Bs.usedC g r 2] := by
  unfold Bs.usedL
  rw [h, h2]
  simp [List.range_succ]
end Go.Proofs.Ytlanlcdbcblfjaa
