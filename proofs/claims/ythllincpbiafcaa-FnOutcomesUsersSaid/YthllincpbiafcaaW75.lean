/-
  WALKS: how many tasks have an outcome, who is to blame, of the program.
-/
import Derived.Test.YthllincpbiafcaaW74
import Derived.Test.YthllincpbiafcaaMath61
import Derived.Test.YthllincpbiafcaaK5
namespace Go.Proofs.Ythllincpbiafcaa
open Go.RowKit
theorem outL_len1000 (g : List Bs.T) (F : List Int) (keep : Int) : (Bs.outL g F keep).length ≤ 1000 := by
  cases hc : Bs.canF g F keep
  · rw [Bs.outL_no hc]; simp
  · have := Bs.fine_len (valid_fine (Bs.canF_iff.1 hc).1)
    have := Bs.outL_len g F keep
    omega
end Go.Proofs.Ythllincpbiafcaa
