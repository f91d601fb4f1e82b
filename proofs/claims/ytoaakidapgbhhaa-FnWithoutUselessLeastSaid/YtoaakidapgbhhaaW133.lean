/-
  STAGES: program and model side by side.
-/
import Derived.Test.YtoaakidapgbhhaaW132
import Derived.Test.YtoaakidapgbhhaaR91
namespace Go.Proofs.Ytoaakidapgbhhaa
theorem StageOf_len (g : List Bs.T) : (if Bs.valid g then Bs.levC g else []).length ≤ 1000 := by
  cases hv : Bs.valid g
  · simp
  · have h8 := Bs.fine_len (valid_fine hv)
    rw [if_pos rfl, Bs.levC_len hv]
    omega
end Go.Proofs.Ytoaakidapgbhhaa
