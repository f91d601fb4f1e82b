/-
  WALKS: head times of the model, the whole function.
-/
import Derived.Test.YtoaakidapgbhhaaW15
namespace Go.Proofs.Ytoaakidapgbhhaa
open Go.RowKit
theorem HeadTimes_len (g : List Bs.T) : (if Bs.valid g then Bs.headsC g else []).length ≤ 1000 := by
  split
  · rename_i h
    have h1 := Bs.fine_len (valid_fine h)
    have h2 := (Bs.headsK_mid (valid_fine h) _ (Nat.le_refl _)).len
    unfold Bs.headsC
    omega
  · simp
end Go.Proofs.Ytoaakidapgbhhaa
