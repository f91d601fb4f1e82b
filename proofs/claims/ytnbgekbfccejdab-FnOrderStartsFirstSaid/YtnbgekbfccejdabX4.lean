/-
  WALKS: the draws beside an exact memory: tasks that are done.
-/
import Derived.Test.YtnbgekbfccejdabX3
import Derived.Test.YtnbgekbfccejdabK4
namespace Go.Proofs.Ytnbgekbfccejdab
open Go.RowKit
theorem finL_len (g : List Bs.T) (d : List Int) (a : Int) : (Bs.finL g d a).length ≤ g.length := by
  unfold Bs.finL
  split
  · exact Bs.finC_len g d a
  · simp
theorem readyL_len (g : List Bs.T) (d : List Int) : (Bs.readyL g d).length ≤ g.length := by
  unfold Bs.readyL
  split
  · exact Bs.readyC_len g d
  · simp
end Go.Proofs.Ytnbgekbfccejdab
