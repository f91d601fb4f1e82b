/-
  WALKS: stuck tasks.
-/
import Derived.Test.YtiokblodjhmjmacMem2
namespace Go.Proofs.Ytiokblodjhmjmac
open Go.RowKit
theorem stuckL_no {g : List Bs.T} (h : Bs.fine g = false) : Bs.stuckL g = [] := by unfold Bs.stuckL; rw [h]; rfl
theorem stuckL_yes {g : List Bs.T} (h : Bs.fine g = true) : Bs.stuckL g = Bs.pick g.length (fun i => !(Bs.top g).contains (i : Int)) := by unfold Bs.stuckL; rw [h]; rfl
end Go.Proofs.Ytiokblodjhmjmac
