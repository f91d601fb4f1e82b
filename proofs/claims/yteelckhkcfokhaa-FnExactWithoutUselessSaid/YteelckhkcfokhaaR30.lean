/-
  WALKS: all orders of tasks, of the model.
-/
import Derived.Test.YteelckhkcfokhaaK4
import Derived.Test.YteelckhkcfokhaaMem5
import Derived.Test.YteelckhkcfokhaaK20
namespace Go.Proofs.Yteelckhkcfokhaa
open Go.RowKit
def RetOS (w : World) (Ls : List (List Int)) (e : Ending) (w' : World) : Prop := (∃ A c vs, e = .returned (.slice A (List.length vs) c) ∧ OS w' w.heap.size A c vs ∧ SLs w' w.heap.size vs Ls) ∧ Below w.heap.size w w'
theorem okNext_split {g : List Bs.T} {l : List Int} {k : Nat} (hk : k < g.length) : Bs.okNext g l k = (!l.contains (k : Int) && g[k].needs.all fun x => l.contains x) := Bs.okNext_eq hk
end Go.Proofs.Yteelckhkcfokhaa
