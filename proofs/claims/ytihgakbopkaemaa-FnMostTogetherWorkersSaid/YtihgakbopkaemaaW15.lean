/-
  WALKS: head times of the model.
-/
import Derived.Test.YtihgakbopkaemaaK8
namespace Go.Proofs.Ytihgakbopkaemaa
open Go.RowKit
theorem Blk.far {w : World} {g : Nat} {t : TypeId} {cs : Array Value} (h : Blk w g t cs) {p : Addr} (hp : g ≠ p.block) (u : Value) : Blk (w.setCell p u) g t cs := (Below.heap_setCell w p u g hp).trans h
end Go.Proofs.Ytihgakbopkaemaa
