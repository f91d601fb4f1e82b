/-
  WALKS: copies and comparisons of tasks.
-/
import Derived.Test.YtoggbndpjcfmiaaW6
import Derived.Test.YtoggbndpjcfmiaaK1
namespace Go.Proofs.Ytoggbndpjcfmiaa
open Go.RowKit
theorem ri_fill (w : World) (l : List Int) : RI (w.alloc (.cells (fillI l l.length) 3)) w.heap.size (w.heap.size + 1) (some ⟨w.heap.size, 0, none⟩) l := by
  intro k hk
  refine ⟨w.heap.size, 0, rfl, Nat.le_refl _, by omega, ?_⟩
  rw [Blk.cell (Blk.new w 3 (fillI l l.length)), Nat.zero_add]
  exact fillI_full l k hk
theorem boxes_keep {w : World} {lo hi : Nat} {N : Option Addr} {l : List Int} (h : RI w lo hi N l) (hh : hi ≤ w.heap.size) (o1 o2 : Obj) : RI ((w.alloc o1).alloc o2) lo hi N l := h.keep fun p _ hp => by
  rw [World.cell?_alloc_lt _ _ _ (by simp; omega), World.cell?_alloc_lt _ _ _ (by omega)]
end Go.Proofs.Ytoggbndpjcfmiaa
