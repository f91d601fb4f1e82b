/-
  WORDS FOR MEMORY, MORE: blocks that are known whole; what is not frozen. No condition.
-/
import Derived.Test.YtiokblodjhmjmabMem
namespace Go.Proofs.Ytiokblodjhmjmab
open Go.RowKit
/-- no cell of the blocks from B on is frozen -/
def UFrom (B : Nat) (w : World) : Prop := ∀ p : Addr, B ≤ p.block → w.frozen? p = false
theorem UFrom.start (w : World) : UFrom w.heap.size w := by
  intro p hp
  unfold World.frozen?
  rw [Array.getElem?_eq_none hp]
theorem UFrom.alloc {B : Nat} {w : World} (h : UFrom B w) (cs : Array Value) (t : TypeId) : UFrom B (w.alloc (.cells cs t)) := by
  intro p hp
  by_cases e : p.block < w.heap.size
  · have := h p hp
    unfold World.frozen? at this ⊢
    rw [Below.heap_alloc w _ _ e]
    exact this
  · by_cases e2 : p.block = w.heap.size
    · unfold World.frozen?
      rw [e2, heap_alloc_new]
      simp
    · unfold World.frozen?
      rw [Array.getElem?_eq_none (by simp; omega)]
theorem frozen_setCell (w : World) (a p : Addr) (v : Value) : (w.setCell a v).frozen? p = w.frozen? p := by
  unfold World.frozen? World.setCell
  simp only [Array.getElem?_modify]
  by_cases e : a.block = p.block
  · rw [if_pos e]
    cases w.heap[p.block]? with
    | none => rfl
    | some o => cases o <;> rfl
  · rw [if_neg e]
theorem UFrom.setCell {B : Nat} {w : World} (h : UFrom B w) (a : Addr) (v : Value) : UFrom B (w.setCell a v) := fun p hp => (frozen_setCell w a p v).trans (h p hp)
theorem UFrom.drewN {B : Nat} {w : World} (h : UFrom B w) (n : Nat) : UFrom B (w.drewN n) := h
theorem UFrom.mono {B B' : Nat} {w : World} (h : UFrom B w) (hB : B ≤ B') : UFrom B' w := fun p hp => h p (by omega)
theorem UFrom.after {B : Nat} {w w' : World} (h : UFrom B w) (hb : Below w.heap.size w w') (h' : UFrom w.heap.size w') : UFrom B w' := by
  intro p hp
  by_cases e : p.block < w.heap.size
  · rw [hb.frozen e]; exact h p hp
  · exact h' p (by omega)
/-- a block that is known whole -/
def Blk (w : World) (g : Nat) (t : TypeId) (cs : Array Value) : Prop := w.heap[g]? = some (.cells cs t (0, 0))
theorem Blk.lt {w : World} {g : Nat} {t : TypeId} {cs : Array Value} (h : Blk w g t cs) : g < w.heap.size := by
  rcases Nat.lt_or_ge g w.heap.size with hlt | hge
  · exact hlt
  · unfold Blk at h; rw [Array.getElem?_eq_none hge] at h; cases h
theorem Blk.cell {w : World} {g : Nat} {t : TypeId} {cs : Array Value} (h : Blk w g t cs) (i : Nat) : w.cell? ⟨g, i, none⟩ = cs[i]? := cell_of_row w g i cs t (0, 0) h
theorem Blk.frozen {w : World} {g : Nat} {t : TypeId} {cs : Array Value} (h : Blk w g t cs) (i : Nat) : w.frozen? ⟨g, i, none⟩ = false := by
  unfold Blk at h
  simp [World.frozen?, h]
theorem Blk.new (w : World) (t : TypeId) (cs : Array Value) : Blk (w.alloc (.cells cs t)) w.heap.size t cs := heap_alloc_new w _
theorem Blk.alloc {w : World} {g : Nat} {t : TypeId} {cs : Array Value} (h : Blk w g t cs) (o : Obj) : Blk (w.alloc o) g t cs := (Below.heap_alloc w o g h.lt).trans h
theorem Blk.set_ {w : World} {g : Nat} {t : TypeId} {cs : Array Value} (h : Blk w g t cs) (i : Nat) (u : Value) : Blk (w.setCell ⟨g, i, none⟩ u) g t (cs.setIfInBounds i u) := by
  unfold Blk at h ⊢
  simp [World.setCell, Array.getElem?_modify, h]
theorem Blk.below {w w' : World} {g : Nat} {t : TypeId} {cs : Array Value} {B : Nat} (h : Blk w g t cs) (hb : Below B w w') (hg : g < B) : Blk w' g t cs := (hb.block g hg).trans h
theorem RI.set_far {w : World} {lo hi : Nat} {A : Option Addr} {l : List Int} (h : RI w lo hi A l) {p : Addr} (hp : p.block < lo ∨ hi ≤ p.block) (u : Value) : RI (w.setCell p u) lo hi A l :=
  h.keep fun q h1 h2 => World.cell?_setCell_other w p q u (fun e => by subst e; omega)

end Go.Proofs.Ytiokblodjhmjmab
