/-
  WORDS FOR MEMORY: only one block has changed. No condition.
-/
import Derived.Test.YtihgakbopkaemaaK1
namespace Go.Proofs.Ytihgakbopkaemaa
open Go.RowKit
theorem eight {i : Nat} (h : i < 8) : i = 0 ∨ i = 1 ∨ i = 2 ∨ i = 3 ∨ i = 4 ∨ i = 5 ∨ i = 6 ∨ i = 7 := by omega
/-- only block b has changed -/
structure OnlyB (b : Nat) (w w' : World) : Prop where
  os : w'.os = w.os
  tape : w'.tape = w.tape
  output : w'.output = w.output
  size : w'.heap.size = w.heap.size
  far : ∀ k, k ≠ b → w'.heap[k]? = w.heap[k]?
theorem OnlyB.below {b B : Nat} {w w' : World} (h : OnlyB b w w') (hB : B ≤ b) : Below B w w' := ⟨h.os, h.tape, h.output, Nat.le_of_eq h.size.symm, fun k hk => h.far k (by omega)⟩
theorem OnlyB.blk {b g : Nat} {t : TypeId} {cs : Array Value} {w w' : World} (h : OnlyB b w w') (hb : Blk w g t cs) (hne : g ≠ b) : Blk w' g t cs := (h.far g hne).trans hb
theorem OnlyB.cell {b : Nat} {w w' : World} (h : OnlyB b w w') {p : Addr} (hne : p.block ≠ b) : w'.cell? p = w.cell? p := World.cell?_of_block (w := w) (h.far p.block hne)
theorem OnlyB.ri {b lo hi : Nat} {w w' : World} {A : Option Addr} {l : List Int} (h : OnlyB b w w') (hr : RI w lo hi A l) (hne : hi ≤ b ∨ b < lo) : RI w' lo hi A l := hr.keep fun p h1 h2 => h.cell (by omega)
theorem OnlyB.oi {b B : Nat} {w w' : World} {A : Option Addr} {c : Nat} {l : List Int} (h : OnlyB b w w') (ho : OI w B A c l) (hne : b < B) : OI w' B A c l := by
  refine ⟨ho.1, ?_⟩
  rcases ho.2 with hn | ⟨g, cap, cur, hv, h1, hg, rest⟩
  · exact .inl hn
  · exact .inr ⟨g, cap, cur, hv, h1, by rw [h.far g (by omega)]; exact hg, rest⟩
end Go.Proofs.Ytihgakbopkaemaa
