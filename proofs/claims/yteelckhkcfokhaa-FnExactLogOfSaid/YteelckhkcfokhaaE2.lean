/-
  WALKS: copies and marks of lists of integers, as the exact laws over several arguments want them.
-/
import Derived.Test.YteelckhkcfokhaaW9
import Derived.Test.YteelckhkcfokhaaK4
namespace Go.Proofs.Yteelckhkcfokhaa
open Go.RowKit
theorem toIntS_r (A : Option Addr) (c : Nat) (l : List Int) (lo hi : Nat) (w : World) (h : RI w lo hi A l) (hh : hi ≤ w.heap.size) (hl : l.length ≤ 1048576) :
    Calls Try.prog 33 #[.slice A l.length c] w fun e w' => (e = .returned (.slice (some ⟨w.heap.size, 0, none⟩) l.length l.length) ∧ RI w' w.heap.size w'.heap.size (some ⟨w.heap.size, 0, none⟩) l ∧ MI w' w.heap.size w'.heap.size (some ⟨w.heap.size, 0, none⟩) l.length) ∧ Below w.heap.size w w' := by
  refine (toIntS_any A c l lo hi w h hh hl).mono ?_
  rintro e w' ⟨h1, rfl⟩
  have hb := Blk.new w 3 (fillI l l.length)
  have hr : RI (w.alloc (.cells (fillI l l.length) 3)) w.heap.size (w.alloc (.cells (fillI l l.length) 3)).heap.size (some ⟨w.heap.size, 0, none⟩) l := by
    intro k hk
    refine ⟨w.heap.size, 0, rfl, Nat.le_refl _, by simp, ?_⟩
    rw [Nat.zero_add, hb.cell, fillI_full l k hk]
  refine ⟨⟨h1, hr, ?_⟩, (Below.refl _ _).alloc (Nat.le_refl _) _⟩
  intro k hk
  obtain ⟨b, o, e2, h2, h3, hc⟩ := hr k hk
  refine ⟨b, o, _, e2, h2, h3, hc, ?_⟩
  have e3 : b = w.heap.size := by
    have := Option.some.inj e2
    injection this with e4 _ _
    exact e4.symm
  subst e3
  exact hb.frozen _
theorem upToB {w w' : World} {lo hi B : Nat} (h : ∀ p : Addr, lo ≤ p.block → p.block < hi → w.frozen? p = false) (hb : Below B w w') (hB : hi ≤ B) : ∀ p : Addr, lo ≤ p.block → p.block < hi → w'.frozen? p = false := by
  intro p h1 h2
  rw [hb.frozen (by omega)]
  exact h p h1 h2
theorem MI.lt2 {w : World} {lo hi lo' hi' : Nat} {A : Option Addr} {n : Nat} (h : MI w lo hi A n) (h1 : lo' ≤ lo) (h2 : hi ≤ hi') : MI w lo' hi' A n := by
  intro k hk
  obtain ⟨b, o, x, e, g1, g2, hc, hf⟩ := h k hk
  exact ⟨b, o, x, e, by omega, by omega, hc, hf⟩
end Go.Proofs.Yteelckhkcfokhaa
