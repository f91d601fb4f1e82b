/-
  WHAT CAME IN: a slice of bools that can be read is a list of bools in memory; no condition.
-/
import Derived.Test.YtkokdppmkajnmaaOpen
import Derived.Test.YtkokdppmkajnmaaBo
namespace Go.Proofs.Ytkokdppmkajnmaa
open Go.ChangeShapes Go.WideShapes Go.ChangeAt Go.RowKit Go.Deep
theorem open_boolL {H : Type} {enc : TypeId × Value → H} {w : World} {base : Nat} {spare : Nat → Bool} {held : Bool} {fuel : Nat} {v : Value} {x : DataW H × List MemPlace}
    (h : DataW.trod enc Try.prog w base spare held fuel 37 [v] = some x) : ∃ A c l, v = .slice A (List.length l) c ∧ l.length ≤ c ∧ c ≤ 9223372036854775807 ∧ RL w 0 w.heap.size A l := by
  have k1 : Try.prog.cellsOf 4 = 1 := by kernel_rfl
  rcases Go.Deep.open_slice1 Try.underlying37 k1 h with ⟨hcs, _⟩ | ⟨a, len, cap, m, n, V, D, Pl, hcs, _, hl, hm, hmm, _, hx⟩
  · simp only [List.cons.injEq, and_true] at hcs
    exact ⟨none, 0, [], hcs, Nat.le_refl _, by omega, RL.nil⟩
  · simp only [List.cons.injEq, and_true] at hcs
    have hlm : len ≤ m := by rw [hmm]; split <;> omega
    have each : ∀ i, i < len → ∃ b : Bool, w.cell? (a.add i) = some (.bool b) := by
      intro i hi
      obtain ⟨h1, h2⟩ := hx i (by omega)
      obtain ⟨b, h3, _⟩ := DataW.trod_bool Try.underlying4 h2
      simp only [List.cons.injEq, and_true] at h3
      exact ⟨b, by rw [h1, h3]⟩
    obtain ⟨l, hll, hp⟩ := list_of len _ each
    refine ⟨some a, cap, l, by rw [hcs, hll], by omega, by unfold maxLen at hm; omega, ?_⟩
    intro k hk
    have h0 := hp 0 (by omega)
    have e0 : a.add 0 = a := by simp [Addr.add]
    rw [e0] at h0
    obtain ⟨ha, hb⟩ := cell_plain h0
    refine ⟨a.block, a.off, by rw [← ha], by omega, hb, ?_⟩
    have h1 := hp k hk
    rw [ha, Addr.add_lit] at h1
    exact h1
end Go.Proofs.Ytkokdppmkajnmaa
