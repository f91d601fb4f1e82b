/-
  WALKS: the links of the critical chain.
-/
import Derived.Test.YtihgakbopkaemaaW19
namespace Go.Proofs.Ytihgakbopkaemaa
open Go.RowKit
def firstI (n : Nat) (p : Nat → Bool) : Int := match (List.range n).find? p with | none => -1 | some i => (i : Int)
theorem firstI_yes {n : Nat} {p : Nat → Bool} {k : Nat} (hk : k < n) (h : ∀ j, j < k → p j = false) (hp : p k = true) : firstI n p = k := by
  unfold firstI; rw [Bs.find_first hk h hp]
theorem firstI_no {n : Nat} {p : Nat → Bool} (h : ∀ j, j < n → p j = false) : firstI n p = -1 := by
  unfold firstI
  rw [List.find?_eq_none.2]
  intro j hj
  rw [h j (List.mem_range.1 hj)]
  simp
theorem firstI_cases (n : Nat) (p : Nat → Bool) : firstI n p = -1 ∨ ∃ k : Nat, k < n ∧ firstI n p = k ∧ p k = true := by
  unfold firstI
  cases h : (List.range n).find? p with
  | none => exact .inl rfl
  | some i => exact .inr ⟨i, by have := List.mem_of_find?_eq_some h; simpa using this, rfl, List.find?_some h⟩
theorem below_k {p : Nat → Bool} {k : Nat} (h : ∀ j, j < k → p j = false) (hp : p k = false) : ∀ j, j < k + 1 → p j = false := by
  intro j hj
  by_cases e : j < k
  · exact h j e
  · have : j = k := by omega
    subst this
    exact hp
def linkF (n : Nat) (t : List Int) (want : Int) : Int := firstI n fun i => Bs.gi t i == want
def linkN (g : List Bs.T) (t : List Int) (v : Int) (want : Int) : Int := firstI g.length fun i => Bs.gi t i == want && (Bs.need g i).contains v

end Go.Proofs.Ytihgakbopkaemaa
