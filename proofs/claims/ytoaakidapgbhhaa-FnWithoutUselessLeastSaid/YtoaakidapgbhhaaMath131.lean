/-
  PLAIN MATHEMATICS of stages: the list of all stages. No condition.
-/
import Derived.Test.YtoaakidapgbhhaaMath130
namespace Go.Proofs.Ytoaakidapgbhhaa.Bs
/-- the first k stages -/
def stgK (g : List T) (k : Nat) : List (List Int) := (List.range k).map (stgS g)
/-- those stages, of the first k, that have tasks -/
def stgP (g : List T) (k : Nat) : List (List Int) := (stgK g k).filter fun p => decide (0 < p.length)
def stgL (g : List T) : List (List Int) := if valid g then stgP g g.length else []
theorem stgK_succ (g : List T) (k : Nat) : stgK g (k + 1) = stgK g k ++ [stgS g k] := by unfold stgK; rw [List.range_succ, List.map_append]; rfl
theorem stgP_succ (g : List T) (k : Nat) : stgP g (k + 1) = stgP g k ++ (if 0 < (stgS g k).length then [stgS g k] else []) := by
  unfold stgP
  rw [stgK_succ, List.filter_append]
  congr 1
  by_cases h : 0 < (stgS g k).length
  · rw [if_pos h]; simp [h]
  · rw [if_neg h]; simp [h]
theorem stgP_all {g : List T} {k : Nat} (h : ∀ s, s < k → stgS g s ≠ []) : stgP g k = stgK g k := by
  induction k with
  | zero => rfl
  | succ k ih =>
    rw [stgP_succ, stgK_succ, ih (fun s hs => h s (by omega)), if_pos (List.length_pos_iff.2 (h k (by omega)))]
theorem stgP_end {g : List T} (hv : valid g = true) {k : Nat} (h : ∀ s, s < k → stgS g s ≠ []) (he : stgS g k = []) : k ≤ g.length ∧ stgP g g.length = stgK g k := by
  have hk : k ≤ g.length := by
    apply Classical.byContradiction
    intro hn
    exact h g.length (by omega) (stg_few hv)
  refine ⟨hk, ?_⟩
  have hup : ∀ d, stgP g (k + d) = stgK g k := by
    intro d
    induction d with
    | zero => exact stgP_all h
    | succ d ih =>
      rw [show k + (d + 1) = (k + d) + 1 from rfl, stgP_succ, ih, stg_up hv he (show k ≤ k + d by omega)]
      simp
  have := hup (g.length - k)
  rwa [show k + (g.length - k) = g.length from by omega] at this
theorem stgL_no {g : List T} (h : valid g = false) : stgL g = [] := by unfold stgL; rw [h]; rfl
theorem stgL_yes {g : List T} (h : valid g = true) : stgL g = stgP g g.length := by unfold stgL; rw [h]; rfl
/-- what stands before a stage, as bits -/
theorem bef_bits {g : List T} (s : Nat) : bits (befS g s) ||| bits (stgS g s) = bits (befS g (s + 1)) := by
  apply Nat.eq_of_testBit_eq
  intro i
  have p1 : ∀ x ∈ befS g s, 0 ≤ x := fun x hx => by unfold befS at hx; obtain ⟨j, _, _, rfl⟩ := (mem_pick _ _ _).1 hx; omega
  have p2 : ∀ x ∈ stgS g s, 0 ≤ x := fun x hx => by unfold stgS at hx; obtain ⟨j, _, _, rfl⟩ := (mem_pick _ _ _).1 hx; omega
  have p3 : ∀ x ∈ befS g (s + 1), 0 ≤ x := fun x hx => by unfold befS at hx; obtain ⟨j, _, _, rfl⟩ := (mem_pick _ _ _).1 hx; omega
  rw [Nat.testBit_or, bits_test _ p1, bits_test _ p2, bits_test _ p3, Bool.eq_iff_iff, Bool.or_eq_true, contains_iff', contains_iff', contains_iff']
  exact (bef_next i).symm
theorem stg_eight {g : List T} (h8 : g.length ≤ 8) (s : Nat) : ∀ x ∈ stgS g s, 0 ≤ x ∧ x < 8 := fun x hx => by unfold stgS at hx; obtain ⟨j, _, _, rfl⟩ := (mem_pick _ _ _).1 hx; omega
theorem bef_eight {g : List T} (h8 : g.length ≤ 8) (s : Nat) : ∀ x ∈ befS g s, 0 ≤ x ∧ x < 8 := fun x hx => by unfold befS at hx; obtain ⟨j, _, _, rfl⟩ := (mem_pick _ _ _).1 hx; omega
/-- the tasks of a set's bits -/
theorem bits_list {l : List Int} (ha : asc l = true) (hl : ∀ x ∈ l, 0 ≤ x ∧ x < 8) : pick 8 (fun j => (bits l).testBit j) = l := by
  refine asc_unique (asc_pick _ _) ha ?_
  intro x
  rw [mem_pick]
  constructor
  · rintro ⟨j, _, h, rfl⟩
    rw [bits_test l (fun x hx => (hl x hx).1)] at h
    exact contains_iff'.1 h
  · intro hx
    have := hl x hx
    refine ⟨x.toNat, by omega, ?_, by omega⟩
    rw [bits_test l (fun x hx => (hl x hx).1), contains_iff', show ((x.toNat : Nat) : Int) = x from by omega]
    exact hx
theorem bits_zero {l : List Int} (hl : ∀ x ∈ l, 0 ≤ x ∧ x < 8) : bits l = 0 ↔ l = [] := by
  constructor
  · intro h
    rw [List.eq_nil_iff_forall_not_mem]
    intro x hx
    have h1 := hl x hx
    have h2 := bits_test l (fun x hx => (hl x hx).1) x.toNat
    rw [h, show ((x.toNat : Nat) : Int) = x from by omega] at h2
    simp at h2
    exact h2 hx
  · intro h; rw [h]; rfl
end Go.Proofs.Ytoaakidapgbhhaa.Bs
