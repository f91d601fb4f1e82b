/-
  PLAIN MATHEMATICS of stages: where the stages end, and the tasks' numbers of stages while they are set. No condition.
-/
import Derived.Test.YtoaakidapgbhhaaMath131
namespace Go.Proofs.Ytoaakidapgbhhaa.Bs
theorem stg_first {g : List T} : ∀ n, stgS g n = [] → ∃ k, k ≤ n ∧ (∀ s, s < k → stgS g s ≠ []) ∧ stgS g k = [] := by
  intro n
  induction n using Nat.strongRecOn with
  | ind n ih =>
    intro h
    by_cases ha : ∃ s, s < n ∧ stgS g s = []
    · obtain ⟨s, hs, he⟩ := ha
      obtain ⟨k, h1, h2, h3⟩ := ih s hs he
      exact ⟨k, by omega, h2, h3⟩
    · exact ⟨n, Nat.le_refl _, fun s hs he => ha ⟨s, hs, he⟩, h⟩
/-- the stages that have tasks are the first ones -/
theorem stg_end {g : List T} (hv : valid g = true) : ∃ k, k ≤ g.length ∧ (∀ s, s < k → stgS g s ≠ []) ∧ stgS g k = [] ∧ stgL g = stgK g k := by
  obtain ⟨k, h1, h2, h3⟩ := stg_first (g := g) g.length (stg_few hv)
  exact ⟨k, h1, h2, h3, by rw [stgL_yes hv]; exact (stgP_end hv h2 h3).2⟩
/-- the numbers of stages while stage s is run through, of which the tasks q are set -/
def stA (g : List T) (s : Nat) (q : List Int) : List Int := (List.range g.length).map fun i => if gi (levC g) i < (s : Int) then gi (levC g) i else if gi (levC g) i = (s : Int) ∧ (i : Int) ∈ q then (s : Int) else 0
theorem stA_len (g : List T) (s : Nat) (q : List Int) : (stA g s q).length = g.length := by simp [stA]
theorem stA_at {g : List T} {s : Nat} {q : List Int} {j : Nat} (hj : j < (stA g s q).length) : (stA g s q)[j] = if gi (levC g) j < (s : Int) then gi (levC g) j else if gi (levC g) j = (s : Int) ∧ (j : Int) ∈ q then (s : Int) else 0 := by
  simp only [stA, List.getElem_map, List.getElem_range]
theorem stA_zero {g : List T} (hv : valid g = true) : stA g 0 [] = List.replicate g.length 0 := by
  rw [List.eq_replicate_iff]
  refine ⟨stA_len g 0 [], ?_⟩
  intro b hb
  unfold stA at hb
  obtain ⟨i, hi, rfl⟩ := List.mem_map.1 hb
  have h0 := (lev_law hv (List.mem_range.1 hi)).1
  rw [if_neg (by omega), if_neg (by simp)]
theorem stA_next (g : List T) (s : Nat) : stA g s (stgS g s) = stA g (s + 1) [] := by
  unfold stA
  apply List.map_congr_left
  intro i hi
  have hi' := List.mem_range.1 hi
  by_cases h1 : gi (levC g) i < (s : Int)
  · rw [if_pos h1, if_pos (by omega)]
  · rw [if_neg h1]
    by_cases h2 : gi (levC g) i = (s : Int)
    · rw [if_pos ⟨h2, mem_stg.2 ⟨hi', h2⟩⟩, if_pos (by omega), h2]
    · rw [if_neg (fun h => h2 h.1), if_neg (by omega), if_neg (by simp)]
theorem stA_set {g : List T} {s i : Nat} {q : List Int} (hi : (i : Int) ∈ stgS g s) : (stA g s q).set i (s : Int) = stA g s (q ++ [(i : Int)]) := by
  have hm := mem_stg.1 hi
  apply List.ext_getElem
  · rw [List.length_set, stA_len, stA_len]
  · intro j h1 h2
    rw [List.getElem_set, stA_at, stA_at]
    by_cases hj : i = j
    · subst hj
      rw [if_pos rfl, if_neg (by omega), if_pos ⟨hm.2, by simp⟩]
    · rw [if_neg hj]
      by_cases h3 : gi (levC g) j < (s : Int)
      · rw [if_pos h3, if_pos h3]
      · rw [if_neg h3, if_neg h3]
        have he : (j : Int) ∈ q ++ [(i : Int)] ↔ (j : Int) ∈ q := by
          rw [List.mem_append, List.mem_singleton]
          constructor
          · rintro (h | h)
            · exact h
            · exact absurd h (by omega)
          · exact Or.inl
        simp only [he]
theorem stA_all {g : List T} (hv : valid g = true) {k : Nat} (he : stgS g k = []) : stA g k [] = levC g := by
  apply List.ext_getElem
  · rw [stA_len, levC_len hv]
  · intro j h1 h2
    rw [stA_at, if_pos (stg_none hv he j (by rwa [stA_len] at h1))]
    unfold gi
    rw [List.getD_eq_getElem?_getD, List.getElem?_eq_getElem h2]
    rfl
end Go.Proofs.Ytoaakidapgbhhaa.Bs
