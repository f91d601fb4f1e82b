/-
  PLAIN MATHEMATICS of graphs of tasks: graphs without needs. No condition.
-/
import Derived.Test.YtiokblodjhmjmabMath6
namespace Go.Proofs.Ytiokblodjhmjmab.Bs
theorem pigeon : ∀ (n : Nat) (l : List Int), (∀ i : Nat, i < n → (i : Int) ∈ l) → n ≤ l.length := by
  intro n
  induction n with
  | zero => intro l _; exact Nat.zero_le _
  | succ n ih =>
    intro l h
    have h1 := ih (l.filter (fun x => decide (x ≠ (n : Int)))) (by
      intro i hi
      rw [List.mem_filter]
      refine ⟨h i (by omega), ?_⟩
      simp; omega)
    have h2 : (l.filter (fun x => decide (x ≠ (n : Int)))).length < l.length := by
      rw [List.length_filter_lt_length_iff_exists]
      exact ⟨(n : Int), h n (by omega), by simp⟩
    omega
def bare (t : T) : T := { t with needs := [] }
/-- a graph whose first task needs itself -/
def selfG : List T → List T
  | [] => []
  | t :: r => { t with needs := [0] } :: r
theorem bare_valid {g : List T} (h : valid g = true) : valid (g.map bare) = true := by
  have hF := valid_fine h
  have hF' : fine (g.map bare) = true := by
    unfold fine at hF ⊢
    simp only [Bool.and_eq_true, decide_eq_true_eq, List.length_map, List.all_eq_true, List.mem_map] at hF ⊢
    refine ⟨?_, hF.2⟩
    rintro _ ⟨t, ht, rfl⟩
    have := hF.1 t ht
    rw [validT_iff] at this ⊢
    obtain ⟨a, b, c, d, e, f, _⟩ := this
    exact ⟨a, b, c, d, e, f, rfl⟩
  have hall : ∀ i : Nat, i < g.length → (i : Int) ∈ top (g.map bare) := by
    intro i hi
    rcases Classical.em ((i : Int) ∈ top (g.map bare)) with h1 | h1
    · exact h1
    · exfalso
      obtain ⟨x, hx, _⟩ := (stuck_iff (g := g.map bare) (i := i) (by simpa using hi)).1 h1
      rw [need_at (by simpa using hi)] at hx
      simp [bare] at hx
  unfold valid
  rw [hF']
  have h1 := pigeon _ _ hall
  have h2 := (top_dist (g.map bare)).le
  simp only [List.length_map] at h2
  simp
  omega
theorem self_valid {g : List T} (h0 : 0 < g.length) : valid (selfG g) = false := by
  rw [Bool.eq_false_iff]
  intro hv
  cases g with
  | nil => simp at h0
  | cons t r =>
    have hl : 0 < (selfG (t :: r)).length := by simp [selfG]
    have hm := (top_dist _).full (valid_full hv) 0 hl
    obtain ⟨k, hk, e⟩ := List.mem_iff_getElem.1 hm
    have hb := top_behind (selfG (t :: r)) k hk 0 (by rw [e]; simp [need, selfG])
    obtain ⟨j, hj, he⟩ := List.mem_iff_getElem.1 hb
    rw [List.length_take] at hj
    rw [List.getElem_take] at he
    have := top_inj (g := selfG (t :: r)) (by omega) hk (he.trans e.symm)
    omega
end Go.Proofs.Ytiokblodjhmjmab.Bs
