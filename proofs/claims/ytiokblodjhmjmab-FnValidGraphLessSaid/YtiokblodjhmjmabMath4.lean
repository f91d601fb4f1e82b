/-
  PLAIN MATHEMATICS of graphs of tasks: what the laws of orders say. No condition.
-/
import Derived.Test.YtiokblodjhmjmabW5
namespace Go.Proofs.Ytiokblodjhmjmab.Bs
theorem find_least {n : Nat} {p : Nat → Bool} {i : Nat} (h : (List.range n).find? p = some i) : ∀ j, j < i → p j = false := by
  rw [List.find?_range_eq_some] at h
  intro j hj
  have := h.2.2 j hj
  simpa using this
/-- each number is the next one behind those before it -/
def Step (g : List T) (out : List Int) : Prop := ∀ k (h : k < out.length), nxt g (out.take k) = some out[k].toNat
theorem Step.snoc {g : List T} {out : List Int} {i : Nat} (h : Step g out) (hn : nxt g out = some i) : Step g (out ++ [(i : Int)]) := by
  intro k hk
  by_cases e : k < out.length
  · rw [List.getElem_append_left e, List.take_append_of_le_length (by omega)]
    exact h k e
  · have : k = out.length := by simp at hk; omega
    subst this
    simp [hn]
theorem ord_step (g : List T) : ∀ k out, Step g out → Step g (ord g k out) := by
  intro k
  induction k with
  | zero => intro out h; exact h
  | succ k ih =>
    intro out h
    unfold ord
    cases hn : nxt g out with
    | none => exact h
    | some i => exact ih _ (h.snoc hn)
theorem top_step (g : List T) : Step g (top g) := ord_step g _ _ (by intro k h; simp at h)
theorem top_least {g : List T} {k : Nat} (hk : k + 1 < (top g).length) (h : (top g)[k + 1] < (top g)[k]) : (top g)[k] ∈ need g (top g)[k + 1].toNat := by
  have h0 := top_step g k (by omega)
  have h1 := top_step g (k + 1) hk
  have r0 := top_range (g := g) (k := k) (by omega)
  have r1 := top_range (g := g) hk
  obtain ⟨_, n1, m1⟩ := okNext_some h1
  have hl := find_least h0 (top g)[k + 1].toNat (by omega)
  have hts : (top g).take (k + 1) = (top g).take k ++ [(top g)[k]] := List.take_succ_eq_append_getElem (by omega)
  rw [hts] at n1 m1
  unfold okNext at hl
  have hnot : ((top g).take k).contains (((top g)[k + 1].toNat : Nat) : Int) = false := by
    rw [Bool.eq_false_iff]
    intro hc
    exact n1 (List.mem_append.2 (.inl (by simpa using hc)))
  rw [hnot] at hl
  simp only [Bool.not_false, Bool.true_and, List.all_eq_false] at hl
  obtain ⟨x, hx, hxn⟩ := hl
  have := m1 x hx
  rw [List.mem_append] at this
  rcases this with h2 | h2
  · exact absurd h2 (by simpa using hxn)
  · simp only [List.mem_singleton] at h2
    rwa [h2] at hx
theorem top_prefix {g : List T} {k : Nat} (hk : k < (top g).length) : (top g)[k] ∉ (top g).take k := by
  intro h
  obtain ⟨j, hj, e⟩ := List.mem_iff_getElem.1 h
  rw [List.length_take] at hj
  rw [List.getElem_take] at e
  have := top_inj (g := g) (by omega) hk e
  omega
end Go.Proofs.Ytiokblodjhmjmab.Bs
namespace Go.Proofs.Ytiokblodjhmjmab
theorem topL_range (g : List Bs.T) (L : List Int) (h : L = Bs.topL g) : ∀ k (hk : k < L.length), 0 ≤ L[k] ∧ L[k] < g.length := by
  subst h
  cases hv : Bs.valid g
  · rw [topL_no hv]; intro k hk; simp at hk
  · rw [topL_yes hv]; intro k hk; exact Bs.top_range hk
theorem topL_least (g : List Bs.T) (L : List Int) (h : L = Bs.topL g) : ∀ k (hk : k + 1 < L.length), L[k + 1] < L[k] → L[k] ∈ Bs.need g L[k + 1].toNat := by
  cases hv : Bs.valid g
  · rw [topL_no hv] at h
    subst h
    intro k hk
    simp at hk
  · rw [topL_yes hv] at h
    subst h
    intro k hk
    exact Bs.top_least hk
theorem top_law {g : List Bs.T} (hv : Bs.valid g = true) (L : List Int) (h : L = Bs.top g) : L.length = g.length ∧ ∀ k (hk : k < L.length), 0 ≤ L[k] ∧ L[k] < g.length ∧ L[k] ∉ L.take k ∧ ∀ x ∈ Bs.need g L[k].toNat, x ∈ L.take k := by
  subst h
  exact ⟨valid_full hv, fun k hk => ⟨(Bs.top_range hk).1, (Bs.top_range hk).2, Bs.top_prefix hk, Bs.top_behind g k hk⟩⟩
theorem any_take {α : Type} (l : List α) (p : α → Bool) (j : Nat) (hj : j < l.length) : (l.take (j + 1)).any p = ((l.take j).any p || p l[j]) := by
  rw [List.take_succ_eq_append_getElem hj, List.any_append, List.any_cons, List.any_nil, Bool.or_false]
theorem need_at {g : List Bs.T} {k : Nat} (hk : k < g.length) : Bs.need g k = g[k].needs := by unfold Bs.need; rw [List.getElem?_eq_getElem hk]
end Go.Proofs.Ytiokblodjhmjmab
