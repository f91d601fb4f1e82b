/-
  MATH: the best order is the best one of all.
-/
import Derived.Test.YtjahmejmkijkaaaK24
namespace Go.Proofs.Ytjahmejmkijkaaa.Bs
theorem ordsK_has {g : List T} {r : Nat} {l o : List Int} : ∀ (n k : Nat), k < n → okNext g l k = true → o ∈ ordsF g r (l ++ [(k : Int)]) → o ∈ ordsK g r l n := by
  intro n
  induction n with
  | zero => intro k hk; omega
  | succ n ih =>
    intro k hk h1 h2
    rw [ordsK_succ, List.mem_append]
    by_cases e : k = n
    · subst e
      rw [if_pos h1]
      exact .inr h2
    · exact .inl (ih k (by omega) h1 h2)
theorem ords_all {g : List T} {o : List Int} (h : ∀ i, i < o.length → tOk g o i = true) : ∀ (r : Nat) (l s : List Int), o = l ++ s → l.length + r = o.length → o ∈ ordsF g r l := by
  intro r
  induction r with
  | zero =>
    intro l s e hl
    have : s = [] := by
      have := congrArg List.length e
      rw [List.length_append] at this
      exact List.length_eq_zero_iff.1 (by omega)
    subst this
    rw [List.append_nil] at e
    subst e
    exact List.mem_singleton.2 rfl
  | succ r ih =>
    intro l s e hl
    cases s with
    | nil =>
      rw [List.append_nil] at e
      subst e
      omega
    | cons x s =>
      have h1 := h l.length (by omega)
      unfold tOk at h1
      rw [giZ_at (by omega), Bool.and_eq_true, decide_eq_true_eq] at h1
      have ex : o[l.length]'(by omega) = x := by
        subst e
        simp
      have et : o.take l.length = l := by
        subst e
        simp
      rw [ex, et] at h1
      obtain ⟨⟨h0, h2⟩, h3⟩ := h1
      obtain ⟨k, rfl⟩ := Int.eq_ofNat_of_zero_le h0
      rw [ordsF_succ]
      refine ordsK_has g.length k (by omega) h3 (ih (l ++ [(k : Int)]) s (by rw [e, List.append_assoc]; rfl) ?_)
      rw [List.length_append, List.length_singleton]
      omega
theorem ord_in {g : List T} {o : List Int} (h : isOrd g o = true) : o ∈ ordsF g g.length [] := by
  obtain ⟨h1, h2⟩ := ord_tOk h
  exact ords_all h2 g.length [] o rfl (by simp; omega)
theorem bstK_le {g : List T} {m : List Int} {wk : Int} {Ls : List (List Int)} : ∀ k j, j ≤ k → enO g m wk (bstK g m wk Ls k) ≤ enO g m wk (nth Ls j) := by
  intro k
  induction k with
  | zero =>
    intro j hj
    obtain rfl : j = 0 := by omega
    exact Int.le_refl _
  | succ k ih =>
    intro j hj
    by_cases e : enO g m wk (nth Ls (k + 1)) < enO g m wk (bstK g m wk Ls k)
    · rw [bstK_yes e]
      by_cases ej : j = k + 1
      · subst ej; exact Int.le_refl _
      · have := ih j (by omega); omega
    · rw [bstK_no e]
      by_cases ej : j = k + 1
      · subst ej; omega
      · exact ih j (by omega)
theorem best_le {g : List T} {m : List Int} {wk : Int} {o : List Int} (h : isOrd g o = true) : enO g m wk (bestC g m wk) ≤ enO g m wk o := by
  obtain ⟨j, hj, rfl⟩ := List.getElem_of_mem (ord_in h)
  rw [← nth_at hj]
  exact bstK_le _ j (by omega)
theorem time_law {g : List T} {m : List Int} {wk : Int} {l L : List Int} (h : L = osL g m wk l) (h0 : ¬ L.length = 0) : stV g m wk L = true ∧ timeL g m wk ≤ endC g L := by
  obtain ⟨hsea, hord, hL⟩ := osL_ok h h0
  refine ⟨(os_valid hsea hord hL).1, ?_⟩
  rw [timeL_yes hsea, hL]
  exact best_le hord
theorem best_law {g : List T} {m : List Int} {wk : Int} {L : List Int} (h : L = bestL g m wk) (h0 : ¬ L.length = 0) : L.length = g.length ∧ (osL g m wk L).length = g.length ∧ stV g m wk (osL g m wk L) = true ∧ endC g (osL g m wk L) = timeL g m wk := by
  cases hs : seaV g m wk
  · rw [bestL_no hs] at h; rw [h] at h0; exact absurd rfl h0
  · rw [bestL_yes hs] at h
    have hv := (canV_iff.1 (sea_can hs).1).1
    have ho := ords_ord (best_ord (m := m) (wk := wk) hv)
    rw [← h] at ho
    have ho2 := osL_yes (m := m) hs ho
    obtain ⟨a, _, _, b⟩ := os_valid hs ho ho2
    refine ⟨(isOrd_at ho).1, b, a, ?_⟩
    rw [timeL_yes hs, ← h, ho2]
    rfl
end Go.Proofs.Ytjahmejmkijkaaa.Bs
