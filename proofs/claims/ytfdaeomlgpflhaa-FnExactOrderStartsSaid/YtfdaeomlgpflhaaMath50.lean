/-
  MATH: orders of all tasks, place by place.
-/
import Derived.Test.YtfdaeomlgpflhaaMath49
namespace Go.Proofs.Ytfdaeomlgpflhaa.Bs
def tOk (g : List T) (l : List Int) (i : Nat) : Bool := decide (0 ≤ giZ l i ∧ giZ l i ≤ (g.length : Int) - 1) && okNext g (l.take i) (giZ l i).toNat
theorem isOrd_len {g : List T} {l : List Int} (h : l.length ≠ g.length) : isOrd g l = false := by unfold isOrd; simp [h]
theorem isOrd_no {g : List T} {l : List Int} {k : Nat} (hk : k < l.length) (h : tOk g l k = false) : isOrd g l = false := by
  unfold isOrd
  rw [Bool.and_eq_false_iff]
  refine .inr ?_
  rw [List.all_eq_false]
  exact ⟨k, by simpa using hk, by rw [show (decide (0 ≤ giZ l k ∧ giZ l k ≤ (g.length : Int) - 1) && okNext g (l.take k) (giZ l k).toNat) = tOk g l k from rfl, h]; simp⟩
theorem isOrd_yes {g : List T} {l : List Int} (hl : l.length = g.length) (h : ∀ i, i < l.length → tOk g l i = true) : isOrd g l = true := by
  unfold isOrd
  rw [Bool.and_eq_true, decide_eq_true_eq, List.all_eq_true]
  exact ⟨hl, fun i hi => h i (by simpa using hi)⟩
theorem tOk_in {g : List T} {l : List Int} {k : Nat} (hg : g.length ≤ 8) (hk : k ≤ l.length) (h : ∀ i, i < k → tOk g l i = true) : ∀ x ∈ l.take k, 0 ≤ x ∧ x < 8 := by
  intro x hx
  rw [List.mem_iff_getElem] at hx
  obtain ⟨i, hi, rfl⟩ := hx
  rw [List.length_take] at hi
  rw [List.getElem_take]
  have := h i (by omega)
  unfold tOk at this
  rw [giZ_at (by omega), Bool.and_eq_true, decide_eq_true_eq] at this
  omega
theorem osL_no1 {g : List T} {m : List Int} {wk : Int} {l : List Int} (h : seaV g m wk = false) : osL g m wk l = [] := by unfold osL; rw [h]; rfl
theorem osL_no2 {g : List T} {m : List Int} {wk : Int} {l : List Int} (h : isOrd g l = false) : osL g m wk l = [] := by unfold osL; rw [h]; simp
theorem osL_yes {g : List T} {m : List Int} {wk : Int} {l : List Int} (h : seaV g m wk = true) (h2 : isOrd g l = true) : osL g m wk l = osK g m wk l l.length := by unfold osL; rw [h, h2]; rfl
theorem full_mem {n : Nat} {l : List Int} (hn : l.Nodup) (hb : ∀ x ∈ l, 0 ≤ x ∧ x < n) (hl : l.length = n) {i : Nat} (hi : i < n) : (i : Int) ∈ l := by
  rcases Classical.em ((i : Int) ∈ l) with e | e
  · exact e
  · exfalso
    obtain ⟨nd2, rg2⟩ := snoc_ok hn hb hi (by simpa using e)
    have h1 := pick_of nd2 rg2
    have h2 := pick_len n (fun j => (l ++ [(i : Int)]).contains (j : Int))
    rw [List.length_append] at h1
    simp only [List.length_singleton] at h1
    omega
def listK (f : Nat → Int) (n k : Nat) : List Int := (List.range k).map f ++ List.replicate (n - k) 0
theorem listK_len {f : Nat → Int} {n k : Nat} (h : k ≤ n) : (listK f n k).length = n := by unfold listK; simp; omega
theorem listK_zero (f : Nat → Int) (n : Nat) : listK f n 0 = List.replicate n 0 := by simp [listK]
theorem listK_all (f : Nat → Int) (n : Nat) : listK f n n = (List.range n).map f := by simp [listK]
theorem listK_at {f : Nat → Int} {n k i : Nat} (hi : i < (listK f n k).length) : (listK f n k)[i] = if i < k then f i else 0 := by
  simp only [listK]
  by_cases e : i < k
  · rw [if_pos e, List.getElem_append_left (by simpa using e)]
    simp
  · rw [if_neg e, List.getElem_append_right (by simp; omega)]
    simp
theorem listK_succ {f : Nat → Int} {n k : Nat} (h : k < n) : (listK f n k).set k (f k) = listK f n (k + 1) := by
  apply List.ext_getElem
  · rw [List.length_set, listK_len (by omega), listK_len (by omega)]
  · intro i h1 h2
    rw [List.getElem_set, listK_at, listK_at]
    by_cases e : k = i
    · subst e
      rw [if_pos rfl, if_pos (by omega)]
    · rw [if_neg e]
      by_cases e2 : i < k
      · rw [if_pos e2, if_pos (by omega)]
      · rw [if_neg e2, if_neg (by omega)]
theorem list_eq {f : Nat → Int} {S : List Int} (h : ∀ i, i < S.length → f i = giZ S i) : (List.range S.length).map f = S := by
  apply List.ext_getElem
  · simp
  · intro i h1 h2
    rw [List.getElem_map, List.getElem_range, h i h2, giZ_at h2]
theorem osK_len (g : List T) (m : List Int) (wk : Int) (l : List Int) : ∀ k, (osK g m wk l k).length = g.length := by
  have h : ∀ (L S : List Int), S.length = g.length → (L.foldl (osStep g m wk) S).length = g.length := by
    intro L
    induction L with
    | nil => intro S h; exact h
    | cons x L ih =>
      intro S h
      rw [List.foldl_cons]
      exact ih _ (by unfold osStep; rw [List.length_set]; exact h)
  intro k
  exact h _ _ (by simp)
theorem osL_len (g : List T) (m : List Int) (wk : Int) (l : List Int) : (osL g m wk l).length ≤ 5 := by
  unfold osL
  split
  · rename_i h
    unfold seaV at h
    simp only [Bool.and_eq_true, decide_eq_true_eq] at h
    rw [osK_len]
    exact h.1.2
  · simp
end Go.Proofs.Ytfdaeomlgpflhaa.Bs
