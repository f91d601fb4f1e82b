/-
  WALKS: the order in which ready tasks are taken, of the model.
-/
import Derived.Test.YteelckhkcfokhaaK4
import Derived.Test.YteelckhkcfokhaaK1
import Derived.Test.YteelckhkcfokhaaK8
import Derived.Test.YteelckhkcfokhaaK37
namespace Go.Proofs.Yteelckhkcfokhaa
open Go.RowKit
theorem OI.put {w : World} {B : Nat} {A : Option Addr} {c : Nat} {l : List Int} (h : OI w B A c l) {k : Nat} (hk : k < l.length) (x : Int) :
    ∃ b, A = some ⟨b, 0, none⟩ ∧ B ≤ b ∧ b < w.heap.size ∧ (∀ j (hj : j < l.length), w.cell? ⟨b, j, none⟩ = some (.int .i64 l[j])) ∧ (∀ j, w.frozen? ⟨b, j, none⟩ = false) ∧ OI (w.setCell ⟨b, k, none⟩ (.int .i64 x)) B A c (l.set k x) := by
  have hr := h.ri
  rcases h.2 with ⟨hv, hn⟩ | ⟨b, cap, cur, hv, hb, hg, hnc, hcm, hcs, ht⟩
  · omega
  · injection hv with hA hn hc
    subst hA
    have hlt := (Array.getElem?_eq_some_iff.1 hg).1
    refine ⟨b, rfl, hb, hlt, ?_, fun j => by simp [World.frozen?, hg], ?_⟩
    · intro j hj
      obtain ⟨b', o', e, _, _, hc0⟩ := hr j hj
      cases e
      rw [Nat.zero_add] at hc0
      exact hc0
    · unfold OI
      refine ⟨by simp, .inr ⟨b, cap, cur.setIfInBounds k (.int .i64 x), by rw [List.length_set, hc], hb, heap_setCell_same w b k cur _ _ hg, by rw [List.length_set]; exact hnc, hcm, by rw [Array.size_setIfInBounds]; exact hcs, ?_⟩⟩
      rw [Array.toList_setIfInBounds, List.length_set, List.take_set, ht, List.map_set]
/-- x in its place before those that come later -/
def stL (o : List Int) (x : Int) (k : Nat) : List Int := o.take k ++ x :: o.drop k
theorem stL_len (o : List Int) (x : Int) (k : Nat) (hk : k ≤ o.length) : (stL o x k).length = o.length + 1 := by
  unfold stL
  rw [List.length_append, List.length_take, List.length_cons, List.length_drop]
  omega
theorem stL_end (o : List Int) (x : Int) : stL o x o.length = o ++ [x] := by simp [stL]
theorem stL_at (o : List Int) (x : Int) (k : Nat) (hk : k ≤ o.length) : (stL o x k)[k]? = some x := by
  unfold stL
  rw [List.getElem?_append_right (by rw [List.length_take]; omega), List.length_take, Nat.min_eq_left hk, Nat.sub_self]
  rfl
theorem stL_before (o : List Int) (x : Int) (j : Nat) (hj : j < o.length) : (stL o x (j + 1))[j]? = some o[j] := by
  unfold stL
  rw [List.getElem?_append_left (by rw [List.length_take]; omega), List.getElem?_take_of_lt (by omega), List.getElem?_eq_getElem hj]
theorem stL_swap (o : List Int) (x : Int) (j : Nat) (hj : j < o.length) : ((stL o x (j + 1)).set (j + 1) o[j]).set j x = stL o x j := by
  have e1 : o.take (j + 1) = o.take j ++ [o[j]] := List.take_succ_eq_append_getElem hj
  have e2 : o.drop j = o[j] :: o.drop (j + 1) := List.drop_eq_getElem_cons hj
  have hl : (o.take j).length = j := by rw [List.length_take]; omega
  unfold stL
  rw [e1, e2, List.append_assoc]
  rw [List.set_append_right _ _ (by omega), hl, List.set_append_right _ _ (by omega), hl]
  simp
theorem stL_sorted {K : Int → Int} {o : List Int} {x : Int} {k : Nat} (hs : o.Pairwise (fun a b => K a < K b)) (h1 : ∀ y ∈ o.take k, K y < K x) (h2 : ∀ y ∈ o.drop k, K x < K y) : (stL o x k).Pairwise (fun a b => K a < K b) := by
  unfold stL
  rw [List.pairwise_append, List.pairwise_cons]
  refine ⟨hs.sublist (List.take_sublist _ _), ⟨h2, hs.sublist (List.drop_sublist _ _)⟩, ?_⟩
  intro a ha b hb
  rw [List.mem_cons] at hb
  rcases hb with rfl | hb
  · exact h1 a ha
  · have := h1 a ha
    have := h2 b hb
    omega
theorem stL_mem {o : List Int} {x : Int} {k : Nat} (y : Int) : y ∈ stL o x k ↔ y ∈ o ∨ y = x := by
  unfold stL
  rw [List.mem_append, List.mem_cons]
  have e : y ∈ o ↔ y ∈ o.take k ∨ y ∈ o.drop k := by rw [← List.mem_append, List.take_append_drop]
  rw [e]
  constructor
  · rintro (h | h | h)
    · exact .inl (.inl h)
    · exact .inr h
    · exact .inl (.inr h)
  · rintro ((h | h) | h)
    · exact .inl h
    · exact .inr (.inr h)
    · exact .inr (.inl h)
theorem take_below {K : Int → Int} {o : List Int} {x : Int} {j : Nat} (hj : j < o.length) (hs : o.Pairwise (fun a b => K a < K b)) (h : K o[j] < K x) : ∀ y ∈ o.take (j + 1), K y < K x := by
  intro y hy
  rw [List.take_succ_eq_append_getElem hj, List.mem_append, List.mem_singleton] at hy
  rcases hy with hy | rfl
  · obtain ⟨i, hi, rfl⟩ := List.mem_iff_getElem.1 hy
    rw [List.length_take] at hi
    rw [List.getElem_take]
    have := List.pairwise_iff_getElem.1 hs i j (by omega) hj (by omega)
    omega
  · exact h
end Go.Proofs.Yteelckhkcfokhaa
