/-
  WALKS: the laws' own small functions: sizes, copies and comparisons of lists of integers.
-/
import Derived.Test.YtoggbndpjcfmiaaK1
namespace Go.Proofs.Ytoggbndpjcfmiaa
open Go.RowKit
def szI (left : Int) (n : Nat) : Int := if left - n < 0 then -1 else left - n
/-- the cells of a copy when k are done -/
def fillI (l : List Int) (k : Nat) : Array Value := ((l.take k ++ List.replicate (l.length - k) 0).map (Value.int .i64)).toArray
theorem fillI_zero (l : List Int) : fillI l 0 = madeCells #[.int .i64 0] l.length := by
  apply Array.ext
  · simp [fillI, madeCells]
  · intro i h1 h2
    simp [fillI, madeCells]
    have : i % 1 = 0 := by omega
    rw [this]
    rfl
theorem fillI_size (l : List Int) (k : Nat) (hk : k ≤ l.length) : (fillI l k).size = l.length := by simp [fillI]; omega
theorem fillI_set (l : List Int) (k : Nat) (hk : k < l.length) : (fillI l k).setIfInBounds k (.int .i64 l[k]) = fillI l (k + 1) := by
  apply Array.ext
  · simp [fillI]; omega
  · intro i h1 h2
    rw [Array.getElem_setIfInBounds (by simpa using h1)]
    simp only [fillI, List.getElem_toArray, List.getElem_map, List.getElem_append, List.length_take, List.getElem_take, List.getElem_replicate]
    by_cases e : k = i
    · subst e
      rw [if_pos rfl, dif_pos (by omega)]
    · rw [if_neg e]
      by_cases e2 : i < k
      · rw [dif_pos (by omega), dif_pos (by omega)]
      · rw [dif_neg (by omega), dif_neg (by omega)]
theorem fillI_get (l : List Int) (k i : Nat) (hi : i < l.length) (hk : k ≤ l.length) : ∃ v, (fillI l k)[i]? = some v := by
  exact ⟨_, Array.getElem?_eq_getElem (by rw [fillI_size l k hk]; exact hi)⟩
theorem fillI_full (l : List Int) (i : Nat) (hi : i < l.length) : (fillI l l.length)[i]? = some (.int .i64 l[i]) := by
  simp [fillI, hi]

end Go.Proofs.Ytoggbndpjcfmiaa
