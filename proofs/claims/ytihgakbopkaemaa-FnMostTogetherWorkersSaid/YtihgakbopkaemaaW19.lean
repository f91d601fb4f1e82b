/-
  WALKS: slack times.
-/
import Derived.Test.YtihgakbopkaemaaK8
import Derived.Test.YtihgakbopkaemaaW15
import Derived.Deep.RegionWith
namespace Go.Proofs.Ytihgakbopkaemaa
open Go.RowKit
def slackC (g : List Bs.T) : List Int := (List.range g.length).map fun i => longC g - Bs.gi (Bs.headsC g) i - Bs.gi (Bs.tailsC g) i
def slackL (g : List Bs.T) : List Int := if Bs.valid g then slackC g else []
theorem slackL_no {g : List Bs.T} (h : Bs.valid g = false) : slackL g = [] := by unfold slackL; rw [h]; rfl
theorem slackL_yes {g : List Bs.T} (h : Bs.valid g = true) : slackL g = slackC g := by unfold slackL; rw [h]; rfl
theorem SlackTimes_len (g : List Bs.T) : (slackL g).length ≤ 1000 := by
  unfold slackL
  split
  · rename_i h
    have h1 := Bs.fine_len (valid_fine h)
    simp [slackC]
    omega
  · simp
/-- what is known of heads, tails and the longest time -/
theorem bounds_of {g : List Bs.T} (hf : Bs.valid g = true) : (Bs.headsC g).length = g.length ∧ (Bs.tailsC g).length = g.length ∧ 0 ≤ longC g ∧ longC g ≤ 160 ∧ ∀ i, i < g.length → 0 ≤ Bs.gi (Bs.headsC g) i ∧ Bs.gi (Bs.headsC g) i ≤ 160 ∧ 0 ≤ Bs.gi (Bs.tailsC g) i ∧ Bs.gi (Bs.tailsC g) i ≤ 160 := by
  have h8 := Bs.fine_len (valid_fine hf)
  have ht := (Bs.top_dist g).le
  have h1 := Bs.headsK_mid (valid_fine hf) _ (Nat.le_refl _)
  have h2 := Bs.tailsC_spec (valid_fine hf) (valid_full hf)
  have h3 : ∀ i, i < g.length → 0 ≤ Bs.gi (Bs.tailsC g) i ∧ Bs.gi (Bs.tailsC g) i ≤ 160 := by
    intro i hi
    have a := h2.lo i hi
    have b := h2.hi i hi
    omega
  refine ⟨h1.len, h2.len, Bs.maxL_nonneg _, Bs.maxL_le (by omega) ?_, ?_⟩
  · intro y hy
    obtain ⟨i, hi, rfl⟩ := List.mem_iff_getElem.1 hy
    have := h3 i (by rw [← h2.len]; exact hi)
    unfold Bs.gi at this
    rw [List.getD_eq_getElem?_getD, List.getElem?_eq_getElem hi] at this
    exact this.2
  · intro i hi
    have a := h1.lo i hi
    have b := h1.hi i hi
    have e : Bs.headsC g = Bs.headsK g (Bs.top g).length := rfl
    rw [e]
    have := h3 i hi
    omega
theorem RI.gi {w : World} {lo hi : Nat} {A : Option Addr} {l : List Int} (h : RI w lo hi A l) {k : Nat} (hk : k < l.length) : ∃ b o, A = some ⟨b, o, none⟩ ∧ lo ≤ b ∧ b < hi ∧ w.cell? ⟨b, o + k, none⟩ = some (.int .i64 (Bs.gi l k)) := by
  obtain ⟨b, o, e, h1, h2, hc⟩ := h k hk
  refine ⟨b, o, e, h1, h2, ?_⟩
  rw [hc]
  unfold Bs.gi
  rw [List.getD_eq_getElem?_getD, List.getElem?_eq_getElem hk]
  rfl
def slackTo (L : Int) (h t : List Int) (n k : Nat) : List Int := (List.range n).map fun i => if i < k then L - Bs.gi h i - Bs.gi t i else 0
theorem slackTo_zero (L : Int) (h t : List Int) (n : Nat) : slackTo L h t n 0 = List.replicate n 0 := by
  refine List.ext_getElem (by simp [slackTo]) ?_
  intro i h1 h2
  simp [slackTo]
theorem slackTo_full (L : Int) (h t : List Int) (n : Nat) : slackTo L h t n n = (List.range n).map fun i => L - Bs.gi h i - Bs.gi t i := by
  refine List.ext_getElem (by simp [slackTo]) ?_
  intro i h1 h2
  simp [slackTo] at h1 ⊢
  intro h3
  omega
theorem slackTo_set (L : Int) (h t : List Int) (n k : Nat) : (slackTo L h t n k).set k (L - Bs.gi h k - Bs.gi t k) = slackTo L h t n (k + 1) := by
  refine List.ext_getElem (by simp [slackTo]) ?_
  intro i h1 h2
  rw [List.getElem_set]
  simp only [slackTo, List.getElem_map, List.getElem_range]
  by_cases e : k = i
  · subst e
    rw [if_pos rfl, if_pos (by omega)]
  · rw [if_neg e]
    by_cases e2 : i < k
    · rw [if_pos e2, if_pos (by omega)]
    · rw [if_neg e2, if_neg (by omega)]
theorem slackTo_len (L : Int) (h t : List Int) (n k : Nat) : (slackTo L h t n k).length = n := by simp [slackTo]
end Go.Proofs.Ytihgakbopkaemaa
