/-
  WALKS: lists of bools in memory: how they read, copies of them, comparisons. No condition.
-/
import Derived.Test.YtoggbndpjcfmiaaW6
namespace Go.Proofs.Ytoggbndpjcfmiaa
open Go.RowKit
/-- slice address A reads as the list l of bools, its blocks in lo..hi-1 -/
def RL (w : World) (lo hi : Nat) (A : Option Addr) (l : List Bool) : Prop :=
  ∀ k (hk : k < l.length), ∃ b o, A = some ⟨b, o, none⟩ ∧ lo ≤ b ∧ b < hi ∧ w.cell? ⟨b, o + k, none⟩ = some (.bool l[k])
theorem RL.at_ {w : World} {lo hi : Nat} {A : Option Addr} {l : List Bool} (h : RL w lo hi A l) {k : Nat} (hk : k < l.length) :
    ∃ b o, A = some ⟨b, o, none⟩ ∧ lo ≤ b ∧ b < hi ∧ w.cell? ⟨b, o + k, none⟩ = some (.bool l[k]) := h k hk
theorem RL.nil {w : World} {lo hi : Nat} {A : Option Addr} : RL w lo hi A [] := fun k hk => absurd hk (by simp)
theorem RL.keep {w w' : World} {lo hi : Nat} {A : Option Addr} {l : List Bool} (h : RL w lo hi A l) (hk : ∀ p : Addr, lo ≤ p.block → p.block < hi → w'.cell? p = w.cell? p) : RL w' lo hi A l := by
  intro k hl
  obtain ⟨b, o, e, h1, h2, hc⟩ := h k hl
  exact ⟨b, o, e, h1, h2, (hk ⟨b, o + k, none⟩ h1 h2).trans hc⟩
theorem RL.more {w : World} {lo hi lo' hi' : Nat} {A : Option Addr} {l : List Bool} (h : RL w lo hi A l) (h1 : lo' ≤ lo) (h2 : hi ≤ hi') : RL w lo' hi' A l := by
  intro k hl
  obtain ⟨b, o, e, g1, g2, hc⟩ := h k hl
  exact ⟨b, o, e, by omega, by omega, hc⟩
theorem RL.below {w w' : World} {lo hi : Nat} {A : Option Addr} {l : List Bool} {B : Nat} (h : RL w lo hi A l) (hb : Below B w w') (hB : hi ≤ B) : RL w' lo hi A l :=
  h.keep fun _ _ hp => hb.cell (by omega)
theorem Try.infoB : (Try.prog.info? 4).map (fun i => (i.zero, i.size, i.bytes)) = some (some (.bool false), 1, 1) := by kernel_rfl
/-- the cells of a copy when k are done -/
def fillL (l : List Bool) (k : Nat) : Array Value := ((l.take k ++ List.replicate (l.length - k) false).map (Value.bool)).toArray
theorem fillL_zero (l : List Bool) : fillL l 0 = madeCells #[.bool false] l.length := by
  apply Array.ext
  · simp [fillL, madeCells]
  · intro i h1 h2
    simp [fillL, madeCells]
    have : i % 1 = 0 := by omega
    rw [this]
    rfl
theorem fillL_size (l : List Bool) (k : Nat) (hk : k ≤ l.length) : (fillL l k).size = l.length := by simp [fillL]; omega
theorem fillL_set (l : List Bool) (k : Nat) (hk : k < l.length) : (fillL l k).setIfInBounds k (.bool l[k]) = fillL l (k + 1) := by
  apply Array.ext
  · simp [fillL]; omega
  · intro i h1 h2
    rw [Array.getElem_setIfInBounds (by simpa using h1)]
    simp only [fillL, List.getElem_toArray, List.getElem_map, List.getElem_append, List.length_take, List.getElem_take, List.getElem_replicate]
    by_cases e : k = i
    · subst e
      rw [if_pos rfl, dif_pos (by omega)]
    · rw [if_neg e]
      by_cases e2 : i < k
      · rw [dif_pos (by omega), dif_pos (by omega)]
      · rw [dif_neg (by omega), dif_neg (by omega)]
theorem fillL_get (l : List Bool) (k i : Nat) (hi : i < l.length) (hk : k ≤ l.length) : ∃ v, (fillL l k)[i]? = some v := by
  exact ⟨_, Array.getElem?_eq_getElem (by rw [fillL_size l k hk]; exact hi)⟩
theorem fillL_full (l : List Bool) (i : Nat) (hi : i < l.length) : (fillL l l.length)[i]? = some (.bool l[i]) := by
  simp [fillL, hi]

end Go.Proofs.Ytoggbndpjcfmiaa
