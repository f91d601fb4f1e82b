/-
  WORDS FOR MEMORY: a number in a row is another one. No condition.
-/
import Derived.Test.YtbmfhnijbdmjbaaK1
namespace Go.Proofs.Ytbmfhnijbdmjbaa
open Go.RowKit
theorem OI.setA {w : World} {B : Nat} {A : Option Addr} {c : Nat} {l : List Int} (h : OI w B A c l) {k : Nat} (hk : k < l.length) :
    ∃ b, A = some ⟨b, 0, none⟩ ∧ B ≤ b ∧ b < w.heap.size ∧ w.cell? ⟨b, k, none⟩ = some (.int .i64 l[k]) ∧ w.frozen? ⟨b, k, none⟩ = false := by
  have hr := h.ri
  rcases h.2 with ⟨hv, hn⟩ | ⟨b, cap, cur, hv, hb, hg, hnc, hcm, hcs, ht⟩
  · omega
  · injection hv with hA hn hc
    subst hA
    obtain ⟨b', o', e, _, hlt, hc0⟩ := hr k hk
    cases e
    rw [Nat.zero_add] at hc0
    exact ⟨b, rfl, hb, hlt, hc0, by simp [World.frozen?, hg]⟩
theorem OI.setO {w : World} {B : Nat} {A : Option Addr} {c : Nat} {l : List Int} (h : OI w B A c l) {k : Nat} (hk : k < l.length) (x : Int) :
    ∃ b, A = some ⟨b, 0, none⟩ ∧ B ≤ b ∧ b < w.heap.size ∧ w.cell? ⟨b, k, none⟩ = some (.int .i64 l[k]) ∧ w.frozen? ⟨b, k, none⟩ = false ∧ OI (w.setCell ⟨b, k, none⟩ (.int .i64 x)) B A c (l.set k x) := by
  obtain ⟨b', e', g1, g2, g3, g4⟩ := h.setA hk
  rcases h.2 with ⟨hv, hn⟩ | ⟨b, cap, cur, hv, hb, hg, hnc, hcm, hcs, ht⟩
  · omega
  · have hv2 := hv
    injection hv2 with hA hn hc
    subst hA
    cases e'
    refine ⟨b', rfl, hb, g2, g3, g4, by simp, .inr ⟨b', cap, cur.setIfInBounds k (.int .i64 x), by rw [List.length_set]; exact hv, hb, Blk.set_ hg k _, by rw [List.length_set]; exact hnc, hcm, by rw [Array.size_setIfInBounds]; exact hcs, ?_⟩⟩
    rw [List.length_set, Array.toList_setIfInBounds, List.take_set, ht, List.map_set]
end Go.Proofs.Ytbmfhnijbdmjbaa
