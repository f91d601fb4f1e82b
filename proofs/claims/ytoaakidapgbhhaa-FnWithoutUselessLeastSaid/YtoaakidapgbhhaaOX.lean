/-
  WORDS FOR MEMORY: a copy of a row of tasks, and other needs are set for one of them. No condition.
-/
import Derived.Test.YtoaakidapgbhhaaK28
import Derived.Test.YtoaakidapgbhhaaMath14
namespace Go.Proofs.Ytoaakidapgbhhaa
open Go.RowKit
theorem OU.needsG {w W : World} {B lo hi : Nat} {A : Option Addr} {c b : Nat} {g : List Bs.T} {rs : List RW} {b0 o0 : Nat} (h : OU w B A c rs) (h0 : 0 < g.length) (hl : rs.length = g.length)
    (hr : ∀ k (hk : k < rs.length) (hk' : k < g.length), RowOk W lo hi b0 o0 k g[k] rs[k]) (hb : Below hi W w) (hlo : lo ≤ B) (hhi : hi ≤ B) (hB : B ≤ w.heap.size) (hA : A = some ⟨b, 0, none⟩) (i : Nat) (hi' : i < g.length)
    (N : Option Addr) (cN : Nat) (m : List Int) (hm : m.length ≤ cN) (hcN : cN ≤ 9223372036854775807) (hN : RI W lo hi N m) :
    RG (w.setCell ⟨b, i * 4 + 1, none⟩ (.slice N m.length cN)) lo w.heap.size A (Bs.setN g i m) := by
  subst hA
  obtain ⟨b', hA, hbB, hlt, hc, _⟩ := h.blk (by omega)
  cases hA
  obtain ⟨V, hV⟩ : ∃ V, V = w.setCell ⟨b, i * 4 + 1, none⟩ (.slice N m.length cN) := ⟨_, rfl⟩
  have hc' : ∀ k (hk : k < rs.length) j u, j < 4 → (tcU rs[k])[j]? = some u → w.cell? ⟨b, k * 4 + j, none⟩ = some u := fun k hk j u hj hu => hc _ _ ((tcU_at _ k hk j hj).trans hu)
  have hfar : ∀ j, j ≠ i * 4 + 1 → V.cell? ⟨b, j, none⟩ = w.cell? ⟨b, j, none⟩ := by
    intro j hj
    rw [hV, World.cell?_setCell_other _ _ _ _ (fun e => hj (by cases e; rfl))]
  have hnew : V.cell? ⟨b, i * 4 + 1, none⟩ = some (.slice N m.length cN) := by
    rw [hV]
    exact World.cell?_setCell_same _ _ _ (hc' i (by omega) 1 _ (by omega) rfl)
  have hbel : Below hi W V := by
    rw [hV]
    exact hb.setCell (by show hi ≤ b; omega) _
  rw [← hV]
  intro k hk0
  have hk : k < g.length := by rw [Bs.setN_len] at hk0; exact hk0
  obtain ⟨e0, _, e2, e3, e4⟩ := hr k (by omega) hk
  have hg0 := Bs.setN_get g i m k
  rw [List.getElem?_eq_getElem (by rw [Bs.setN_len]; exact hk), List.getElem?_eq_getElem hk] at hg0
  have hN2 : RI V lo w.heap.size rs[k].N rs[k].t.needs := (e4.below hbel (Nat.le_refl _)).more (Nat.le_refl _) (by omega)
  have c0 := (hfar (k * 4) (by omega)).trans (hc' k (by omega) 0 _ (by omega) rfl)
  have c2 := (hfar (k * 4 + 2) (by omega)).trans (hc' k (by omega) 2 _ (by omega) rfl)
  have c3 := (hfar (k * 4 + 3) (by omega)).trans (hc' k (by omega) 3 _ (by omega) rfl)
  rw [e0] at e2 hN2 c0 c2 c3
  by_cases e : k = i
  · subst e
    rw [if_pos rfl] at hg0
    have hg1 : (Bs.setN g k m)[k]'(by rw [Bs.setN_len]; exact hk) = { g[k] with needs := m } := by simpa using hg0
    rw [hg1]
    refine ⟨b, 0, N, cN, rfl, by omega, by omega, ?_, ?_, ?_, ?_, hm, hcN, ?_⟩
    · rw [Nat.zero_add]; exact c0
    · rw [Nat.zero_add]; exact hnew
    · rw [Nat.zero_add]; exact c2
    · rw [Nat.zero_add]; exact c3
    · exact (hN.below hbel (Nat.le_refl _)).more (Nat.le_refl _) (by omega)
  · rw [if_neg e] at hg0
    have hg1 : (Bs.setN g i m)[k]'(by rw [Bs.setN_len]; exact hk) = g[k] := by simpa using hg0
    rw [hg1]
    have c1 := (hfar (k * 4 + 1) (by omega)).trans (hc' k (by omega) 1 _ (by omega) rfl)
    rw [e0] at c1
    refine ⟨b, 0, rs[k].N, rs[k].c, rfl, by omega, by omega, ?_, ?_, ?_, ?_, e2, e3, hN2⟩
    · rw [Nat.zero_add]; exact c0
    · rw [Nat.zero_add]; exact c1
    · rw [Nat.zero_add]; exact c2
    · rw [Nat.zero_add]; exact c3
theorem copiedG {wr w5 : World} {lo hi b o : Nat} {A : Option Addr} {c : Nat} {g : List Bs.T} {rs : List RW} (ho : OU w5 wr.heap.size A c ([] ++ rs)) (hb5 : Below wr.heap.size (wr.alloc (.cells #[] 29)) w5)
    (hl : rs.length = g.length) (hr : ∀ k (hk : k < rs.length) (hk' : k < g.length), RowOk wr lo hi b o k g[k] rs[k]) (hlo : lo ≤ hi) (hhi : hi ≤ wr.heap.size) {i : Nat} (hi' : i < g.length)
    (N : Option Addr) (cN : Nat) (m : List Int) (hm : m.length ≤ cN) (hcN : cN ≤ 9223372036854775807) (hN : RI wr lo hi N m) :
    ∃ bb, A = some ⟨bb, 0, none⟩ ∧ wr.heap.size ≤ bb ∧ bb < w5.heap.size ∧ (∃ v, w5.cell? ⟨bb, i * 4 + 1, none⟩ = some v) ∧ w5.frozen? ⟨bb, i * 4 + 1, none⟩ = false ∧ wr.heap.size ≤ w5.heap.size ∧ Below wr.heap.size wr w5 ∧
      RG (w5.setCell ⟨bb, i * 4 + 1, none⟩ (.slice N m.length cN)) lo w5.heap.size A (Bs.setN g i m) ∧ Below wr.heap.size wr (w5.setCell ⟨bb, i * 4 + 1, none⟩ (.slice N m.length cN)) := by
  rw [List.nil_append] at ho
  obtain ⟨bb, hA, hbb, hlt, hc, hf⟩ := ho.blk (by omega)
  have hb6 : Below wr.heap.size wr w5 := (Below.alloc (Below.refl wr.heap.size wr) (Nat.le_refl _) _).trans hb5
  have hs := hb6.size
  exact ⟨bb, hA, hbb, hlt, ⟨_, hc _ _ ((tcU_at rs i (by omega) 1 (by omega)).trans rfl)⟩, hf _, hs, hb6, ho.needsG (W := wr) (by omega) hl hr (hb6.mono hhi) (Nat.le_trans hlo hhi) hhi hs hA i hi' N cN m hm hcN hN, hb6.setCell hbb _⟩
end Go.Proofs.Ytoaakidapgbhhaa
