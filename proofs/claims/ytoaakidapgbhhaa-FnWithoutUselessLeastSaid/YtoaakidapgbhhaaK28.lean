/-
  MERGED TEXTS: OU OV.
-/
import Derived.Test.YtoaakidapgbhhaaL1
import Derived.Test.YtoaakidapgbhhaaOU0
import Derived.Test.YtoaakidapgbhhaaMath14
namespace Go.Proofs.Ytoaakidapgbhhaa
end Go.Proofs.Ytoaakidapgbhhaa
namespace Go.Proofs.Ytoaakidapgbhhaa
open Go.RowKit
theorem OU.needs {w W : World} {B lo hi : Nat} {A : Option Addr} {c b : Nat} {g : List Bs.T} {rs : List RW} {b0 o0 : Nat} (h : OU w B A c rs) (h0 : 0 < g.length) (hl : rs.length = g.length)
    (hr : ∀ k (hk : k < rs.length) (hk' : k < g.length), RowOk W lo hi b0 o0 k g[k] rs[k]) (hb : Below hi W w) (hlo : lo ≤ B) (hhi : hi ≤ B) (hB : B ≤ w.heap.size) (hA : A = some ⟨b, 0, none⟩) (i : Nat) (hi' : i < g.length) (x : Int) :
    RG ((w.alloc (.cells #[.int .i64 x] 3)).setCell ⟨b, i * 4 + 1, none⟩ (.slice (some ⟨w.heap.size, 0, none⟩) 1 1)) lo (w.heap.size + 1) A (Bs.setN g i [x]) := by
  subst hA
  obtain ⟨b', hA, hbB, hlt, hc, _⟩ := h.blk (by omega)
  cases hA
  obtain ⟨V, hV⟩ : ∃ V, V = (w.alloc (.cells #[.int .i64 x] 3)).setCell ⟨b, i * 4 + 1, none⟩ (.slice (some ⟨w.heap.size, 0, none⟩) 1 1) := ⟨_, rfl⟩
  have hw : ∀ p : Addr, p.block < w.heap.size → (w.alloc (.cells #[.int .i64 x] 3)).cell? p = w.cell? p := fun p hp => (Below.alloc (Below.refl w.heap.size w) (Nat.le_refl _) _).cell hp
  have hc' : ∀ k (hk : k < rs.length) j u, j < 4 → (tcU rs[k])[j]? = some u → w.cell? ⟨b, k * 4 + j, none⟩ = some u := fun k hk j u hj hu => hc _ _ ((tcU_at _ k hk j hj).trans hu)
  have hfar : ∀ j, j ≠ i * 4 + 1 → V.cell? ⟨b, j, none⟩ = w.cell? ⟨b, j, none⟩ := by
    intro j hj
    rw [hV, World.cell?_setCell_other _ _ _ _ (fun e => hj (by cases e; rfl))]
    exact hw _ hlt
  have hnew : V.cell? ⟨b, i * 4 + 1, none⟩ = some (.slice (some ⟨w.heap.size, 0, none⟩) 1 1) := by
    rw [hV]
    exact World.cell?_setCell_same _ _ _ ((hw _ hlt).trans (hc' i (by omega) 1 _ (by omega) rfl))
  have hrow : V.cell? ⟨w.heap.size, 0, none⟩ = some (.int .i64 x) := by
    rw [hV, World.cell?_setCell_other _ _ _ _ (fun e => by cases e), (Blk.new w _ _).cell]; rfl
  have hbel : Below hi W V := by
    rw [hV]
    exact (hb.alloc (by omega) _).setCell (by show hi ≤ b; omega) _
  rw [← hV]
  intro k hk0
  have hk : k < g.length := by rw [Bs.setN_len] at hk0; exact hk0
  obtain ⟨e0, _, e2, e3, e4⟩ := hr k (by omega) hk
  have hg0 := Bs.setN_get g i [x] k
  rw [List.getElem?_eq_getElem (by rw [Bs.setN_len]; exact hk), List.getElem?_eq_getElem hk] at hg0
  have hN : RI V lo (w.heap.size + 1) rs[k].N rs[k].t.needs := (e4.below hbel (Nat.le_refl _)).more (Nat.le_refl _) (by omega)
  have c0 := (hfar (k * 4) (by omega)).trans (hc' k (by omega) 0 _ (by omega) rfl)
  have c2 := (hfar (k * 4 + 2) (by omega)).trans (hc' k (by omega) 2 _ (by omega) rfl)
  have c3 := (hfar (k * 4 + 3) (by omega)).trans (hc' k (by omega) 3 _ (by omega) rfl)
  rw [e0] at e2 hN c0 c2 c3
  by_cases e : k = i
  · subst e
    rw [if_pos rfl] at hg0
    have hg1 : (Bs.setN g k [x])[k]'(by rw [Bs.setN_len]; exact hk) = { g[k] with needs := [x] } := by simpa using hg0
    rw [hg1]
    refine ⟨b, 0, some ⟨w.heap.size, 0, none⟩, 1, rfl, by omega, by omega, ?_, ?_, ?_, ?_, Nat.le_refl _, by omega, ?_⟩
    · rw [Nat.zero_add]; exact c0
    · rw [Nat.zero_add]; exact hnew
    · rw [Nat.zero_add]; exact c2
    · rw [Nat.zero_add]; exact c3
    · intro j hj
      have hj0 : j = 0 := by simp at hj; omega
      subst hj0
      exact ⟨w.heap.size, 0, rfl, by omega, by omega, hrow⟩
  · rw [if_neg e] at hg0
    have hg1 : (Bs.setN g i [x])[k]'(by rw [Bs.setN_len]; exact hk) = g[k] := by simpa using hg0
    rw [hg1]
    have c1 := (hfar (k * 4 + 1) (by omega)).trans (hc' k (by omega) 1 _ (by omega) rfl)
    rw [e0] at c1
    refine ⟨b, 0, rs[k].N, rs[k].c, rfl, by omega, by omega, ?_, ?_, ?_, ?_, e2, e3, hN⟩
    · rw [Nat.zero_add]; exact c0
    · rw [Nat.zero_add]; exact c1
    · rw [Nat.zero_add]; exact c2
    · rw [Nat.zero_add]; exact c3
theorem copiedN {wr w5 : World} {lo hi b o : Nat} {A : Option Addr} {c : Nat} {g : List Bs.T} {rs : List RW} (ho : OU w5 wr.heap.size A c ([] ++ rs)) (hb5 : Below wr.heap.size (wr.alloc (.cells #[] 29)) w5)
    (hl : rs.length = g.length) (hr : ∀ k (hk : k < rs.length) (hk' : k < g.length), RowOk wr lo hi b o k g[k] rs[k]) (hlo : lo ≤ hi) (hhi : hi ≤ wr.heap.size) {i : Nat} (hi' : i < g.length) (x : Int) :
    ∃ bb, A = some ⟨bb, 0, none⟩ ∧ wr.heap.size ≤ bb ∧ bb < w5.heap.size ∧ (∃ v, (w5.alloc (.cells #[.int .i64 x] 3)).cell? ⟨bb, i * 4 + 1, none⟩ = some v) ∧ (w5.alloc (.cells #[.int .i64 x] 3)).frozen? ⟨bb, i * 4 + 1, none⟩ = false ∧ wr.heap.size ≤ w5.heap.size ∧
      RG ((w5.setCell ⟨bb, i * 4 + 1, none⟩ (.slice (some ⟨w5.heap.size, 0, none⟩) 1 1)).alloc (.cells #[.int .i64 x] 3)) lo (w5.heap.size + 1) A (Bs.setN g i [x]) ∧
      Below wr.heap.size wr ((w5.setCell ⟨bb, i * 4 + 1, none⟩ (.slice (some ⟨w5.heap.size, 0, none⟩) 1 1)).alloc (.cells #[.int .i64 x] 3)) := by
  rw [List.nil_append] at ho
  obtain ⟨bb, hA, hbb, hlt, hc, hf⟩ := ho.blk (by omega)
  have hb6 : Below wr.heap.size wr w5 := (Below.alloc (Below.refl wr.heap.size wr) (Nat.le_refl _) _).trans hb5
  have hs := hb6.size
  have hal := Below.alloc (Below.refl w5.heap.size w5) (Nat.le_refl _) (.cells #[.int .i64 x] 3)
  refine ⟨bb, hA, hbb, hlt, ⟨_, (hal.cell hlt).trans (hc _ _ ((tcU_at rs i (by omega) 1 (by omega)).trans rfl))⟩, (hal.frozen hlt).trans (hf _), hs, ?_, ?_⟩
  · have h1 := ho.needs (W := wr) (by omega) hl hr (hb6.mono hhi) (Nat.le_trans hlo hhi) hhi hs hA i hi' x
    rwa [World.setCell_alloc_past _ _ _ _ hlt] at h1
  · have h1 := (hb6.alloc hs (.cells #[.int .i64 x] 3)).setCell (p := ⟨bb, i * 4 + 1, none⟩) hbb (.slice (some ⟨w5.heap.size, 0, none⟩) 1 1)
    rwa [World.setCell_alloc_past _ _ _ _ hlt] at h1
theorem RG.take {w : World} {lo hi : Nat} {A : Option Addr} {g : List Bs.T} (h : RG w lo hi A g) (n : Nat) : RG w lo hi A (g.take n) := by
  intro k hk
  have hk' : k < g.length := by rw [List.length_take] at hk; omega
  have := h k hk'
  rw [List.getElem_take]
  exact this
end Go.Proofs.Ytoaakidapgbhhaa
