/-
  WORDS FOR MEMORY: a row of tasks of the call's own, without needs. No condition.
-/
import Derived.Test.YtjahmejmkijkaaaL1
import Derived.Test.YtjahmejmkijkaaaK2
namespace Go.Proofs.Ytjahmejmkijkaaa
open Go.RowKit
/-- a task's cells, without needs -/
def tc0 (t : Bs.T) : List Value := [.int .i64 t.time, .slice none 0 0, .int .i64 t.pool, .int .i64 t.units]
def OT (w : World) (B : Nat) (A : Option Addr) (c : Nat) (g : List Bs.T) : Prop := w.ownsRow B 37 4 (.slice A g.length c) g.length (g.flatMap tc0)
theorem tc_at : ∀ (g : List Bs.T) (k : Nat) (hk : k < g.length) (j : Nat), j < 4 → (g.flatMap tc0)[k * 4 + j]? = (tc0 g[k])[j]?
  | t :: r, 0, _, j, hj => by
    rw [List.flatMap_cons, List.getElem?_append_left (by simp [tc0]; omega)]
    simp
  | t :: r, k + 1, hk, j, hj => by
    rw [List.flatMap_cons, List.getElem?_append_right (by simp [tc0]; omega)]
    have := tc_at r k (by simpa using hk) j hj
    rw [show (k + 1) * 4 + j - (tc0 t).length = k * 4 + j from by simp [tc0]; omega, this]
    simp
theorem tc_one {g : List Bs.T} {u : Value} (h : u ∈ g.flatMap tc0) : u.oneCell' = true := by
  rw [List.mem_flatMap] at h
  obtain ⟨t, _, h⟩ := h
  simp only [tc0, List.mem_cons, List.not_mem_nil, or_false] at h
  rcases h with rfl | rfl | rfl | rfl <;> rfl
theorem OT.len {g : List Bs.T} : (g.flatMap tc0).length = g.length * 4 := by
  induction g with
  | nil => rfl
  | cons t r ih => rw [List.flatMap_cons, List.length_append, ih]; simp [tc0]; omega
theorem OT.nil (w : World) (B : Nat) (hB : B ≤ w.heap.size) : OT (w.alloc (.cells #[] 37)) B (some ⟨w.heap.size, 0, none⟩) 0 [] :=
  World.ownsRow_made w #[] 0 hB (Nat.zero_le _) (by simp)
theorem OT.alloc {w : World} {B : Nat} {A : Option Addr} {c : Nat} {g : List Bs.T} (h : OT w B A c g) (o : Obj) : OT (w.alloc o) B A c g := World.ownsRow.alloc h o
theorem OT.drewN {w : World} {B : Nat} {A : Option Addr} {c : Nat} {g : List Bs.T} (h : OT w B A c g) (n : Nat) : OT (w.drewN n) B A c g := h
theorem OT.form {w : World} {B : Nat} {v : Value} {g : List Bs.T} (h : w.ownsRow B 37 4 v g.length (g.flatMap tc0)) : ∃ A c, v = .slice A g.length c ∧ OT w B A c g := by
  rcases h.2 with ⟨hv, hn⟩ | ⟨b, cap, cur, hv, hb, hg, hnc, hcm, hcs, ht⟩
  · refine ⟨none, 0, by rw [hv, hn], ?_⟩
    unfold OT
    rw [hn] at h ⊢
    rw [hv] at h
    exact h
  · refine ⟨_, cap, hv, ?_⟩
    unfold OT
    rw [hv] at h
    exact h
theorem OT.cap {w : World} {B : Nat} {A : Option Addr} {c : Nat} {g : List Bs.T} (h : OT w B A c g) : g.length ≤ c ∧ c ≤ maxLen := by
  rcases h.2 with ⟨hv, hn⟩ | ⟨b, cap, cur, hv, hb, hg, hnc, hcm, hcs, ht⟩
  · injection hv with hA hn hc
    subst hc
    exact ⟨by omega, Nat.zero_le _⟩
  · injection hv with hA hn hc
    subst hc
    exact ⟨hnc, hcm⟩
/-- the block of a row that is not empty -/
theorem OT.blk {w : World} {B : Nat} {A : Option Addr} {c : Nat} {g : List Bs.T} (h : OT w B A c g) (h0 : 0 < g.length) :
    ∃ b, A = some ⟨b, 0, none⟩ ∧ B ≤ b ∧ b < w.heap.size ∧ (∀ j u, (g.flatMap tc0)[j]? = some u → w.cell? ⟨b, j, none⟩ = some u) ∧ ∀ j, w.frozen? ⟨b, j, none⟩ = false := by
  rcases h.2 with ⟨hv, hn⟩ | ⟨b, cap, cur, hv, hb, hg, hnc, hcm, hcs, ht⟩
  · omega
  · injection hv with hA hn hc
    subst hA
    refine ⟨b, rfl, hb, (Array.getElem?_eq_some_iff.1 hg).1, ?_, fun j => by simp [World.frozen?, hg]⟩
    intro j u hu
    have h1 := h.cells (g := b) (by simp [Value.ownBlock]) j u hu
    rwa [Addr.add_lit, Nat.zero_add] at h1
theorem OT.rg {w : World} {B : Nat} {A : Option Addr} {c : Nat} {g : List Bs.T} (h : OT w B A c (g.map Bs.bare)) : RG w B w.heap.size A (g.map Bs.bare) := by
  intro k hk
  obtain ⟨b, hA, hb, hlt, hc, _⟩ := h.blk (by omega)
  have hc' : ∀ j u, j < 4 → (tc0 (g.map Bs.bare)[k])[j]? = some u → w.cell? ⟨b, 0 + k * 4 + j, none⟩ = some u := by
    intro j u hj hu
    rw [Nat.zero_add]
    exact hc _ _ ((tc_at _ k hk j hj).trans hu)
  have hn : (g.map Bs.bare)[k].needs = [] := by simp [Bs.bare]
  refine ⟨b, 0, none, 0, hA, hb, hlt, hc' 0 _ (by omega) rfl, ?_, hc' 2 _ (by omega) rfl, hc' 3 _ (by omega) rfl, ?_, by omega, ?_⟩
  · rw [hn]; exact hc' 1 _ (by omega) rfl
  · rw [hn]; exact Nat.le_refl _
  · rw [hn]; exact RI.nil
theorem run_push_tasks0 {w : World} {ty : TypeId} (B : Nat) (A : Option Addr) (c : Nat) (l m : List Bs.T) (hown : OT w B A c l)
    (b cc : Nat) (hc : ∀ j u, (m.flatMap tc0)[j]? = some u → w.cell? ⟨b, j, none⟩ = some u) (hlen : l.length + m.length ≤ 1000000000) (hB : B ≤ w.heap.size) :
    ∃ A' c' w', (Builtin.append_ #[23, 23] ty #[.slice A l.length c, .slice (some ⟨b, 0, none⟩) m.length cc]).run Try.prog w = .ok (.slice A' (l.length + m.length) c') w' ∧ OT w' B A' c' (l ++ m) ∧ Below B w w' := by
  obtain ⟨i0, hi0, hz0, hz1, hz2⟩ := info_parts Try.infoTaskD
  obtain ⟨v', w', hr, hown', hg, _⟩ := run_append_own (P := Try.prog) w B 23 ty 37 i0 _ 4 48 Try.underlying23 hi0 hz0 hz1 hz2 rfl (by decide) _ _ _ hown ⟨b, 0, none⟩ m.length cc (m.flatMap tc0) OT.len
    (by intro j u hj; rw [Addr.add_lit, Nat.zero_add]; exact hc j u hj) (fun u hu => tc_one hu) (by unfold maxLen; omega) (by omega) hB
  have h1 : w'.ownsRow B 37 4 v' (l ++ m).length ((l ++ m).flatMap tc0) := by
    rw [List.length_append, List.flatMap_append]
    exact hown'
  obtain ⟨A', c', hv, ho'⟩ := OT.form h1
  rw [hv, List.length_append] at hr
  refine ⟨A', c', w', hr, ho', ?_⟩
  refine (Below.refl B w).grown hg hB ?_
  intro k hk
  exact (hown.lt k hk).1
/-- 'g = append(g, x...)' of such tasks -/
theorem push_tasks {ops : Array Oper} {rest : List Oper} {o : Oper} {a : Act} {Q : Exit → Act → World → Prop} {w : World} (hgd : o.guard = none) (s x : Operand)
    (ho : o.op = .call { callee := .builtin .append, args := #[s, x], argTypes := #[23, 23] })
    (B : Nat) (A : Option Addr) (c : Nat) (l m : List Bs.T) (hs : a.eval s = .slice A l.length c) (hown : OT w B A c l)
    (b cc : Nat) (hx : a.eval x = .slice (some ⟨b, 0, none⟩) m.length cc) (hc : ∀ j u, (m.flatMap tc0)[j]? = some u → w.cell? ⟨b, j, none⟩ = some u) (hlen : l.length + m.length ≤ 1000000000) (hB : B ≤ w.heap.size)
    (h : ∀ A' c' w', OT w' B A' c' (l ++ m) → Below B w w' → wpList Try.prog ops Q rest (a.put o.dst (.slice A' (l.length + m.length) c')) w') : wpList Try.prog ops Q (o :: rest) a w := by
  refine wpList_plain hgd fun K hK => ?_
  obtain ⟨A', c', w', hr, h1, h2⟩ := run_push_tasks0 (ty := o.type) B A c l m hown b cc hc hlen hB
  unfold Oper.wp
  simp [execOp, ho, resolve, invoke, builtin, hs, hx, hr, Result.andThen]
  exact hK _ _ (h A' c' w' h1 h2)
/-- 'append(g, t)', in a region that draws its order -/
theorem step_push_task {ops : Array Oper} {o : Oper} {a : Act} {w : World} {K : Act → World → Prop} {Q : Exit → Act → World → Prop} {E : Prop} (hgd : o.guard = none) (s x : Operand)
    (ho : o.op = .call { callee := .builtin .append, args := #[s, x], argTypes := #[23, 23] })
    (B : Nat) (A : Option Addr) (c : Nat) (l : List Bs.T) (t : Bs.T) (hs : a.eval s = .slice A l.length c) (hown : OT w B A c l)
    (b cc : Nat) (hx : a.eval x = .slice (some ⟨b, 0, none⟩) 1 cc) (hc : ∀ j u, (tc0 t)[j]? = some u → w.cell? ⟨b, j, none⟩ = some u) (hlen : l.length ≤ 100000000) (hB : B ≤ w.heap.size)
    (h : ∀ A' c' w', OT w' B A' c' (l ++ [t]) → Below B w w' → K (a.put o.dst (.slice A' (l.length + 1) c')) w') :
    if Region.wanted o (yielded ops a.tmps) = true then Oper.wp Try.prog o a w K Q else E := by
  have hw : Region.wanted o (yielded ops a.tmps) = true := by simp [Region.wanted, hgd]
  rw [if_pos hw]
  obtain ⟨A', c', w', hr, h1, h2⟩ := run_push_tasks0 (ty := o.type) B A c l [t] hown b cc (by intro j u hu; exact hc j u (by simpa using hu)) (by simp; omega) hB
  simp only [List.length_cons, List.length_nil, Nat.zero_add] at hr
  unfold Oper.wp
  simp [execOp, ho, resolve, invoke, builtin, hs, hx, hr, Result.andThen]
  exact h A' c' w' h1 h2
theorem new_cells (w : World) (t : Bs.T) : ∀ j u, (tc0 t)[j]? = some u → (w.alloc (.cells #[.int .i64 t.time, .slice none 0 0, .int .i64 t.pool, .int .i64 t.units] 37)).cell? ⟨w.heap.size, j, none⟩ = some u := by
  intro j u hu
  rw [(Blk.new w _ _).cell]
  simpa [tc0] using hu
/-- the first task is made to need itself -/
theorem OT.self {w : World} {B : Nat} {A : Option Addr} {c b : Nat} {g : List Bs.T} (h : OT w B A c (g.map Bs.bare)) (h0 : 0 < g.length) (hA : A = some ⟨b, 0, none⟩) (hB : b < w.heap.size) :
    RG ((w.alloc (.cells #[.int .i64 0] 3)).setCell ⟨b, 1, none⟩ (.slice (some ⟨w.heap.size, 0, none⟩) 1 1)) B (w.heap.size + 1) A (Bs.selfG (g.map Bs.bare)) := by
  subst hA
  obtain ⟨b', hA, hb, hlt, hc, _⟩ := h.blk (by simpa using h0)
  cases hA
  have hw : ∀ p : Addr, p.block < w.heap.size → (w.alloc (.cells #[.int .i64 0] 3)).cell? p = w.cell? p := fun p hp => (Below.alloc (Below.refl w.heap.size w) (Nat.le_refl _) _).cell hp
  have hfar : ∀ j, j ≠ 1 → ((w.alloc (.cells #[.int .i64 0] 3)).setCell ⟨b, 1, none⟩ (.slice (some ⟨w.heap.size, 0, none⟩) 1 1)).cell? ⟨b, j, none⟩ = w.cell? ⟨b, j, none⟩ := by
    intro j hj
    rw [World.cell?_setCell_other _ _ _ _ (fun e => hj (by cases e; rfl))]
    exact hw _ hlt
  have hc' : ∀ k (hk : k < (g.map Bs.bare).length) j u, j < 4 → (tc0 (g.map Bs.bare)[k])[j]? = some u → w.cell? ⟨b, k * 4 + j, none⟩ = some u := fun k hk j u hj hu => hc _ _ ((tc_at _ k hk j hj).trans hu)
  intro k hk
  have hkl : k < (g.map Bs.bare).length := by
    cases g with
    | nil => simp at h0
    | cons t r => simpa [Bs.selfG] using hk
  cases k with
  | zero =>
    have e0 : (Bs.selfG (g.map Bs.bare))[0] = { (g.map Bs.bare)[0] with needs := [0] } := by
      cases g with
      | nil => simp at h0
      | cons t r => simp [Bs.selfG]
    have hsame : ((w.alloc (.cells #[.int .i64 0] 3)).setCell ⟨b, 1, none⟩ (.slice (some ⟨w.heap.size, 0, none⟩) 1 1)).cell? ⟨b, 1, none⟩ = some (.slice (some ⟨w.heap.size, 0, none⟩) 1 1) := by
      refine World.cell?_setCell_same _ _ _ ((hw _ hlt).trans (hc' 0 hkl 1 _ (by omega) rfl))
    rw [e0]
    refine ⟨b, 0, some ⟨w.heap.size, 0, none⟩, 1, rfl, hb, by omega, (hfar _ (by omega)).trans (hc' 0 hkl 0 _ (by omega) rfl), hsame, (hfar _ (by omega)).trans (hc' 0 hkl 2 _ (by omega) rfl), (hfar _ (by omega)).trans (hc' 0 hkl 3 _ (by omega) rfl), Nat.le_refl _, by omega, ?_⟩
    intro j hj
    have hj0 : j = 0 := by simp at hj; omega
    subst hj0
    refine ⟨w.heap.size, 0, rfl, by omega, by omega, ?_⟩
    rw [World.cell?_setCell_other _ _ _ _ (fun e => by cases e), (Blk.new w _ _).cell]; rfl
  | succ k =>
    have e0 : (Bs.selfG (g.map Bs.bare))[k + 1] = (g.map Bs.bare)[k + 1] := by
      cases g with
      | nil => simp at h0
      | cons t r => simp [Bs.selfG]
    have hn : (g.map Bs.bare)[k + 1].needs = [] := by simp [Bs.bare]
    rw [e0]
    have q : ∀ j u, j < 4 → (tc0 (g.map Bs.bare)[k + 1])[j]? = some u → ((w.alloc (.cells #[.int .i64 0] 3)).setCell ⟨b, 1, none⟩ (.slice (some ⟨w.heap.size, 0, none⟩) 1 1)).cell? ⟨b, 0 + (k + 1) * 4 + j, none⟩ = some u := by
      intro j u hj hu
      rw [hfar _ (by omega), Nat.zero_add]
      exact hc' (k + 1) hkl j u hj hu
    refine ⟨b, 0, none, 0, rfl, hb, by omega, q 0 _ (by omega) rfl, ?_, q 2 _ (by omega) rfl, q 3 _ (by omega) rfl, ?_, by omega, ?_⟩
    · rw [hn]; exact q 1 _ (by omega) rfl
    · rw [hn]; exact Nat.le_refl _
    · rw [hn]; exact RI.nil
theorem Bs.self_cell {w : World} {b : Nat} {FR : List Bs.T} (hc : ∀ j u, (FR.flatMap tc0)[j]? = some u → w.cell? ⟨b, j, none⟩ = some u) (h0 : 0 < FR.length) (hb : b < w.heap.size) (t : TypeId) (cs : Array Value) :
    (w.alloc (.cells cs t)).cell? ⟨b, 1, none⟩ = some (.slice none 0 0) :=
  ((Below.alloc (Below.refl w.heap.size w) (Nat.le_refl _) _).cell hb).trans (hc 1 _ ((tc_at FR 0 h0 1 (by omega)).trans rfl))
theorem Bs.self_frozen {w : World} {b : Nat} (hf : ∀ j, w.frozen? ⟨b, j, none⟩ = false) (hb : b < w.heap.size) (t : TypeId) (cs : Array Value) :
    (w.alloc (.cells cs t)).frozen? ⟨b, 1, none⟩ = false :=
  ((Below.alloc (Below.refl w.heap.size w) (Nat.le_refl _) _).frozen hb).trans (hf 1)
theorem Bs.self_below {w w5 : World} {b : Nat} {o o' : Obj} (hb5 : Below w.heap.size (w.alloc o) w5) (hbb : w.heap.size ≤ b) {u : Value} :
    Below w.heap.size w ((w5.alloc o').setCell ⟨b, 1, none⟩ u) :=
  (((Below.alloc (Below.refl w.heap.size w) (Nat.le_refl _) o).trans hb5).alloc (by have := hb5.size; simp at this; omega) o').setCell hbb u
end Go.Proofs.Ytjahmejmkijkaaa
