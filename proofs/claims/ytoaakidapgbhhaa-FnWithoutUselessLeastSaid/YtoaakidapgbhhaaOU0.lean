/-
  WORDS FOR MEMORY: a row of tasks of the call's own, a copy of another. No condition.
-/
import Derived.Test.YtoaakidapgbhhaaK1
import Derived.Test.YtoaakidapgbhhaaMath13
namespace Go.Proofs.Ytoaakidapgbhhaa
open Go.RowKit
theorem Try.infoTaskU : (Try.prog.info? 29).map (fun i => (i.zero, i.size, i.bytes)) = some (some (.agg #[.int .i64 0, .slice none 0 0, .int .i64 0, .int .i64 0]), 4, 48) := by kernel_rfl
/-- a task, and where its needs lie -/
structure RW where
  t : Bs.T
  N : Option Addr
  c : Nat
/-- its cells -/
def tcU (r : RW) : List Value := [.int .i64 r.t.time, .slice r.N r.t.needs.length r.c, .int .i64 r.t.pool, .int .i64 r.t.units]
def OU (w : World) (B : Nat) (A : Option Addr) (c : Nat) (g : List RW) : Prop := w.ownsRow B 29 4 (.slice A g.length c) g.length (g.flatMap tcU)
theorem tcU_at : ∀ (g : List RW) (k : Nat) (hk : k < g.length) (j : Nat), j < 4 → (g.flatMap tcU)[k * 4 + j]? = (tcU g[k])[j]?
  | t :: r, 0, _, j, hj => by
    rw [List.flatMap_cons, List.getElem?_append_left (by simp [tcU]; omega)]
    simp
  | t :: r, k + 1, hk, j, hj => by
    rw [List.flatMap_cons, List.getElem?_append_right (by simp [tcU]; omega)]
    have := tcU_at r k (by simpa using hk) j hj
    rw [show (k + 1) * 4 + j - (tcU t).length = k * 4 + j from by simp [tcU]; omega, this]
    simp
theorem tcU_one {g : List RW} {u : Value} (h : u ∈ g.flatMap tcU) : u.oneCell' = true := by
  rw [List.mem_flatMap] at h
  obtain ⟨t, _, h⟩ := h
  simp only [tcU, List.mem_cons, List.not_mem_nil, or_false] at h
  rcases h with rfl | rfl | rfl | rfl <;> rfl
theorem OU.len {g : List RW} : (g.flatMap tcU).length = g.length * 4 := by
  induction g with
  | nil => rfl
  | cons t r ih => rw [List.flatMap_cons, List.length_append, ih]; simp [tcU]; omega
theorem OU.nil (w : World) (B : Nat) (hB : B ≤ w.heap.size) : OU (w.alloc (.cells #[] 29)) B (some ⟨w.heap.size, 0, none⟩) 0 [] :=
  World.ownsRow_made w #[] 0 hB (Nat.zero_le _) (by simp)
theorem OU.form {w : World} {B : Nat} {v : Value} {g : List RW} (h : w.ownsRow B 29 4 v g.length (g.flatMap tcU)) : ∃ A c, v = .slice A g.length c ∧ OU w B A c g := by
  rcases h.2 with ⟨hv, hn⟩ | ⟨b, cap, cur, hv, hb, hg, hnc, hcm, hcs, ht⟩
  · refine ⟨none, 0, by rw [hv, hn], ?_⟩
    unfold OU
    rw [hn] at h ⊢
    rw [hv] at h
    exact h
  · refine ⟨_, cap, hv, ?_⟩
    unfold OU
    rw [hv] at h
    exact h
/-- the block of a row that is not empty -/
theorem OU.blk {w : World} {B : Nat} {A : Option Addr} {c : Nat} {g : List RW} (h : OU w B A c g) (h0 : 0 < g.length) :
    ∃ b, A = some ⟨b, 0, none⟩ ∧ B ≤ b ∧ b < w.heap.size ∧ (∀ j u, (g.flatMap tcU)[j]? = some u → w.cell? ⟨b, j, none⟩ = some u) ∧ ∀ j, w.frozen? ⟨b, j, none⟩ = false := by
  rcases h.2 with ⟨hv, hn⟩ | ⟨b, cap, cur, hv, hb, hg, hnc, hcm, hcs, ht⟩
  · omega
  · injection hv with hA hn hc
    subst hA
    refine ⟨b, rfl, hb, (Array.getElem?_eq_some_iff.1 hg).1, ?_, fun j => by simp [World.frozen?, hg]⟩
    intro j u hu
    have h1 := h.cells (g := b) (by simp [Value.ownBlock]) j u hu
    rwa [Addr.add_lit, Nat.zero_add] at h1
theorem run_push_rows {w : World} {ty : TypeId} (B : Nat) (A : Option Addr) (c : Nat) (l m : List RW) (hown : OU w B A c l)
    (b o cc : Nat) (hc : ∀ j u, (m.flatMap tcU)[j]? = some u → w.cell? ⟨b, o + j, none⟩ = some u) (hlen : l.length + m.length ≤ 1000000000) (hB : B ≤ w.heap.size) :
    ∃ A' c' w', (Builtin.append_ #[23, 23] ty #[.slice A l.length c, .slice (some ⟨b, o, none⟩) m.length cc]).run Try.prog w = .ok (.slice A' (l.length + m.length) c') w' ∧ OU w' B A' c' (l ++ m) ∧ Below B w w' ∧
      (0 < l.length + m.length → w.grownBy w' (Value.slice A l.length c).ownBlock) := by
  obtain ⟨i0, hi0, hz0, hz1, hz2⟩ := info_parts Try.infoTaskU
  obtain ⟨v', w', hr, hown', hg, _⟩ := run_append_own (P := Try.prog) w B 23 ty 29 i0 _ 4 48 Try.underlying23 hi0 hz0 hz1 hz2 rfl (by decide) _ _ _ hown ⟨b, o, none⟩ m.length cc (m.flatMap tcU) OU.len
    (by intro j u hj; rw [Addr.add_lit]; exact hc j u hj) (fun u hu => tcU_one hu) (by unfold maxLen; omega) (by omega) hB
  have h1 : w'.ownsRow B 29 4 v' (l ++ m).length ((l ++ m).flatMap tcU) := by
    rw [List.length_append, List.flatMap_append]
    exact hown'
  obtain ⟨A', c', hv, ho'⟩ := OU.form h1
  rw [hv, List.length_append] at hr
  refine ⟨A', c', w', hr, ho', ?_, fun _ => hg⟩
  refine (Below.refl B w).grown hg hB ?_
  intro k hk
  exact (hown.lt k hk).1
/-- 'append([]Task{}, g...)' -/
theorem push_rows {ops : Array Oper} {rest : List Oper} {o : Oper} {a : Act} {Q : Exit → Act → World → Prop} {w : World} (hgd : o.guard = none) (s x : Operand)
    (ho : o.op = .call { callee := .builtin .append, args := #[s, x], argTypes := #[23, 23] })
    (B : Nat) (A : Option Addr) (c : Nat) (l m : List RW) (hs : a.eval s = .slice A l.length c) (hown : OU w B A c l)
    (b off cc : Nat) (hx : a.eval x = .slice (some ⟨b, off, none⟩) m.length cc) (hc : ∀ j u, (m.flatMap tcU)[j]? = some u → w.cell? ⟨b, off + j, none⟩ = some u) (hlen : l.length + m.length ≤ 1000000000) (hB : B ≤ w.heap.size)
    (h : ∀ A' c' w', OU w' B A' c' (l ++ m) → Below B w w' → wpList Try.prog ops Q rest (a.put o.dst (.slice A' (l.length + m.length) c')) w') : wpList Try.prog ops Q (o :: rest) a w := by
  refine wpList_plain hgd fun K hK => ?_
  obtain ⟨A', c', w', hr, h1, h2, _⟩ := run_push_rows (ty := o.type) B A c l m hown b off cc hc hlen hB
  unfold Oper.wp
  simp [execOp, ho, resolve, invoke, builtin, hs, hx, hr, Result.andThen]
  exact hK _ _ (h A' c' w' h1 h2)
/-- what is known of row k -/
def RowOk (w : World) (lo hi b o k : Nat) (t : Bs.T) (r : RW) : Prop :=
  r.t = t ∧ (∀ j u, j < 4 → (tcU r)[j]? = some u → w.cell? ⟨b, o + (k * 4 + j), none⟩ = some u) ∧ r.t.needs.length ≤ r.c ∧ r.c ≤ 9223372036854775807 ∧ RI w lo hi r.N r.t.needs
/-- a slice of tasks as rows -/
theorem RG.rows {w : World} {lo hi : Nat} {A : Option Addr} {g : List Bs.T} (h : RG w lo hi A g) (h0 : 0 < g.length) : ∃ b o, ∃ rs : List RW, A = some ⟨b, o, none⟩ ∧ b < hi ∧ rs.length = g.length ∧
    (∀ k (hk : k < rs.length) (hk' : k < g.length), RowOk w lo hi b o k g[k] rs[k]) := by
  obtain ⟨b, o, N0, c0, hA, _, hb, _⟩ := h 0 h0
  subst hA
  have key : ∀ n, n ≤ g.length → ∃ rs : List RW, rs.length = n ∧ ∀ k (hk : k < rs.length) (hk' : k < g.length), RowOk w lo hi b o k g[k] rs[k] := by
    intro n
    induction n with
    | zero => intro _; exact ⟨[], rfl, fun k hk => by simp at hk⟩
    | succ n ih =>
      intro hn
      obtain ⟨rs, hl, hr⟩ := ih (by omega)
      obtain ⟨b', o', N, c, e, _, _, q0, q1, q2, q3, hnc, hcm, hN⟩ := h n (by omega)
      cases e
      refine ⟨rs ++ [⟨g[n], N, c⟩], by simp [hl], ?_⟩
      intro k hk hk'
      by_cases e : k < rs.length
      · rw [List.getElem_append_left e]
        exact hr k e hk'
      · have e2 : k = rs.length := by simp at hk; omega
        have e3 : k = n := by omega
        subst e3
        have e4 : (rs ++ [⟨g[k], N, c⟩])[k] = ⟨g[k], N, c⟩ := by
          rw [List.getElem_append_right (by omega)]
          simp [e2]
        rw [e4]
        refine ⟨rfl, ?_, hnc, hcm, hN⟩
        intro j u hj hu
        rw [← Nat.add_assoc]
        match j, hj with
        | 0, _ => simp [tcU] at hu; subst hu; exact q0
        | 1, _ => simp [tcU] at hu; subst hu; exact q1
        | 2, _ => simp [tcU] at hu; subst hu; exact q2
        | 3, _ => simp [tcU] at hu; subst hu; exact q3
  obtain ⟨rs, hl, hr⟩ := key g.length (Nat.le_refl _)
  exact ⟨b, o, rs, rfl, hb, hl, hr⟩
theorem rows_cells {w : World} {lo hi b o : Nat} {g : List Bs.T} {rs : List RW} (hl : rs.length = g.length) (hr : ∀ k (hk : k < rs.length) (hk' : k < g.length), RowOk w lo hi b o k g[k] rs[k]) :
    ∀ j u, (rs.flatMap tcU)[j]? = some u → w.cell? ⟨b, o + j, none⟩ = some u := by
  intro j u hu
  have hj : j < rs.length * 4 := by
    have := (List.getElem?_eq_some_iff.1 hu).1
    rwa [OU.len] at this
  have e : j = j / 4 * 4 + j % 4 := by omega
  have hk : j / 4 < rs.length := by omega
  have h1 := tcU_at rs (j / 4) hk (j % 4) (by omega)
  rw [← e, hu] at h1
  have := (hr (j / 4) hk (by omega)).2.1 (j % 4) u (by omega) h1.symm
  rwa [← e] at this
/-- the rows as a graph, after a change of one task's time -/
theorem OU.time {w W : World} {B lo hi : Nat} {A : Option Addr} {c b : Nat} {g : List Bs.T} {rs : List RW} {b0 o0 : Nat} (h : OU w B A c rs) (h0 : 0 < g.length) (hl : rs.length = g.length)
    (hr : ∀ k (hk : k < rs.length) (hk' : k < g.length), RowOk W lo hi b0 o0 k g[k] rs[k]) (hb : Below hi W w) (hlo : lo ≤ B) (hhi : hi ≤ B) (hB : B ≤ w.heap.size) (hA : A = some ⟨b, 0, none⟩) (i : Nat) (hi' : i < g.length) (x : Int) :
    RG (w.setCell ⟨b, i * 4, none⟩ (.int .i64 x)) lo w.heap.size A (Bs.setT g i x) := by
  subst hA
  obtain ⟨b', hA, hbB, hlt, hc, _⟩ := h.blk (by omega)
  cases hA
  have hc' : ∀ k (hk : k < rs.length) j u, j < 4 → (tcU rs[k])[j]? = some u → w.cell? ⟨b, k * 4 + j, none⟩ = some u := fun k hk j u hj hu => hc _ _ ((tcU_at _ k hk j hj).trans hu)
  have hfar : ∀ j, j ≠ i * 4 → (w.setCell ⟨b, i * 4, none⟩ (.int .i64 x)).cell? ⟨b, j, none⟩ = w.cell? ⟨b, j, none⟩ := by
    intro j hj
    exact World.cell?_setCell_other _ _ _ _ (fun e => hj (by cases e; rfl))
  intro k hk0
  have hk : k < g.length := by rw [Bs.setT_len] at hk0; exact hk0
  obtain ⟨e0, _, e2, e3, e4⟩ := hr k (by omega) hk
  have hg0 := Bs.setT_get g i x k
  rw [List.getElem?_eq_getElem (by rw [Bs.setT_len]; exact hk), List.getElem?_eq_getElem hk] at hg0
  have hN : RI (w.setCell ⟨b, i * 4, none⟩ (.int .i64 x)) lo w.heap.size rs[k].N rs[k].t.needs := by
    refine RI.more (lo := lo) (hi := hi) ?_ (Nat.le_refl _) (by omega)
    exact (e4.below hb (Nat.le_refl _)).set_far (.inr (by show hi ≤ b; omega)) _
  have c1 := (hfar (k * 4 + 1) (by omega)).trans (hc' k (by omega) 1 _ (by omega) rfl)
  have c2 := (hfar (k * 4 + 2) (by omega)).trans (hc' k (by omega) 2 _ (by omega) rfl)
  have c3 := (hfar (k * 4 + 3) (by omega)).trans (hc' k (by omega) 3 _ (by omega) rfl)
  rw [e0] at e2 hN c1 c2 c3
  by_cases e : k = i
  · subst e
    rw [if_pos rfl] at hg0
    have hg1 : (Bs.setT g k x)[k]'(by rw [Bs.setT_len]; exact hk) = { g[k] with time := x } := by simpa using hg0
    rw [hg1]
    have c0 : (w.setCell ⟨b, k * 4, none⟩ (.int .i64 x)).cell? ⟨b, k * 4, none⟩ = some (.int .i64 x) := World.cell?_setCell_same _ _ _ (hc' k (by omega) 0 _ (by omega) rfl)
    refine ⟨b, 0, rs[k].N, rs[k].c, rfl, by omega, hlt, ?_, ?_, ?_, ?_, e2, e3, hN⟩
    · rw [Nat.zero_add]; exact c0
    · rw [Nat.zero_add]; exact c1
    · rw [Nat.zero_add]; exact c2
    · rw [Nat.zero_add]; exact c3
  · rw [if_neg e] at hg0
    have hg1 : (Bs.setT g i x)[k]'(by rw [Bs.setT_len]; exact hk) = g[k] := by simpa using hg0
    rw [hg1]
    have c0 := (hfar (k * 4) (by omega)).trans (hc' k (by omega) 0 _ (by omega) rfl)
    rw [e0] at c0
    refine ⟨b, 0, rs[k].N, rs[k].c, rfl, by omega, hlt, ?_, ?_, ?_, ?_, e2, e3, hN⟩
    · rw [Nat.zero_add]; exact c0
    · rw [Nat.zero_add]; exact c1
    · rw [Nat.zero_add]; exact c2
    · rw [Nat.zero_add]; exact c3
/-- what the walks use of a copy: wr is the world before it, w5 behind it -/
theorem copied {wr w5 : World} {lo hi b o : Nat} {A : Option Addr} {c : Nat} {g : List Bs.T} {rs : List RW} (ho : OU w5 wr.heap.size A c ([] ++ rs)) (hb5 : Below wr.heap.size (wr.alloc (.cells #[] 29)) w5)
    (hl : rs.length = g.length) (hr : ∀ k (hk : k < rs.length) (hk' : k < g.length), RowOk wr lo hi b o k g[k] rs[k]) (hlo : lo ≤ hi) (hhi : hi ≤ wr.heap.size) {i : Nat} (hi' : i < g.length) :
    ∃ bb, A = some ⟨bb, 0, none⟩ ∧ wr.heap.size ≤ bb ∧ bb < w5.heap.size ∧ w5.cell? ⟨bb, i * 4, none⟩ = some (.int .i64 g[i].time) ∧ w5.frozen? ⟨bb, i * 4, none⟩ = false ∧ wr.heap.size ≤ w5.heap.size ∧ Below wr.heap.size wr w5 ∧
      ∀ m x, RG ((w5.drewN m).setCell ⟨bb, i * 4, none⟩ (.int .i64 x)) lo w5.heap.size A (Bs.setT g i x) ∧ Below wr.heap.size wr ((w5.drewN m).setCell ⟨bb, i * 4, none⟩ (.int .i64 x)) := by
  rw [List.nil_append] at ho
  obtain ⟨bb, hA, hbb, hlt, hc, hf⟩ := ho.blk (by omega)
  have hb6 : Below wr.heap.size wr w5 := (Below.alloc (Below.refl wr.heap.size wr) (Nat.le_refl _) _).trans hb5
  have hs := hb6.size
  have e0 := (hr i (by omega) hi').1
  have c0 := hc _ _ ((tcU_at rs i (by omega) 0 (by omega)).trans rfl)
  rw [e0] at c0
  refine ⟨bb, hA, hbb, hlt, c0, hf _, hs, hb6, ?_⟩
  intro m x
  refine ⟨?_, (hb6.drewN m).setCell hbb _⟩
  have hod : OU (w5.drewN m) wr.heap.size A c rs := ho
  exact hod.time (W := wr) (by omega) hl hr ((hb6.drewN m).mono hhi) (Nat.le_trans hlo hhi) hhi hs hA i hi' x
end Go.Proofs.Ytoaakidapgbhhaa
