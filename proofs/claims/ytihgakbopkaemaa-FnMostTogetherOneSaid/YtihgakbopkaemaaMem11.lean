/-
  WORDS FOR MEMORY: lists of events. No condition.
-/
import Derived.Test.YtihgakbopkaemaaK1
import Derived.Test.YtihgakbopkaemaaK44
import Derived.Test.YtihgakbopkaemaaK45
import Derived.Deep.MidRow
import Derived.Laws.CopyRow
import Derived.Deep.AppendSrc
import Derived.Deep.AppendLies
namespace Go.Proofs.Ytihgakbopkaemaa
open Go.RowKit
/-- a slice of events -/
def RE (w : World) (lo hi : Nat) (A : Option Addr) (l : List Bs.E) : Prop :=
  ∀ k (hk : k < l.length), ∃ b o, A = some ⟨b, o, none⟩ ∧ lo ≤ b ∧ b < hi ∧
    w.cell? ⟨b, o + k * 3, none⟩ = some (.int .i64 l[k].at_) ∧ w.cell? ⟨b, o + k * 3 + 1, none⟩ = some (.int .i64 l[k].task) ∧ w.cell? ⟨b, o + k * 3 + 2, none⟩ = some (.bool l[k].over)
theorem RE.nil {w : World} {lo hi : Nat} {A : Option Addr} : RE w lo hi A [] := fun k hk => absurd hk (by simp)
theorem RE.at_ {w : World} {lo hi : Nat} {A : Option Addr} {l : List Bs.E} (h : RE w lo hi A l) {k : Nat} (hk : k < l.length) : ∃ b o, A = some ⟨b, o, none⟩ ∧ lo ≤ b ∧ b < hi ∧
    w.cell? ⟨b, o + k * 3, none⟩ = some (.int .i64 (Bs.ge l k).at_) ∧ w.cell? ⟨b, o + k * 3 + 1, none⟩ = some (.int .i64 (Bs.ge l k).task) ∧ w.cell? ⟨b, o + k * 3 + 2, none⟩ = some (.bool (Bs.ge l k).over) := by
  rw [Bs.ge_at hk]
  exact h k hk
theorem RE.keep {w w' : World} {lo hi : Nat} {A : Option Addr} {l : List Bs.E} (h : RE w lo hi A l) (hk : ∀ p : Addr, lo ≤ p.block → p.block < hi → w'.cell? p = w.cell? p) : RE w' lo hi A l := by
  intro k hk'
  obtain ⟨b, o, e, h1, h2, c0, c1, c2⟩ := h k hk'
  exact ⟨b, o, e, h1, h2, (hk _ h1 h2).trans c0, (hk _ h1 h2).trans c1, (hk _ h1 h2).trans c2⟩
theorem RE.more {w : World} {lo hi lo' hi' : Nat} {A : Option Addr} {l : List Bs.E} (h : RE w lo hi A l) (h1 : lo' ≤ lo) (h2 : hi ≤ hi') : RE w lo' hi' A l := by
  intro k hk
  obtain ⟨b, o, e, a1, a2, rest⟩ := h k hk
  exact ⟨b, o, e, by omega, by omega, rest⟩
theorem RE.below {w w' : World} {lo hi : Nat} {A : Option Addr} {l : List Bs.E} {B : Nat} (h : RE w lo hi A l) (hb : Below B w w') (hB : hi ≤ B) : RE w' lo hi A l :=
  h.keep fun p _ h2 => hb.cell (p := p) (Nat.lt_of_lt_of_le h2 hB)
theorem RE.drewN {w : World} {lo hi : Nat} {A : Option Addr} {l : List Bs.E} (h : RE w lo hi A l) (n : Nat) : RE (w.drewN n) lo hi A l := h
theorem RE.take {w : World} {lo hi : Nat} {A : Option Addr} {l : List Bs.E} (h : RE w lo hi A l) (n : Nat) : RE w lo hi A (l.take n) := by
  intro k hk
  rw [List.length_take] at hk
  simp only [List.getElem_take]
  exact h k (by omega)
theorem RE.tail {w : World} {lo hi : Nat} {b o : Nat} {l : List Bs.E} (h : RE w lo hi (some ⟨b, o, none⟩) l) : RE w lo hi (some ⟨b, o + 3, none⟩) l.tail := by
  intro k hk
  rw [List.length_tail] at hk
  obtain ⟨b', o', e, h1, h2, c0, c1, c2⟩ := h (k + 1) (by omega)
  cases e
  have e1 : o + (k + 1) * 3 = o + 3 + k * 3 := by omega
  rw [e1] at c0 c1 c2
  refine ⟨b, o + 3, rfl, h1, h2, ?_, ?_, ?_⟩
  · rw [c0]; simp
  · rw [c1]; simp
  · rw [c2]; simp
theorem Try.infoEvD : (Try.prog.info? 33).map (fun i => (i.zero, i.size, i.bytes)) = some (some (.agg #[.int .i64 0, .int .i64 0, .bool false]), 3, 24) := by kernel_rfl
theorem Try.sizeEvD : (Try.prog.info? 33).map (·.size) = some 3 := by kernel_rfl
/-- a event's cells -/
def ec (u : Bs.E) : List Value := [.int .i64 u.at_, .int .i64 u.task, .bool u.over]
def OE (w : World) (B : Nat) (A : Option Addr) (c : Nat) (g : List Bs.E) : Prop := w.ownsRow B 33 3 (.slice A g.length c) g.length (g.flatMap ec)
theorem ec_at : ∀ (g : List Bs.E) (k : Nat) (hk : k < g.length) (j : Nat), j < 3 → (g.flatMap ec)[k * 3 + j]? = (ec g[k])[j]?
  | t :: r, 0, _, j, hj => by
    rw [List.flatMap_cons, List.getElem?_append_left (by simp [ec]; omega)]
    simp
  | t :: r, k + 1, hk, j, hj => by
    rw [List.flatMap_cons, List.getElem?_append_right (by simp [ec]; omega)]
    have := ec_at r k (by simpa using hk) j hj
    rw [show (k + 1) * 3 + j - (ec t).length = k * 3 + j from by simp [ec]; omega, this]
    simp
theorem ec_one {g : List Bs.E} {u : Value} (h : u ∈ g.flatMap ec) : u.oneCell' = true := by
  rw [List.mem_flatMap] at h
  obtain ⟨t, _, h⟩ := h
  simp only [ec, List.mem_cons, List.not_mem_nil, or_false] at h
  rcases h with rfl | rfl | rfl <;> rfl
theorem OE.len {g : List Bs.E} : (g.flatMap ec).length = g.length * 3 := by
  induction g with
  | nil => rfl
  | cons t r ih => rw [List.flatMap_cons, List.length_append, ih]; simp [ec]; omega
theorem OE.nil (w : World) (B : Nat) (hB : B ≤ w.heap.size) : OE (w.alloc (.cells #[] 33)) B (some ⟨w.heap.size, 0, none⟩) 0 [] :=
  World.ownsRow_made w #[] 0 hB (Nat.zero_le _) (by simp)
theorem OE.alloc {w : World} {B : Nat} {A : Option Addr} {c : Nat} {g : List Bs.E} (h : OE w B A c g) (o : Obj) : OE (w.alloc o) B A c g := World.ownsRow.alloc h o
theorem OE.drewN {w : World} {B : Nat} {A : Option Addr} {c : Nat} {g : List Bs.E} (h : OE w B A c g) (n : Nat) : OE (w.drewN n) B A c g := h
theorem OE.form {w : World} {B : Nat} {v : Value} {g : List Bs.E} (h : w.ownsRow B 33 3 v g.length (g.flatMap ec)) : ∃ A c, v = .slice A g.length c ∧ OE w B A c g := by
  rcases h.2 with ⟨hv, hn⟩ | ⟨b, cap, cur, hv, hb, hg, hnc, hcm, hcs, ht⟩
  · refine ⟨none, 0, by rw [hv, hn], ?_⟩
    unfold OE
    rw [hn] at h ⊢
    rw [hv] at h
    exact h
  · refine ⟨_, cap, hv, ?_⟩
    unfold OE
    rw [hv] at h
    exact h
theorem OE.cap {w : World} {B : Nat} {A : Option Addr} {c : Nat} {g : List Bs.E} (h : OE w B A c g) : g.length ≤ c ∧ c ≤ maxLen := by
  rcases h.2 with ⟨hv, hn⟩ | ⟨b, cap, cur, hv, hb, hg, hnc, hcm, hcs, ht⟩
  · injection hv with hA hn hc
    subst hc
    exact ⟨by omega, Nat.zero_le _⟩
  · injection hv with hA hn hc
    subst hc
    exact ⟨hnc, hcm⟩
/-- the block of a row that is not empty -/
theorem OE.blk {w : World} {B : Nat} {A : Option Addr} {c : Nat} {g : List Bs.E} (h : OE w B A c g) (h0 : 0 < g.length) :
    ∃ b, A = some ⟨b, 0, none⟩ ∧ B ≤ b ∧ b < w.heap.size ∧ (∀ j u, (g.flatMap ec)[j]? = some u → w.cell? ⟨b, j, none⟩ = some u) ∧ ∀ j, w.frozen? ⟨b, j, none⟩ = false := by
  rcases h.2 with ⟨hv, hn⟩ | ⟨b, cap, cur, hv, hb, hg, hnc, hcm, hcs, ht⟩
  · omega
  · injection hv with hA hn hc
    subst hA
    refine ⟨b, rfl, hb, (Array.getElem?_eq_some_iff.1 hg).1, ?_, fun j => by simp [World.frozen?, hg]⟩
    intro j u hu
    have h1 := h.cells (g := b) (by simp [Value.ownBlock]) j u hu
    rwa [Addr.add_lit, Nat.zero_add] at h1
theorem run_push_evs {w : World} {ty : TypeId} (B : Nat) (A : Option Addr) (c : Nat) (l m : List Bs.E) (hown : OE w B A c l)
    (b cc : Nat) (hc : ∀ j u, (m.flatMap ec)[j]? = some u → w.cell? ⟨b, j, none⟩ = some u) (hlen : l.length + m.length ≤ 1000000000) (hB : B ≤ w.heap.size) :
    ∃ A' c' w', (Builtin.append_ #[27, 27] ty #[.slice A l.length c, .slice (some ⟨b, 0, none⟩) m.length cc]).run Try.prog w = .ok (.slice A' (l.length + m.length) c') w' ∧ OE w' B A' c' (l ++ m) ∧ Below B w w' := by
  obtain ⟨i0, hi0, hz0, hz1, hz2⟩ := info_parts Try.infoEvD
  obtain ⟨v', w', hr, hown', hg, _⟩ := run_append_own (P := Try.prog) w B 27 ty 33 i0 _ 3 24 Try.underlying27 hi0 hz0 hz1 hz2 rfl (by decide) _ _ _ hown ⟨b, 0, none⟩ m.length cc (m.flatMap ec) OE.len
    (by intro j u hj; rw [Addr.add_lit, Nat.zero_add]; exact hc j u hj) (fun u hu => ec_one hu) (by unfold maxLen; omega) (by omega) hB
  have h1 : w'.ownsRow B 33 3 v' (l ++ m).length ((l ++ m).flatMap ec) := by
    rw [List.length_append, List.flatMap_append]
    exact hown'
  obtain ⟨A', c', hv, ho'⟩ := OE.form h1
  rw [hv, List.length_append] at hr
  refine ⟨A', c', w', hr, ho', ?_⟩
  refine (Below.refl B w).grown hg hB ?_
  intro k hk
  exact (hown.lt k hk).1
/-- 'g = append(g, x...)' of such tasks -/
theorem push_evs {ops : Array Oper} {rest : List Oper} {o : Oper} {a : Act} {Q : Exit → Act → World → Prop} {w : World} (hgd : o.guard = none) (s x : Operand)
    (ho : o.op = .call { callee := .builtin .append, args := #[s, x], argTypes := #[27, 27] })
    (B : Nat) (A : Option Addr) (c : Nat) (l m : List Bs.E) (hs : a.eval s = .slice A l.length c) (hown : OE w B A c l)
    (b cc : Nat) (hx : a.eval x = .slice (some ⟨b, 0, none⟩) m.length cc) (hc : ∀ j u, (m.flatMap ec)[j]? = some u → w.cell? ⟨b, j, none⟩ = some u) (hlen : l.length + m.length ≤ 1000000000) (hB : B ≤ w.heap.size)
    (h : ∀ A' c' w', OE w' B A' c' (l ++ m) → Below B w w' → wpList Try.prog ops Q rest (a.put o.dst (.slice A' (l.length + m.length) c')) w') : wpList Try.prog ops Q (o :: rest) a w := by
  refine wpList_plain hgd fun K hK => ?_
  obtain ⟨A', c', w', hr, h1, h2⟩ := run_push_evs (ty := o.type) B A c l m hown b cc hc hlen hB
  unfold Oper.wp
  simp [execOp, ho, resolve, invoke, builtin, hs, hx, hr, Result.andThen]
  exact hK _ _ (h A' c' w' h1 h2)
/-- 'append(g, t)', in a region that draws its order -/
theorem step_push_ev {ops : Array Oper} {o : Oper} {a : Act} {w : World} {K : Act → World → Prop} {Q : Exit → Act → World → Prop} {E : Prop} (hgd : o.guard = none) (s x : Operand)
    (ho : o.op = .call { callee := .builtin .append, args := #[s, x], argTypes := #[27, 27] })
    (B : Nat) (A : Option Addr) (c : Nat) (l : List Bs.E) (t : Bs.E) (hs : a.eval s = .slice A l.length c) (hown : OE w B A c l)
    (b cc : Nat) (hx : a.eval x = .slice (some ⟨b, 0, none⟩) 1 cc) (hc : ∀ j u, (ec t)[j]? = some u → w.cell? ⟨b, j, none⟩ = some u) (hlen : l.length ≤ 100000000) (hB : B ≤ w.heap.size)
    (h : ∀ A' c' w', OE w' B A' c' (l ++ [t]) → Below B w w' → K (a.put o.dst (.slice A' (l.length + 1) c')) w') :
    if Region.wanted o (yielded ops a.tmps) = true then Oper.wp Try.prog o a w K Q else E := by
  have hw : Region.wanted o (yielded ops a.tmps) = true := by simp [Region.wanted, hgd]
  rw [if_pos hw]
  obtain ⟨A', c', w', hr, h1, h2⟩ := run_push_evs (ty := o.type) B A c l [t] hown b cc (by intro j u hu; exact hc j u (by simpa using hu)) (by simp; omega) hB
  simp only [List.length_cons, List.length_nil, Nat.zero_add] at hr
  unfold Oper.wp
  simp [execOp, ho, resolve, invoke, builtin, hs, hx, hr, Result.andThen]
  exact h A' c' w' h1 h2
theorem OE.re {w : World} {B : Nat} {A : Option Addr} {c : Nat} {g : List Bs.E} (h : OE w B A c g) : RE w B w.heap.size A g := by
  intro k hk
  obtain ⟨b, hA, hb, hlt, hc, _⟩ := h.blk (by omega)
  have hc' : ∀ j u, j < 3 → (ec g[k])[j]? = some u → w.cell? ⟨b, 0 + k * 3 + j, none⟩ = some u := by
    intro j u hj hu
    rw [Nat.zero_add]
    exact hc _ _ ((ec_at _ k hk j hj).trans hu)
  exact ⟨b, 0, hA, hb, hlt, hc' 0 _ (by omega) rfl, hc' 1 _ (by omega) rfl, hc' 2 _ (by omega) rfl⟩
theorem OE.below {w w' : World} {B B' : Nat} {A : Option Addr} {c : Nat} {l : List Bs.E} (h : OE w B A c l) (hb : Below B' w w') (hB : w.heap.size ≤ B') : OE w' B A c l := by
  refine ⟨h.1, ?_⟩
  rcases h.2 with hn | ⟨g, cap, cur, hv, h1, hg, rest⟩
  · exact .inl hn
  · exact .inr ⟨g, cap, cur, hv, h1, by rw [hb.block g (Nat.lt_of_lt_of_le (Array.getElem?_eq_some_iff.1 hg).1 hB)]; exact hg, rest⟩
theorem OE.base {w : World} {B B' : Nat} {A : Option Addr} {c : Nat} {l : List Bs.E} (h : OE w B A c l) (hB : B' ≤ B) : OE w B' A c l := by
  refine ⟨h.1, ?_⟩
  rcases h.2 with hn | ⟨g, cap, cur, hv, h1, rest⟩
  · exact .inl hn
  · exact .inr ⟨g, cap, cur, hv, by omega, rest⟩
theorem new_cellsE (w : World) (t : Bs.E) : ∀ j u, ([t].flatMap ec)[j]? = some u → (w.alloc (.cells #[.int .i64 t.at_, .int .i64 t.task, .bool t.over] 33)).cell? ⟨w.heap.size, j, none⟩ = some u := by
  intro j u hu
  rw [(Blk.new w _ _).cell]
  simpa [ec] using hu
/-- one event of a row is another one -/
theorem ec_set : ∀ (l : List Bs.E) (k : Nat) (_hk : k < l.length) (u : Bs.E), (((l.flatMap ec).set (k * 3) (.int .i64 u.at_)).set (k * 3 + 1) (.int .i64 u.task)).set (k * 3 + 2) (.bool u.over) = (l.set k u).flatMap ec
  | t :: r, 0, _, u => by simp [ec]
  | t :: r, k + 1, hk, u => by
    have := ec_set r k (by simpa using hk) u
    rw [List.flatMap_cons, List.set_cons_succ, List.flatMap_cons, ← this]
    have e : (ec t).length = 3 := rfl
    rw [List.set_append_right _ _ (by omega), List.set_append_right _ _ (by omega), List.set_append_right _ _ (by omega)]
    rw [show (k + 1) * 3 - (ec t).length = k * 3 from by omega, show (k + 1) * 3 + 1 - (ec t).length = k * 3 + 1 from by omega, show (k + 1) * 3 + 2 - (ec t).length = k * 3 + 2 from by omega]
def set3e (w : World) (b o : Nat) (u : Bs.E) : World := ((w.setCell ⟨b, o, none⟩ (.int .i64 u.at_)).setCell ⟨b, o + 1, none⟩ (.int .i64 u.task)).setCell ⟨b, o + 2, none⟩ (.bool u.over)
theorem OE.setR {w : World} {B : Nat} {A : Option Addr} {c : Nat} {l : List Bs.E} (h : OE w B A c l) {k : Nat} (hk : k < l.length) (u : Bs.E) :
    ∃ b, A = some ⟨b, 0, none⟩ ∧ B ≤ b ∧ b < w.heap.size ∧ OE (set3e w b (k * 3) u) B A c (l.set k u) := by
  rcases h.2 with ⟨hv, hn⟩ | ⟨b, cap, cur, hv, hb, hg, hnc, hcm, hcs, ht⟩
  · omega
  · have hv2 := hv
    injection hv2 with hA hn hc
    subst hA
    refine ⟨b, rfl, hb, (Array.getElem?_eq_some_iff.1 hg).1, OE.len, .inr ⟨b, cap, _, by rw [List.length_set]; exact hv, hb, ((Blk.set_ (Blk.set_ (Blk.set_ hg (k * 3) (.int .i64 u.at_)) (k * 3 + 1) (.int .i64 u.task)) (k * 3 + 2) (.bool u.over))), by rw [List.length_set]; exact hnc, hcm, by simp only [Array.size_setIfInBounds]; exact hcs, ?_⟩⟩
    rw [List.length_set, ← ec_set l k hk u]
    simp only [Array.toList_setIfInBounds, List.take_set, ht]
/-- events handed back -/
def RetE (w : World) (L : List Bs.E) (e : Ending) (w' : World) : Prop := (∃ A c, e = .returned (.slice A L.length c) ∧ OE w' w.heap.size A c L) ∧ Below w.heap.size w w'
theorem OE.lower {w : World} {B B' : Nat} {A : Option Addr} {c : Nat} {l : List Bs.E} (h : OE w B A c l) (hB : B' ≤ B) : OE w B' A c l := by
  refine ⟨h.1, ?_⟩
  rcases h.2 with hn | ⟨g, cap, cur, hv, h1, rest⟩
  · exact .inl hn
  · exact .inr ⟨g, cap, cur, hv, by omega, rest⟩
theorem OE.none_ (w : World) (B : Nat) : OE w B none 0 [] := World.ownsRow_nil w B 33 3
theorem OE.kept {w w' : World} {B : Nat} {A : Option Addr} {c : Nat} {l : List Bs.E} {row : Option Nat} (h : OE w B A c l) (hg : w.grownBy w' row) (hne : (Value.slice A l.length c).ownBlock = none ∨ (Value.slice A l.length c).ownBlock ≠ row) : OE w' B A c l := World.ownsRow.kept h hg hne
theorem OE.ne_oi {w : World} {B B' : Nat} {A A' : Option Addr} {c c' : Nat} {l : List Bs.E} {m : List Int} (h : OE w B A c l) (k : OI w B' A' c' m) : (Value.slice A l.length c).ownBlock = none ∨ (Value.slice A l.length c).ownBlock ≠ (Value.slice A' m.length c').ownBlock := by
  rcases h.2 with ⟨hv, _⟩ | ⟨g, cap, cur, hv, h1, hg, _⟩
  · left
    rw [hv]
    rfl
  · right
    rcases k.2 with ⟨hv2, _⟩ | ⟨g2, cap2, cur2, hv2, h2, hg2, _⟩
    · rw [hv, hv2]; simp [Value.ownBlock]
    · rw [hv, hv2]
      intro e
      have e2 : g = g2 := by simpa [Value.ownBlock] using e
      subst e2
      rw [hg] at hg2
      cases hg2
theorem RE.cells {w : World} {lo hi : Nat} {b o : Nat} {l : List Bs.E} (h : RE w lo hi (some ⟨b, o, none⟩) l) : ∀ j u, (l.flatMap ec)[j]? = some u → w.cell? ⟨b, o + j, none⟩ = some u := by
  intro j u hu
  have hlen : (l.flatMap ec).length = l.length * 3 := OE.len
  have hj : j < l.length * 3 := by rw [← hlen]; exact (List.getElem?_eq_some_iff.1 hu).1
  have hk : j / 3 < l.length := by omega
  have ej : j = j / 3 * 3 + j % 3 := by omega
  have hr : j % 3 < 3 := by omega
  obtain ⟨b', o', e', _, _, c0, c1, c2⟩ := h (j / 3) hk
  cases e'
  rw [ej, ec_at l (j / 3) hk (j % 3) hr] at hu
  rw [ej]
  generalize j / 3 = k at *
  generalize hm : j % 3 = r at *
  have : r = 0 ∨ r = 1 ∨ r = 2 := by omega
  rcases this with rfl | rfl | rfl
  · simp only [ec, List.getElem?_cons_zero, Option.some.injEq] at hu
    subst hu
    exact c0
  · simp only [ec, List.getElem?_cons_succ, List.getElem?_cons_zero, Option.some.injEq] at hu
    subst hu
    exact c1
  · simp only [ec, List.getElem?_cons_succ, List.getElem?_cons_zero, Option.some.injEq] at hu
    subst hu
    exact c2
theorem run_push_evsO {w : World} {ty : TypeId} (B : Nat) (A : Option Addr) (c : Nat) (l m : List Bs.E) (hown : OE w B A c l)
    (b o cc : Nat) (hc : ∀ j u, (m.flatMap ec)[j]? = some u → w.cell? ⟨b, o + j, none⟩ = some u) (hlen : l.length + m.length ≤ 1000000000) (hB : B ≤ w.heap.size) :
    ∃ A' c' w', (Builtin.append_ #[27, 27] ty #[.slice A l.length c, .slice (some ⟨b, o, none⟩) m.length cc]).run Try.prog w = .ok (.slice A' (l.length + m.length) c') w' ∧ OE w' B A' c' (l ++ m) ∧ Below B w w' := by
  obtain ⟨i0, hi0, hz0, hz1, hz2⟩ := info_parts Try.infoEvD
  obtain ⟨v', w', hr, hown', hg, _⟩ := run_append_own (P := Try.prog) w B 27 ty 33 i0 _ 3 24 Try.underlying27 hi0 hz0 hz1 hz2 rfl (by decide) _ _ _ hown ⟨b, o, none⟩ m.length cc (m.flatMap ec) OE.len
    (by intro j u hj; rw [Addr.add_lit]; exact hc j u hj) (fun u hu => ec_one hu) (by unfold maxLen; omega) (by omega) hB
  have h1 : w'.ownsRow B 33 3 v' (l ++ m).length ((l ++ m).flatMap ec) := by
    rw [List.length_append, List.flatMap_append]
    exact hown'
  obtain ⟨A', c', hv, ho'⟩ := OE.form h1
  rw [hv, List.length_append] at hr
  refine ⟨A', c', w', hr, ho', ?_⟩
  refine (Below.refl B w).grown hg hB ?_
  intro k hk
  exact (hown.lt k hk).1
theorem push_evsO {ops : Array Oper} {rest : List Oper} {o : Oper} {a : Act} {Q : Exit → Act → World → Prop} {w : World} (hgd : o.guard = none) (s x : Operand)
    (ho : o.op = .call { callee := .builtin .append, args := #[s, x], argTypes := #[27, 27] })
    (B : Nat) (A : Option Addr) (c : Nat) (l m : List Bs.E) (hs : a.eval s = .slice A l.length c) (hown : OE w B A c l)
    (b off cc : Nat) (hx : a.eval x = .slice (some ⟨b, off, none⟩) m.length cc) (hc : ∀ j u, (m.flatMap ec)[j]? = some u → w.cell? ⟨b, off + j, none⟩ = some u) (hlen : l.length + m.length ≤ 1000000000) (hB : B ≤ w.heap.size)
    (h : ∀ A' c' w', OE w' B A' c' (l ++ m) → Below B w w' → wpList Try.prog ops Q rest (a.put o.dst (.slice A' (l.length + m.length) c')) w') : wpList Try.prog ops Q (o :: rest) a w := by
  refine wpList_plain hgd fun K hK => ?_
  obtain ⟨A', c', w', hr, h1, h2⟩ := run_push_evsO (ty := o.type) B A c l m hown b off cc hc hlen hB
  unfold Oper.wp
  simp [execOp, ho, resolve, invoke, builtin, hs, hx, hr, Result.andThen]
  exact hK _ _ (h A' c' w' h1 h2)
theorem OnlyB.setE (w : World) (b o : Nat) (v : Value) : OnlyB b w (w.setCell ⟨b, o, none⟩ v) := ⟨rfl, rfl, rfl, by simp, fun k hk => heap_setCell_other w ⟨b, o, none⟩ k v hk⟩
theorem OnlyB.transE {b : Nat} {w w' w'' : World} (h : OnlyB b w w') (k : OnlyB b w' w'') : OnlyB b w w'' := ⟨k.os.trans h.os, k.tape.trans h.tape, k.output.trans h.output, k.size.trans h.size, fun x hx => (k.far x hx).trans (h.far x hx)⟩
theorem set3e_only (w : World) (b o : Nat) (x : Bs.E) : OnlyB b w (set3e w b o x) := by
  unfold set3e
  exact ((OnlyB.setE w b o _).transE (OnlyB.setE _ b (o + 1) _)).transE (OnlyB.setE _ b (o + 2) _)
theorem eA_one2 (u : Bs.E) : (#[.int .i64 u.at_, .int .i64 u.task, .bool u.over] : Array Value).all (·.oneCell') = true := by simp [Value.oneCell']
theorem OE.there {w : World} {B : Nat} {b : Nat} {c : Nat} {l : List Bs.E} (h : OE w B (some ⟨b, 0, none⟩) c l) {k : Nat} (hk : k < l.length) : w.there b (k * 3) 3 := by
  obtain ⟨b', e', h1, h2, hc, hf⟩ := h.blk (by omega)
  cases e'
  intro j hj
  refine ⟨?_, hf _⟩
  have hlen : (l.flatMap ec).length = l.length * 3 := OE.len
  have hlt : k * 3 + j < (l.flatMap ec).length := by rw [hlen]; omega
  rw [hc (k * 3 + j) _ (List.getElem?_eq_getElem hlt)]
  rfl
/-- a event is stored into a row -/
theorem ev_store2 {ops : Array Oper} {rest : List Oper} {o : Oper} {a : Act} {w : World} {Q : Exit → Act → World → Prop} (hgd : o.guard = none) (x y : Operand) (ho : o.op = .store 33 x y)
    (B b : Nat) (c : Nat) (l : List Bs.E) (k : Nat) (hk : k < l.length) (u : Bs.E) (hx : a.eval x = .pointer (some ⟨b, k * 3, none⟩)) (hy : a.eval y = .agg #[.int .i64 u.at_, .int .i64 u.task, .bool u.over]) (hown : OE w B (some ⟨b, 0, none⟩) c l)
    (h : ∀ w', OE w' B (some ⟨b, 0, none⟩) c (l.set k u) → OnlyB b w w' → wpList Try.prog ops Q rest (a.put o.dst undef) w') : wpList Try.prog ops Q (o :: rest) a w := by
  refine wpList_store_mid hgd 33 x y ho b (k * 3) #[.int .i64 u.at_, .int .i64 u.task, .bool u.over] hx hy (hown.there hk) Try.sizeEvD (eA_one2 u) ?_
  obtain ⟨b', e', h1, h2, h3⟩ := hown.setR hk u
  cases e'
  exact h _ h3 (set3e_only w b (k * 3) u)
end Go.Proofs.Ytihgakbopkaemaa
