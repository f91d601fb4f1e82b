/-
  WORDS FOR MEMORY: lists of users. No condition.
-/
import Derived.Test.YtbmfhnijbdmjbaaK1
import Derived.Test.YtbmfhnijbdmjbaaMath80
import Derived.Laws.CopyRow
import Derived.Deep.AppendSrc
import Derived.Deep.AppendLies
namespace Go.Proofs.Ytbmfhnijbdmjbaa
open Go.RowKit
/-- a slice of users -/
def RU (w : World) (lo hi : Nat) (A : Option Addr) (l : List Bs.U) : Prop :=
  ∀ k (hk : k < l.length), ∃ b o, A = some ⟨b, o, none⟩ ∧ lo ≤ b ∧ b < hi ∧
    w.cell? ⟨b, o + k * 3, none⟩ = some (.int .i64 l[k].share) ∧ w.cell? ⟨b, o + k * 3 + 1, none⟩ = some (.int .i64 l[k].used) ∧ w.cell? ⟨b, o + k * 3 + 2, none⟩ = some (.int .i64 l[k].waits)
theorem RU.nil {w : World} {lo hi : Nat} {A : Option Addr} : RU w lo hi A [] := fun k hk => absurd hk (by simp)
theorem RU.at_ {w : World} {lo hi : Nat} {A : Option Addr} {l : List Bs.U} (h : RU w lo hi A l) {k : Nat} (hk : k < l.length) : ∃ b o, A = some ⟨b, o, none⟩ ∧ lo ≤ b ∧ b < hi ∧
    w.cell? ⟨b, o + k * 3, none⟩ = some (.int .i64 (Bs.gu l k).share) ∧ w.cell? ⟨b, o + k * 3 + 1, none⟩ = some (.int .i64 (Bs.gu l k).used) ∧ w.cell? ⟨b, o + k * 3 + 2, none⟩ = some (.int .i64 (Bs.gu l k).waits) := by
  rw [Bs.gu_at hk]
  exact h k hk
theorem RU.keep {w w' : World} {lo hi : Nat} {A : Option Addr} {l : List Bs.U} (h : RU w lo hi A l) (hk : ∀ p : Addr, lo ≤ p.block → p.block < hi → w'.cell? p = w.cell? p) : RU w' lo hi A l := by
  intro k hk'
  obtain ⟨b, o, e, h1, h2, c0, c1, c2⟩ := h k hk'
  exact ⟨b, o, e, h1, h2, (hk _ h1 h2).trans c0, (hk _ h1 h2).trans c1, (hk _ h1 h2).trans c2⟩
theorem RU.more {w : World} {lo hi lo' hi' : Nat} {A : Option Addr} {l : List Bs.U} (h : RU w lo hi A l) (h1 : lo' ≤ lo) (h2 : hi ≤ hi') : RU w lo' hi' A l := by
  intro k hk
  obtain ⟨b, o, e, a1, a2, rest⟩ := h k hk
  exact ⟨b, o, e, by omega, by omega, rest⟩
theorem RU.below {w w' : World} {lo hi : Nat} {A : Option Addr} {l : List Bs.U} {B : Nat} (h : RU w lo hi A l) (hb : Below B w w') (hB : hi ≤ B) : RU w' lo hi A l :=
  h.keep fun p _ h2 => hb.cell (p := p) (Nat.lt_of_lt_of_le h2 hB)
theorem RU.drewN {w : World} {lo hi : Nat} {A : Option Addr} {l : List Bs.U} (h : RU w lo hi A l) (n : Nat) : RU (w.drewN n) lo hi A l := h
theorem RU.take {w : World} {lo hi : Nat} {A : Option Addr} {l : List Bs.U} (h : RU w lo hi A l) (n : Nat) : RU w lo hi A (l.take n) := by
  intro k hk
  rw [List.length_take] at hk
  simp only [List.getElem_take]
  exact h k (by omega)
theorem RU.tail {w : World} {lo hi : Nat} {b o : Nat} {l : List Bs.U} (h : RU w lo hi (some ⟨b, o, none⟩) l) : RU w lo hi (some ⟨b, o + 3, none⟩) l.tail := by
  intro k hk
  rw [List.length_tail] at hk
  obtain ⟨b', o', e, h1, h2, c0, c1, c2⟩ := h (k + 1) (by omega)
  cases e
  have e1 : o + (k + 1) * 3 = o + 3 + k * 3 := by omega
  rw [e1] at c0 c1 c2
  refine ⟨b, o + 3, rfl, h1, h2, ?_, ?_, ?_⟩
  · rw [c0]; simp
  · rw [c1]; simp
  · rw [c2]; simp
theorem Try.infoUserD : (Try.prog.info? 46).map (fun i => (i.zero, i.size, i.bytes)) = some (some (.agg #[.int .i64 0, .int .i64 0, .int .i64 0]), 3, 24) := by kernel_rfl
theorem Try.sizeUserD : (Try.prog.info? 46).map (·.size) = some 3 := by kernel_rfl
/-- a user's cells -/
def uc (u : Bs.U) : List Value := [.int .i64 u.share, .int .i64 u.used, .int .i64 u.waits]
def OR (w : World) (B : Nat) (A : Option Addr) (c : Nat) (g : List Bs.U) : Prop := w.ownsRow B 46 3 (.slice A g.length c) g.length (g.flatMap uc)
theorem uc_at : ∀ (g : List Bs.U) (k : Nat) (hk : k < g.length) (j : Nat), j < 3 → (g.flatMap uc)[k * 3 + j]? = (uc g[k])[j]?
  | t :: r, 0, _, j, hj => by
    rw [List.flatMap_cons, List.getElem?_append_left (by simp [uc]; omega)]
    simp
  | t :: r, k + 1, hk, j, hj => by
    rw [List.flatMap_cons, List.getElem?_append_right (by simp [uc]; omega)]
    have := uc_at r k (by simpa using hk) j hj
    rw [show (k + 1) * 3 + j - (uc t).length = k * 3 + j from by simp [uc]; omega, this]
    simp
theorem uc_one {g : List Bs.U} {u : Value} (h : u ∈ g.flatMap uc) : u.oneCell' = true := by
  rw [List.mem_flatMap] at h
  obtain ⟨t, _, h⟩ := h
  simp only [uc, List.mem_cons, List.not_mem_nil, or_false] at h
  rcases h with rfl | rfl | rfl <;> rfl
theorem OR.len {g : List Bs.U} : (g.flatMap uc).length = g.length * 3 := by
  induction g with
  | nil => rfl
  | cons t r ih => rw [List.flatMap_cons, List.length_append, ih]; simp [uc]; omega
theorem OR.nil (w : World) (B : Nat) (hB : B ≤ w.heap.size) : OR (w.alloc (.cells #[] 46)) B (some ⟨w.heap.size, 0, none⟩) 0 [] :=
  World.ownsRow_made w #[] 0 hB (Nat.zero_le _) (by simp)
theorem OR.alloc {w : World} {B : Nat} {A : Option Addr} {c : Nat} {g : List Bs.U} (h : OR w B A c g) (o : Obj) : OR (w.alloc o) B A c g := World.ownsRow.alloc h o
theorem OR.drewN {w : World} {B : Nat} {A : Option Addr} {c : Nat} {g : List Bs.U} (h : OR w B A c g) (n : Nat) : OR (w.drewN n) B A c g := h
theorem OR.form {w : World} {B : Nat} {v : Value} {g : List Bs.U} (h : w.ownsRow B 46 3 v g.length (g.flatMap uc)) : ∃ A c, v = .slice A g.length c ∧ OR w B A c g := by
  rcases h.2 with ⟨hv, hn⟩ | ⟨b, cap, cur, hv, hb, hg, hnc, hcm, hcs, ht⟩
  · refine ⟨none, 0, by rw [hv, hn], ?_⟩
    unfold OR
    rw [hn] at h ⊢
    rw [hv] at h
    exact h
  · refine ⟨_, cap, hv, ?_⟩
    unfold OR
    rw [hv] at h
    exact h
theorem OR.cap {w : World} {B : Nat} {A : Option Addr} {c : Nat} {g : List Bs.U} (h : OR w B A c g) : g.length ≤ c ∧ c ≤ maxLen := by
  rcases h.2 with ⟨hv, hn⟩ | ⟨b, cap, cur, hv, hb, hg, hnc, hcm, hcs, ht⟩
  · injection hv with hA hn hc
    subst hc
    exact ⟨by omega, Nat.zero_le _⟩
  · injection hv with hA hn hc
    subst hc
    exact ⟨hnc, hcm⟩
/-- the block of a row that is not empty -/
theorem OR.blk {w : World} {B : Nat} {A : Option Addr} {c : Nat} {g : List Bs.U} (h : OR w B A c g) (h0 : 0 < g.length) :
    ∃ b, A = some ⟨b, 0, none⟩ ∧ B ≤ b ∧ b < w.heap.size ∧ (∀ j u, (g.flatMap uc)[j]? = some u → w.cell? ⟨b, j, none⟩ = some u) ∧ ∀ j, w.frozen? ⟨b, j, none⟩ = false := by
  rcases h.2 with ⟨hv, hn⟩ | ⟨b, cap, cur, hv, hb, hg, hnc, hcm, hcs, ht⟩
  · omega
  · injection hv with hA hn hc
    subst hA
    refine ⟨b, rfl, hb, (Array.getElem?_eq_some_iff.1 hg).1, ?_, fun j => by simp [World.frozen?, hg]⟩
    intro j u hu
    have h1 := h.cells (g := b) (by simp [Value.ownBlock]) j u hu
    rwa [Addr.add_lit, Nat.zero_add] at h1
theorem run_push_users {w : World} {ty : TypeId} (B : Nat) (A : Option Addr) (c : Nat) (l m : List Bs.U) (hown : OR w B A c l)
    (b cc : Nat) (hc : ∀ j u, (m.flatMap uc)[j]? = some u → w.cell? ⟨b, j, none⟩ = some u) (hlen : l.length + m.length ≤ 1000000000) (hB : B ≤ w.heap.size) :
    ∃ A' c' w', (Builtin.append_ #[25, 25] ty #[.slice A l.length c, .slice (some ⟨b, 0, none⟩) m.length cc]).run Try.prog w = .ok (.slice A' (l.length + m.length) c') w' ∧ OR w' B A' c' (l ++ m) ∧ Below B w w' := by
  obtain ⟨i0, hi0, hz0, hz1, hz2⟩ := info_parts Try.infoUserD
  obtain ⟨v', w', hr, hown', hg, _⟩ := run_append_own (P := Try.prog) w B 25 ty 46 i0 _ 3 24 Try.underlying25 hi0 hz0 hz1 hz2 rfl (by decide) _ _ _ hown ⟨b, 0, none⟩ m.length cc (m.flatMap uc) OR.len
    (by intro j u hj; rw [Addr.add_lit, Nat.zero_add]; exact hc j u hj) (fun u hu => uc_one hu) (by unfold maxLen; omega) (by omega) hB
  have h1 : w'.ownsRow B 46 3 v' (l ++ m).length ((l ++ m).flatMap uc) := by
    rw [List.length_append, List.flatMap_append]
    exact hown'
  obtain ⟨A', c', hv, ho'⟩ := OR.form h1
  rw [hv, List.length_append] at hr
  refine ⟨A', c', w', hr, ho', ?_⟩
  refine (Below.refl B w).grown hg hB ?_
  intro k hk
  exact (hown.lt k hk).1
/-- 'g = append(g, x...)' of such tasks -/
theorem push_users {ops : Array Oper} {rest : List Oper} {o : Oper} {a : Act} {Q : Exit → Act → World → Prop} {w : World} (hgd : o.guard = none) (s x : Operand)
    (ho : o.op = .call { callee := .builtin .append, args := #[s, x], argTypes := #[25, 25] })
    (B : Nat) (A : Option Addr) (c : Nat) (l m : List Bs.U) (hs : a.eval s = .slice A l.length c) (hown : OR w B A c l)
    (b cc : Nat) (hx : a.eval x = .slice (some ⟨b, 0, none⟩) m.length cc) (hc : ∀ j u, (m.flatMap uc)[j]? = some u → w.cell? ⟨b, j, none⟩ = some u) (hlen : l.length + m.length ≤ 1000000000) (hB : B ≤ w.heap.size)
    (h : ∀ A' c' w', OR w' B A' c' (l ++ m) → Below B w w' → wpList Try.prog ops Q rest (a.put o.dst (.slice A' (l.length + m.length) c')) w') : wpList Try.prog ops Q (o :: rest) a w := by
  refine wpList_plain hgd fun K hK => ?_
  obtain ⟨A', c', w', hr, h1, h2⟩ := run_push_users (ty := o.type) B A c l m hown b cc hc hlen hB
  unfold Oper.wp
  simp [execOp, ho, resolve, invoke, builtin, hs, hx, hr, Result.andThen]
  exact hK _ _ (h A' c' w' h1 h2)
/-- 'append(g, t)', in a region that draws its order -/
theorem step_push_user {ops : Array Oper} {o : Oper} {a : Act} {w : World} {K : Act → World → Prop} {Q : Exit → Act → World → Prop} {E : Prop} (hgd : o.guard = none) (s x : Operand)
    (ho : o.op = .call { callee := .builtin .append, args := #[s, x], argTypes := #[25, 25] })
    (B : Nat) (A : Option Addr) (c : Nat) (l : List Bs.U) (t : Bs.U) (hs : a.eval s = .slice A l.length c) (hown : OR w B A c l)
    (b cc : Nat) (hx : a.eval x = .slice (some ⟨b, 0, none⟩) 1 cc) (hc : ∀ j u, (uc t)[j]? = some u → w.cell? ⟨b, j, none⟩ = some u) (hlen : l.length ≤ 100000000) (hB : B ≤ w.heap.size)
    (h : ∀ A' c' w', OR w' B A' c' (l ++ [t]) → Below B w w' → K (a.put o.dst (.slice A' (l.length + 1) c')) w') :
    if Region.wanted o (yielded ops a.tmps) = true then Oper.wp Try.prog o a w K Q else E := by
  have hw : Region.wanted o (yielded ops a.tmps) = true := by simp [Region.wanted, hgd]
  rw [if_pos hw]
  obtain ⟨A', c', w', hr, h1, h2⟩ := run_push_users (ty := o.type) B A c l [t] hown b cc (by intro j u hu; exact hc j u (by simpa using hu)) (by simp; omega) hB
  simp only [List.length_cons, List.length_nil, Nat.zero_add] at hr
  unfold Oper.wp
  simp [execOp, ho, resolve, invoke, builtin, hs, hx, hr, Result.andThen]
  exact h A' c' w' h1 h2
theorem OR.ru {w : World} {B : Nat} {A : Option Addr} {c : Nat} {g : List Bs.U} (h : OR w B A c g) : RU w B w.heap.size A g := by
  intro k hk
  obtain ⟨b, hA, hb, hlt, hc, _⟩ := h.blk (by omega)
  have hc' : ∀ j u, j < 3 → (uc g[k])[j]? = some u → w.cell? ⟨b, 0 + k * 3 + j, none⟩ = some u := by
    intro j u hj hu
    rw [Nat.zero_add]
    exact hc _ _ ((uc_at _ k hk j hj).trans hu)
  exact ⟨b, 0, hA, hb, hlt, hc' 0 _ (by omega) rfl, hc' 1 _ (by omega) rfl, hc' 2 _ (by omega) rfl⟩
theorem OR.below {w w' : World} {B B' : Nat} {A : Option Addr} {c : Nat} {l : List Bs.U} (h : OR w B A c l) (hb : Below B' w w') (hB : w.heap.size ≤ B') : OR w' B A c l := by
  refine ⟨h.1, ?_⟩
  rcases h.2 with hn | ⟨g, cap, cur, hv, h1, hg, rest⟩
  · exact .inl hn
  · exact .inr ⟨g, cap, cur, hv, h1, by rw [hb.block g (Nat.lt_of_lt_of_le (Array.getElem?_eq_some_iff.1 hg).1 hB)]; exact hg, rest⟩
theorem OR.base {w : World} {B B' : Nat} {A : Option Addr} {c : Nat} {l : List Bs.U} (h : OR w B A c l) (hB : B' ≤ B) : OR w B' A c l := by
  refine ⟨h.1, ?_⟩
  rcases h.2 with hn | ⟨g, cap, cur, hv, h1, rest⟩
  · exact .inl hn
  · exact .inr ⟨g, cap, cur, hv, by omega, rest⟩
theorem new_cellsR (w : World) (t : Bs.U) : ∀ j u, ([t].flatMap uc)[j]? = some u → (w.alloc (.cells #[.int .i64 t.share, .int .i64 t.used, .int .i64 t.waits] 46)).cell? ⟨w.heap.size, j, none⟩ = some u := by
  intro j u hu
  rw [(Blk.new w _ _).cell]
  simpa [uc] using hu
/-- one user of a row is another one -/
theorem uc_set : ∀ (l : List Bs.U) (k : Nat) (_hk : k < l.length) (u : Bs.U), (((l.flatMap uc).set (k * 3) (.int .i64 u.share)).set (k * 3 + 1) (.int .i64 u.used)).set (k * 3 + 2) (.int .i64 u.waits) = (l.set k u).flatMap uc
  | t :: r, 0, _, u => by simp [uc]
  | t :: r, k + 1, hk, u => by
    have := uc_set r k (by simpa using hk) u
    rw [List.flatMap_cons, List.set_cons_succ, List.flatMap_cons, ← this]
    have e : (uc t).length = 3 := rfl
    rw [List.set_append_right _ _ (by omega), List.set_append_right _ _ (by omega), List.set_append_right _ _ (by omega)]
    rw [show (k + 1) * 3 - (uc t).length = k * 3 from by omega, show (k + 1) * 3 + 1 - (uc t).length = k * 3 + 1 from by omega, show (k + 1) * 3 + 2 - (uc t).length = k * 3 + 2 from by omega]
def set3 (w : World) (b o : Nat) (u : Bs.U) : World := ((w.setCell ⟨b, o, none⟩ (.int .i64 u.share)).setCell ⟨b, o + 1, none⟩ (.int .i64 u.used)).setCell ⟨b, o + 2, none⟩ (.int .i64 u.waits)
theorem OR.setR {w : World} {B : Nat} {A : Option Addr} {c : Nat} {l : List Bs.U} (h : OR w B A c l) {k : Nat} (hk : k < l.length) (u : Bs.U) :
    ∃ b, A = some ⟨b, 0, none⟩ ∧ B ≤ b ∧ b < w.heap.size ∧ OR (set3 w b (k * 3) u) B A c (l.set k u) := by
  rcases h.2 with ⟨hv, hn⟩ | ⟨b, cap, cur, hv, hb, hg, hnc, hcm, hcs, ht⟩
  · omega
  · have hv2 := hv
    injection hv2 with hA hn hc
    subst hA
    refine ⟨b, rfl, hb, (Array.getElem?_eq_some_iff.1 hg).1, OR.len, .inr ⟨b, cap, _, by rw [List.length_set]; exact hv, hb, ((Blk.set_ (Blk.set_ (Blk.set_ hg (k * 3) (.int .i64 u.share)) (k * 3 + 1) (.int .i64 u.used)) (k * 3 + 2) (.int .i64 u.waits))), by rw [List.length_set]; exact hnc, hcm, by simp only [Array.size_setIfInBounds]; exact hcs, ?_⟩⟩
    rw [List.length_set, ← uc_set l k hk u]
    simp only [Array.toList_setIfInBounds, List.take_set, ht]
/-- users handed back -/
def RetU (w : World) (L : List Bs.U) (e : Ending) (w' : World) : Prop := (∃ A c, e = .returned (.slice A L.length c) ∧ OR w' w.heap.size A c L) ∧ Below w.heap.size w w'
end Go.Proofs.Ytbmfhnijbdmjbaa
