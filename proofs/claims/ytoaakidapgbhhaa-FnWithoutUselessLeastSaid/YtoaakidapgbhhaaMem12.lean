/-
  WORDS FOR MEMORY: lists behind a row of slices that lie apart from each other; rows of slices as they are read; rows of tasks of the call's own. No condition.
-/
import Derived.Test.YtoaakidapgbhhaaR30
import Derived.Test.YtoaakidapgbhhaaMem4
import Derived.Test.YtoaakidapgbhhaaOU0
namespace Go.Proofs.Ytoaakidapgbhhaa
open Go.RowKit
/-- lists behind a row of slices, each in blocks of its own, one behind the other -/
def SLc (w : World) (lo hi : Nat) (vs : List Value) (Ls : List (List Int)) : Prop := ∃ f : Nat → Nat, lo ≤ f 0 ∧ f Ls.length ≤ hi ∧ (∀ k, k < Ls.length → f k ≤ f (k + 1)) ∧ vs.length = Ls.length ∧
  ∀ k (hk : k < Ls.length), ∃ N c, vs[k]? = some (.slice N Ls[k].length c) ∧ OI w (f k) N c Ls[k] ∧ ∀ a, N = some a → a.block < f (k + 1)
theorem cut_mono {f : Nat → Nat} {n : Nat} (h : ∀ k, k < n → f k ≤ f (k + 1)) : ∀ d j, j + d ≤ n → f j ≤ f (j + d) := by
  intro d
  induction d with
  | zero => intro j _; exact Nat.le_refl _
  | succ d ih =>
    intro j hj
    have a := ih j (by omega)
    have b := h (j + d) (by omega)
    exact Nat.le_trans a b
theorem cut_le {f : Nat → Nat} {n : Nat} (h : ∀ k, k < n → f k ≤ f (k + 1)) {j k : Nat} (hjk : j ≤ k) (hk : k ≤ n) : f j ≤ f k := by
  have := cut_mono h (k - j) j (by omega)
  rwa [show j + (k - j) = k from by omega] at this
theorem SLc.sls {w : World} {lo hi : Nat} {vs : List Value} {Ls : List (List Int)} (h : SLc w lo hi vs Ls) : SLs w lo vs Ls := by
  obtain ⟨f, h0, h1, h2, h3, h4⟩ := h
  refine ⟨h3, fun k hk => ?_⟩
  obtain ⟨N, c, e, ho, _⟩ := h4 k hk
  exact ⟨N, c, e, ho.base (Nat.le_trans h0 (cut_le h2 (Nat.zero_le k) (by omega)))⟩
theorem SLc.len {w : World} {lo hi : Nat} {vs : List Value} {Ls : List (List Int)} (h : SLc w lo hi vs Ls) : vs.length = Ls.length := h.sls.1
theorem SLc.nil (w : World) {lo hi : Nat} (h : lo ≤ hi) : SLc w lo hi [] [] := ⟨fun _ => lo, Nat.le_refl _, h, fun k hk => by simp at hk, rfl, fun k hk => by simp at hk⟩
theorem SLc.more {w : World} {lo hi hi' : Nat} {vs : List Value} {Ls : List (List Int)} (h : SLc w lo hi vs Ls) (hh : hi ≤ hi') : SLc w lo hi' vs Ls := by
  obtain ⟨f, h0, h1, rest⟩ := h
  exact ⟨f, h0, Nat.le_trans h1 hh, rest⟩
theorem SLc.base {w : World} {lo lo' hi : Nat} {vs : List Value} {Ls : List (List Int)} (h : SLc w lo hi vs Ls) (hl : lo' ≤ lo) : SLc w lo' hi vs Ls := by
  obtain ⟨f, h0, rest⟩ := h
  exact ⟨f, Nat.le_trans hl h0, rest⟩
theorem SLc.below {w w' : World} {lo hi B : Nat} {vs : List Value} {Ls : List (List Int)} (h : SLc w lo hi vs Ls) (hb : Below B w w') (hB : w.heap.size ≤ B) : SLc w' lo hi vs Ls := by
  obtain ⟨f, h0, h1, h2, h3, h4⟩ := h
  refine ⟨f, h0, h1, h2, h3, fun k hk => ?_⟩
  obtain ⟨N, c, e, ho, hn⟩ := h4 k hk
  exact ⟨N, c, e, ho.below hb hB, hn⟩
theorem SLc.alloc {w : World} {lo hi : Nat} {vs : List Value} {Ls : List (List Int)} (h : SLc w lo hi vs Ls) (o : Obj) : SLc (w.alloc o) lo hi vs Ls := by
  obtain ⟨f, h0, h1, h2, h3, h4⟩ := h
  refine ⟨f, h0, h1, h2, h3, fun k hk => ?_⟩
  obtain ⟨N, c, e, ho, hn⟩ := h4 k hk
  exact ⟨N, c, e, ho.alloc o, hn⟩
theorem SLc.keptBy {w w' : World} {lo hi : Nat} {vs : List Value} {Ls : List (List Int)} {row : Option Nat} (h : SLc w lo hi vs Ls) (hg : w.grownBy w' row)
    (hne : ∀ B N c l, OI w B N c l → (Value.slice N l.length c).ownBlock = none ∨ (Value.slice N l.length c).ownBlock ≠ row) : SLc w' lo hi vs Ls := by
  obtain ⟨f, h0, h1, h2, h3, h4⟩ := h
  refine ⟨f, h0, h1, h2, h3, fun k hk => ?_⟩
  obtain ⟨N, c, e, ho, hn⟩ := h4 k hk
  exact ⟨N, c, e, ho.kept hg (hne _ _ _ _ ho), hn⟩
theorem SLc.kept {w w' : World} {lo hi B : Nat} {vs us : List Value} {Ls : List (List Int)} {A : Option Addr} {c : Nat} (h : SLc w lo hi us Ls) (hos : OS w B A c vs) (hg : w.grownBy w' (Value.slice A vs.length c).ownBlock) : SLc w' lo hi us Ls :=
  h.keptBy hg fun _ _ _ _ ho => ho.ne_os hos
theorem SLc.snoc {w : World} {lo hi h2 : Nat} {vs : List Value} {Ls : List (List Int)} {N : Option Addr} {c : Nat} {L : List Int} (h : SLc w lo hi vs Ls) (ho : OI w hi N c L) (hh : hi ≤ h2) (hn : ∀ a, N = some a → a.block < h2) :
    SLc w lo h2 (vs ++ [.slice N L.length c]) (Ls ++ [L]) := by
  obtain ⟨f, f0, f1, f2, f3, f4⟩ := h
  refine ⟨fun j => if j ≤ Ls.length then f j else h2, by simpa using f0, ?_, ?_, by rw [List.length_append, List.length_append, f3]; rfl, ?_⟩
  · show (if (Ls ++ [L]).length ≤ Ls.length then f (Ls ++ [L]).length else h2) ≤ h2
    rw [if_neg (by simp)]
    exact Nat.le_refl _
  · intro k hk
    show (if k ≤ Ls.length then f k else h2) ≤ (if k + 1 ≤ Ls.length then f (k + 1) else h2)
    rw [List.length_append] at hk
    simp only [List.length_cons, List.length_nil] at hk
    rw [if_pos (by omega)]
    by_cases e : k + 1 ≤ Ls.length
    · rw [if_pos e]; exact f2 k (by omega)
    · rw [if_neg e]
      have : k = Ls.length := by omega
      subst this
      omega
  · intro k hk
    rw [List.length_append] at hk
    simp only [List.length_cons, List.length_nil] at hk
    by_cases e : k < Ls.length
    · obtain ⟨M, d, a1, a2, a3⟩ := f4 k e
      refine ⟨M, d, ?_, ?_, ?_⟩
      · rw [List.getElem?_append_left (by omega), a1, List.getElem_append_left e]
      · show OI w (if k ≤ Ls.length then f k else h2) M d _
        rw [if_pos (by omega), List.getElem_append_left e]; exact a2
      · show ∀ a, M = some a → a.block < (if k + 1 ≤ Ls.length then f (k + 1) else h2)
        rw [if_pos (by omega)]; exact a3
    · have : k = Ls.length := by omega
      subst this
      refine ⟨N, c, ?_, ?_, ?_⟩
      · rw [List.getElem?_append_right (by omega), f3]
        simp
      · show OI w (if Ls.length ≤ Ls.length then f Ls.length else h2) N c _
        rw [if_pos (Nat.le_refl _)]
        simp only [List.getElem_append_right (Nat.le_refl _), Nat.sub_self, List.getElem_cons_zero]
        exact ho.base f1
      · show ∀ a, N = some a → a.block < (if Ls.length + 1 ≤ Ls.length then f (Ls.length + 1) else h2)
        rw [if_neg (by omega)]; exact hn
def RetSC (w : World) (Ls : List (List Int)) (e : Ending) (w' : World) : Prop := (∃ A c vs, e = .returned (.slice A (List.length vs) c) ∧ OS w' w.heap.size A c vs ∧ SLc w' w.heap.size w'.heap.size vs Ls) ∧ Below w.heap.size w w'
theorem RetSC.os {w w' : World} {Ls : List (List Int)} {e : Ending} (h : RetSC w Ls e w') : RetOS w Ls e w' := by
  obtain ⟨⟨A, c, vs, e, ho, hs⟩, hb⟩ := h
  exact ⟨⟨A, c, vs, e, ho, hs.sls⟩, hb⟩
theorem OS.nil0 (w : World) (B : Nat) : OS w B none 0 [] := World.ownsRow_nil w B 25 1
theorem RetSC.nil {w w1 : World} {Ls : List (List Int)} (hb : Below w.heap.size w w1) (h : Ls = []) : RetSC w Ls (.returned (.slice none 0 0)) w1 := by
  subst h
  exact ⟨⟨none, 0, [], rfl, OS.nil0 _ _, SLc.nil _ hb.size⟩, hb⟩
/-- a list of lists as it is read -/
def RS (w : World) (lo hi : Nat) (A : Option Addr) (Ls : List (List Int)) : Prop := ∀ k (hk : k < Ls.length), ∃ b o N c, A = some ⟨b, o, none⟩ ∧ lo ≤ b ∧ b < hi ∧ w.cell? ⟨b, o + k, none⟩ = some (.slice N Ls[k].length c) ∧ Ls[k].length ≤ 9223372036854775807 ∧ RI w lo hi N Ls[k]
theorem RS.keep {w w' : World} {lo hi : Nat} {A : Option Addr} {Ls : List (List Int)} (h : RS w lo hi A Ls) (hk : ∀ p : Addr, lo ≤ p.block → p.block < hi → w'.cell? p = w.cell? p) : RS w' lo hi A Ls := by
  intro k hl
  obtain ⟨b, o, N, c, e, h1, h2, hc, hn, hr⟩ := h k hl
  exact ⟨b, o, N, c, e, h1, h2, (hk ⟨b, o + k, none⟩ h1 h2).trans hc, hn, hr.keep hk⟩
theorem RS.below {w w' : World} {lo hi B : Nat} {A : Option Addr} {Ls : List (List Int)} (h : RS w lo hi A Ls) (hb : Below B w w') (hB : hi ≤ B) : RS w' lo hi A Ls := h.keep fun _ _ hp => hb.cell (by omega)
theorem RS.drewN {w : World} {lo hi : Nat} {A : Option Addr} {Ls : List (List Int)} (h : RS w lo hi A Ls) (n : Nat) : RS (w.drewN n) lo hi A Ls := h
theorem RS.of {w : World} {B : Nat} {A : Option Addr} {c : Nat} {vs : List Value} {Ls : List (List Int)} (ho : OS w B A c vs) (hs : SLs w B vs Ls) : RS w B w.heap.size A Ls := by
  intro k hk
  obtain ⟨b, e, h1, h2, hc⟩ := ho.at_ (k := k) (by rw [hs.1]; exact hk)
  obtain ⟨N, cN, n1, n2⟩ := hs.2 k hk
  rw [List.getElem?_eq_getElem (by rw [hs.1]; exact hk), Option.some.injEq] at n1
  rw [n1] at hc
  have hcap := n2.cap
  unfold maxLen at hcap
  exact ⟨b, 0, N, cN, e, h1, h2, by rw [Nat.zero_add]; exact hc, by omega, n2.ri⟩
theorem RetOS.rs {w w' : World} {Ls : List (List Int)} {e : Ending} (h : RetOS w Ls e w') : ∃ A c, e = .returned (.slice A Ls.length c) ∧ RS w' w.heap.size w'.heap.size A Ls ∧ Below w.heap.size w w' := by
  obtain ⟨⟨A, c, vs, rfl, ho, hs⟩, hb⟩ := h
  exact ⟨A, c, by rw [hs.1], RS.of ho hs, hb⟩
theorem OI.two (w : World) (B : Nat) (hB : B ≤ w.heap.size) (x y : Int) : OI (w.alloc (.cells #[.int .i64 x, .int .i64 y] 3)) B (some ⟨w.heap.size, 0, none⟩) 2 [x, y] :=
  ⟨by simp, .inr ⟨w.heap.size, 2, #[.int .i64 x, .int .i64 y], rfl, hB, heap_alloc_new w _, Nat.le_refl _, by unfold maxLen; omega, by simp, by simp⟩⟩
/-- a graph that the call laid itself -/
def TSc (w : World) (lo hi : Nat) (rs : List RW) (g : List Bs.T) : Prop := rs.map RW.t = g ∧ SLc w lo hi (rs.map fun r => .slice r.N r.t.needs.length r.c) (g.map Bs.T.needs)
theorem TSc.len {w : World} {lo hi : Nat} {rs : List RW} {g : List Bs.T} (h : TSc w lo hi rs g) : rs.length = g.length := by rw [← h.1, List.length_map]
theorem TSc.nil (w : World) {lo hi : Nat} (h : lo ≤ hi) : TSc w lo hi [] [] := ⟨rfl, SLc.nil w h⟩
theorem TSc.more {w : World} {lo hi hi' : Nat} {rs : List RW} {g : List Bs.T} (h : TSc w lo hi rs g) (hh : hi ≤ hi') : TSc w lo hi' rs g := ⟨h.1, h.2.more hh⟩
theorem TSc.below {w w' : World} {lo hi B : Nat} {rs : List RW} {g : List Bs.T} (h : TSc w lo hi rs g) (hb : Below B w w') (hB : w.heap.size ≤ B) : TSc w' lo hi rs g := ⟨h.1, h.2.below hb hB⟩
theorem TSc.alloc {w : World} {lo hi : Nat} {rs : List RW} {g : List Bs.T} (h : TSc w lo hi rs g) (o : Obj) : TSc (w.alloc o) lo hi rs g := ⟨h.1, h.2.alloc o⟩
theorem TSc.snoc {w : World} {lo hi h2 : Nat} {rs : List RW} {g : List Bs.T} {t : Bs.T} {N : Option Addr} {c : Nat} (h : TSc w lo hi rs g) (ho : OI w hi N c t.needs) (hh : hi ≤ h2) (hn : ∀ a, N = some a → a.block < h2) :
    TSc w lo h2 (rs ++ [⟨t, N, c⟩]) (g ++ [t]) := by
  refine ⟨by rw [List.map_append, h.1]; rfl, ?_⟩
  rw [List.map_append, List.map_append]
  exact h.2.snoc ho hh hn
theorem OI.ne_ou {w : World} {B B' : Nat} {A A' : Option Addr} {c c' : Nat} {l : List Int} {rs : List RW} (h : OI w B A c l) (k : OU w B' A' c' rs) : (Value.slice A l.length c).ownBlock = none ∨ (Value.slice A l.length c).ownBlock ≠ (Value.slice A' rs.length c').ownBlock := by
  rcases h.2 with ⟨hv, hn⟩ | ⟨b, cap, cur, hv, hb, hg, _⟩
  · left; rw [hv]; rfl
  · rcases k.2 with ⟨kv, kn⟩ | ⟨b', cap', cur', kv, kb, kg, _⟩
    · right; rw [hv, kv]; simp [Value.ownBlock]
    · right
      rw [hv, kv]
      intro e
      have e2 : b = b' := by simpa [Value.ownBlock] using e
      subst e2
      rw [hg] at kg
      injection kg with kg
      injection kg with _ ht _
      exact absurd ht (by decide)
theorem TSc.kept {w w' : World} {lo hi B : Nat} {rs us : List RW} {g : List Bs.T} {A : Option Addr} {c : Nat} (h : TSc w lo hi us g) (hos : OU w B A c rs) (hg : w.grownBy w' (Value.slice A rs.length c).ownBlock) : TSc w' lo hi us g :=
  ⟨h.1, h.2.keptBy hg fun _ _ _ _ ho => ho.ne_ou hos⟩
theorem OU.below {w w' : World} {B B' : Nat} {A : Option Addr} {c : Nat} {g : List RW} (h : OU w B A c g) (hb : Below B' w w') (hB : w.heap.size ≤ B') : OU w' B A c g := by
  refine ⟨h.1, ?_⟩
  rcases h.2 with hn | ⟨b, cap, cur, hv, h1, hg, rest⟩
  · exact .inl hn
  · exact .inr ⟨b, cap, cur, hv, h1, by rw [hb.block b (by have := (Array.getElem?_eq_some_iff.1 hg).1; omega)]; exact hg, rest⟩
theorem OU.alloc0 {w : World} {B : Nat} {A : Option Addr} {c : Nat} {g : List RW} (h : OU w B A c g) (o : Obj) : OU (w.alloc o) B A c g := World.ownsRow.alloc h o
theorem OU.none_ (w : World) (B : Nat) : OU w B none 0 [] := World.ownsRow_nil w B 29 4
theorem OU.set_ {w : World} {B : Nat} {A : Option Addr} {c : Nat} {g : List RW} (h : OU w B A c g) {p : Addr} (u : Value) (hne : ∀ a, A = some a → a.block ≠ p.block) : OU (w.setCell p u) B A c g := by
  refine ⟨h.1, ?_⟩
  rcases h.2 with hn | ⟨b, cap, cur, hv, h1, hg, rest⟩
  · exact .inl hn
  · refine .inr ⟨b, cap, cur, hv, h1, ?_, rest⟩
    injection hv with hA _ _
    rw [Below.heap_setCell w p u b (hne _ hA)]
    exact hg
/-- a block of another type is no block of the row -/
theorem Blk.kept_os {w w' : World} {g : Nat} {cs : Array Value} {t : TypeId} {B : Nat} {A : Option Addr} {c : Nat} {vs : List Value} (h : Blk w g t cs) (hos : OS w B A c vs) (hg : w.grownBy w' (Value.slice A vs.length c).ownBlock) (ht : t ≠ 25 := by decide) : Blk w' g t cs := by
  refine (hg.block g h.lt ?_).trans h
  intro e
  rcases hos.2 with ⟨kv, kn⟩ | ⟨b', cap', cur', kv, kb, kg, _⟩
  · rw [kv] at e; cases e
  · rw [kv] at e
    have e2 : g = b' := by simpa [Value.ownBlock] using e
    subst e2
    unfold Blk at h
    rw [h] at kg
    injection kg with kg
    injection kg with _ ht2 _
    exact ht ht2
theorem Blk.kept_ou {w w' : World} {g : Nat} {cs : Array Value} {t : TypeId} {B : Nat} {A : Option Addr} {c : Nat} {vs : List RW} (h : Blk w g t cs) (hos : OU w B A c vs) (hg : w.grownBy w' (Value.slice A vs.length c).ownBlock) (ht : t ≠ 29 := by decide) : Blk w' g t cs := by
  refine (hg.block g h.lt ?_).trans h
  intro e
  rcases hos.2 with ⟨kv, kn⟩ | ⟨b', cap', cur', kv, kb, kg, _⟩
  · rw [kv] at e; cases e
  · rw [kv] at e
    have e2 : g = b' := by simpa [Value.ownBlock] using e
    subst e2
    unfold Blk at h
    rw [h] at kg
    injection kg with kg
    injection kg with _ ht2 _
    exact ht ht2
/-- 'append(rows, row)', and what keeps its blocks -/
theorem push_rowsG {ops : Array Oper} {rest : List Oper} {o : Oper} {a : Act} {Q : Exit → Act → World → Prop} {w : World} (hgd : o.guard = none) (s x : Operand)
    (ho : o.op = .call { callee := .builtin .append, args := #[s, x], argTypes := #[23, 23] })
    (B : Nat) (A : Option Addr) (c : Nat) (l m : List RW) (hs : a.eval s = .slice A l.length c) (hown : OU w B A c l) (hm : 0 < m.length)
    (b off cc : Nat) (hx : a.eval x = .slice (some ⟨b, off, none⟩) m.length cc) (hc : ∀ j u, (m.flatMap tcU)[j]? = some u → w.cell? ⟨b, off + j, none⟩ = some u) (hlen : l.length + m.length ≤ 1000000000) (hB : B ≤ w.heap.size)
    (h : ∀ A' c' w', OU w' B A' c' (l ++ m) → Below B w w' → w.grownBy w' (Value.slice A l.length c).ownBlock → w.heap.size ≤ w'.heap.size → wpList Try.prog ops Q rest (a.put o.dst (.slice A' (l.length + m.length) c')) w') : wpList Try.prog ops Q (o :: rest) a w := by
  refine wpList_plain hgd fun K hK => ?_
  obtain ⟨A', c', w', hr, h1, h2, h3⟩ := run_push_rows (ty := o.type) B A c l m hown b off cc hc hlen hB
  unfold Oper.wp
  simp [execOp, ho, resolve, invoke, builtin, hs, hx, hr, Result.andThen]
  exact hK _ _ (h A' c' w' h1 h2 (h3 (by omega)) h2.size)
def RetT (w : World) (g : List Bs.T) (e : Ending) (w' : World) : Prop := (∃ A c rs, e = .returned (.slice A (List.length rs) c) ∧ OU w' w.heap.size A c rs ∧ TSc w' w.heap.size w'.heap.size rs g) ∧ Below w.heap.size w w'
theorem RetT.nil {w w1 : World} {g : List Bs.T} (hb : Below w.heap.size w w1) (h : g = []) : RetT w g (.returned (.slice none 0 0)) w1 := by
  subst h
  exact ⟨⟨none, 0, [], rfl, OU.none_ _ _, TSc.nil _ hb.size⟩, hb⟩
theorem TSc.rg {w : World} {B : Nat} {A : Option Addr} {c : Nat} {rs : List RW} {g : List Bs.T} (ho : OU w B A c rs) (hs : TSc w B w.heap.size rs g) : RG w B w.heap.size A g := by
  intro k hk
  have hrl := hs.len
  obtain ⟨b, rfl, hbB, hlt, hc, _⟩ := ho.blk (by omega)
  have hk2 : k < rs.length := by omega
  have hc' : ∀ j u, j < 4 → (tcU rs[k])[j]? = some u → w.cell? ⟨b, k * 4 + j, none⟩ = some u := fun j u hj hu => hc _ _ ((tcU_at _ k hk2 j hj).trans hu)
  have e1 : rs[k].t = g[k] := by
    have := hs.1
    subst this
    rw [List.getElem_map]
  obtain ⟨N, cN, n1, n2⟩ := hs.2.sls.2 k (by rw [List.length_map]; exact hk)
  rw [List.getElem?_map, List.getElem?_eq_getElem hk2] at n1
  simp only [Option.map_some, Option.some.injEq, List.getElem_map] at n1 n2
  injection n1 with m1 m2 m3
  have hcap := n2.cap
  unfold maxLen at hcap
  refine ⟨b, 0, rs[k].N, rs[k].c, rfl, by omega, hlt, ?_, ?_, ?_, ?_, ?_, ?_, ?_⟩
  · rw [Nat.zero_add, ← e1]; exact hc' 0 _ (by omega) rfl
  · rw [Nat.zero_add, ← e1]; exact hc' 1 _ (by omega) rfl
  · rw [Nat.zero_add, ← e1]; exact hc' 2 _ (by omega) rfl
  · rw [Nat.zero_add, ← e1]; exact hc' 3 _ (by omega) rfl
  · rw [m3]; exact hcap.1
  · rw [m3]; exact hcap.2
  · rw [m1]; exact n2.ri
theorem RetT.rg {w w' : World} {g : List Bs.T} {e : Ending} (h : RetT w g e w') : ∃ A c, e = .returned (.slice A g.length c) ∧ RG w' w.heap.size w'.heap.size A g ∧ Below w.heap.size w w' := by
  obtain ⟨⟨A, c, rs, rfl, ho, hs⟩, hb⟩ := h
  exact ⟨A, c, by rw [hs.len], hs.rg ho, hb⟩
end Go.Proofs.Ytoaakidapgbhhaa
