/-
  TYPED MEMORY: from block lo on, rows of integers hold integers and rows of tasks hold tasks; what keeps that. No condition.
-/
import Derived.Test.YtihgakbopkaemaaK1
import Derived.Deep.AppendSrc
namespace Go.Proofs.Ytihgakbopkaemaa
open Go.RowKit

def IsI (v : Value) : Prop := ∃ x, v = .int .i64 x
/-- block b, of type t, has at least m cells -/
def Row (w : World) (lo b : Nat) (t : TypeId) (m : Nat) : Prop := lo ≤ b ∧ ∃ cs : Array Value, w.heap[b]? = some (.cells cs t (0, 0)) ∧ m ≤ cs.size
/-- v is a slice of n elements of type t, of s cells each, in a block from lo on -/
def SL (w : World) (lo : Nat) (t : TypeId) (s : Nat) (v : Value) (n : Nat) : Prop :=
  ∃ A c, v = .slice A n c ∧ n ≤ c ∧ c ≤ maxLen ∧ ((A = none ∧ c = 0) ∨ ∃ b o, A = some ⟨b, o * s, none⟩ ∧ Row w lo b t ((o + c) * s))
/-- what lies at place i of a row of type t -/
def TY (w : World) (lo P : Nat) (t : TypeId) (i : Nat) (v : Value) : Prop :=
  (t = 35 → i % 4 = 1 → ∃ n, n ≤ P ∧ SL w lo 3 1 v n) ∧ ((t = 35 ∧ i % 4 = 1) ∨ IsI v)
def Typ (t : TypeId) (s : Nat) : Prop := (t = 3 ∧ s = 1) ∨ (t = 35 ∧ s = 4)
def WT (lo P : Nat) (w : World) : Prop := ∀ b cs t s, Typ t s → lo ≤ b → w.heap[b]? = some (.cells cs t (0, 0)) → ∀ i v, cs[i]? = some v → TY w lo P t i v
def Ext (lo : Nat) (w w' : World) : Prop := ∀ b t s m, Typ t s → Row w lo b t m → Row w' lo b t m
/-- a slice of bytes -/
def RB (w : World) (lo hi : Nat) (A : Option Addr) (l : List Int) : Prop :=
  ∀ k (hk : k < l.length), ∃ b o, A = some ⟨b, o, none⟩ ∧ lo ≤ b ∧ b < hi ∧ w.cell? ⟨b, o + k, none⟩ = some (.int .u8 l[k]) ∧ 0 ≤ l[k] ∧ l[k] < 256
theorem RB.keep {w w' : World} {lo hi : Nat} {A : Option Addr} {l : List Int} (h : RB w lo hi A l) (hk : ∀ p : Addr, lo ≤ p.block → p.block < hi → w'.cell? p = w.cell? p) : RB w' lo hi A l := by
  intro k hl
  obtain ⟨b, o, e, h1, h2, hc, hv⟩ := h k hl
  exact ⟨b, o, e, h1, h2, (hk ⟨b, o + k, none⟩ h1 h2).trans hc, hv⟩
theorem RB.below {w w' : World} {lo hi : Nat} {A : Option Addr} {l : List Int} {B : Nat} (h : RB w lo hi A l) (hb : Below B w w') (hB : hi ≤ B) : RB w' lo hi A l :=
  h.keep fun _ _ hp => hb.cell (by omega)
/-- block rb is a reader of bytes; it has been asked at most P times -/
def RD (w : World) (lo rb P : Nat) : Prop := lo ≤ rb ∧ ∃ A c l, ∃ p : Nat, w.heap[rb]? = some (.cells #[.slice A (List.length l) c, .int .i64 p] 100 (0, 0)) ∧ p ≤ P ∧ l.length ≤ 2000 ∧ RB w 0 lo A l
structure St (lo rb P : Nat) (w : World) : Prop where
  le : lo ≤ w.heap.size
  wt : WT lo P w
  rd : RD w lo rb P
def Fwd (lo : Nat) (w w' : World) : Prop := Below lo w w' ∧ Ext lo w w'
theorem Ext.refl (lo : Nat) (w : World) : Ext lo w w := fun _ _ _ _ _ h => h
theorem Ext.trans {lo : Nat} {a b c : World} (h : Ext lo a b) (k : Ext lo b c) : Ext lo a c := fun x t s m ht hr => k x t s m ht (h x t s m ht hr)
theorem Fwd.refl (lo : Nat) (w : World) : Fwd lo w w := ⟨Below.refl lo w, Ext.refl lo w⟩
theorem Fwd.trans {lo : Nat} {a b c : World} (h : Fwd lo a b) (k : Fwd lo b c) : Fwd lo a c := ⟨h.1.trans k.1, h.2.trans k.2⟩
theorem SL.ext {w w' : World} {lo : Nat} {t : TypeId} {s : Nat} {v : Value} {n : Nat} (h : SL w lo t s v n) (ht : Typ t s) (e : Ext lo w w') : SL w' lo t s v n := by
  obtain ⟨A, c, hv, h1, h2, h3⟩ := h
  refine ⟨A, c, hv, h1, h2, h3.imp id ?_⟩
  rintro ⟨b, o, hA, hr⟩
  exact ⟨b, o, hA, e b t s _ ht hr⟩
theorem TY.ext {w w' : World} {lo P : Nat} {t : TypeId} {i : Nat} {v : Value} (h : TY w lo P t i v) (e : Ext lo w w') : TY w' lo P t i v :=
  ⟨fun h1 h2 => by obtain ⟨n, hn, hs⟩ := h.1 h1 h2; exact ⟨n, hn, hs.ext (.inl ⟨rfl, rfl⟩) e⟩, h.2⟩
theorem TY.int (w : World) (lo P : Nat) (i : Nat) {v : Value} (h : IsI v) : TY w lo P 3 i v := ⟨fun h1 => absurd h1 (by decide), .inr h⟩
theorem TY.isI {w : World} {lo P i : Nat} {v : Value} (h : TY w lo P 3 i v) : IsI v := h.2.resolve_left fun h1 => absurd h1.1 (by decide)
theorem TY.fld {w : World} {lo P i : Nat} {v : Value} (h : TY w lo P 35 i v) (hi : i % 4 ≠ 1) : IsI v := h.2.resolve_left fun h1 => hi h1.2
theorem TY.num (w : World) (lo P : Nat) (t : TypeId) {i : Nat} {v : Value} (h : IsI v) (hi : i % 4 ≠ 1) : TY w lo P t i v := ⟨fun _ h2 => absurd h2 hi, .inr h⟩
theorem TY.sl {w : World} {lo P i n : Nat} {v : Value} (hn : n ≤ P) (h : SL w lo 3 1 v n) (hi : i % 4 = 1) : TY w lo P 35 i v := ⟨fun _ _ => ⟨n, hn, h⟩, .inl ⟨rfl, hi⟩⟩
theorem TY.shift {w : World} {lo P i o s : Nat} {t : TypeId} {v : Value} (ht : Typ t s) (h : TY w lo P t i v) : TY w lo P t (o * s + i) v := by
  rcases ht with ⟨rfl, rfl⟩ | ⟨rfl, rfl⟩
  · exact TY.int _ _ _ _ h.isI
  · have : (o * 4 + i) % 4 = i % 4 := by omega
    exact ⟨fun h1 h2 => h.1 h1 (by omega), h.2.imp (fun h1 => ⟨h1.1, by omega⟩) id⟩
theorem TY.unshift {w : World} {lo P i o s : Nat} {t : TypeId} {v : Value} (ht : Typ t s) (h : TY w lo P t (o * s + i) v) : TY w lo P t i v := by
  rcases ht with ⟨rfl, rfl⟩ | ⟨rfl, rfl⟩
  · exact TY.int _ _ _ _ h.isI
  · have : (o * 4 + i) % 4 = i % 4 := by omega
    exact ⟨fun h1 h2 => h.1 h1 (by omega), h.2.imp (fun h1 => ⟨h1.1, by omega⟩) id⟩
theorem Row.at_ {w : World} {lo P b m : Nat} {t : TypeId} {s : Nat} (r : Row w lo b t m) (h : WT lo P w) (ht : Typ t s) {i : Nat} (hi : i < m) : ∃ v, w.cell? ⟨b, i, none⟩ = some v ∧ TY w lo P t i v ∧ w.frozen? ⟨b, i, none⟩ = false := by
  obtain ⟨hb, cs, hc, hm⟩ := r
  have hlt : i < cs.size := by omega
  refine ⟨cs[i], ?_, h b cs t s ht hb hc i _ (by simp [hlt]), ?_⟩
  · rw [cell_of_row w b i cs t (0, 0) hc]; simp [hlt]
  · simp [World.frozen?, hc]
theorem Row.less {w : World} {lo b m m' : Nat} {t : TypeId} (r : Row w lo b t m) (h : m' ≤ m) : Row w lo b t m' := by
  obtain ⟨hb, cs, hc, hm⟩ := r
  exact ⟨hb, cs, hc, by omega⟩

theorem TY.more {w : World} {lo P P' i : Nat} {t : TypeId} {v : Value} (h : TY w lo P t i v) (hp : P ≤ P') : TY w lo P' t i v :=
  ⟨fun h1 h2 => by obtain ⟨n, hn, hs⟩ := h.1 h1 h2; exact ⟨n, by omega, hs⟩, h.2⟩

structure Upd (w w' : World) (b0 : Nat) (t : TypeId) (cs' : Array Value) : Prop where
  os : w'.os = w.os
  tape : w'.tape = w.tape
  output : w'.output = w.output
  size : w.heap.size ≤ w'.heap.size
  other : ∀ b, b ≠ b0 → w'.heap[b]? = w.heap[b]?
  at_ : w'.heap[b0]? = some (.cells cs' t (0, 0))
  old : w.heap[b0]? = none ∨ ∃ cs : Array Value, w.heap[b0]? = some (.cells cs t (0, 0)) ∧ cs'.size = cs.size
theorem Upd.ext {w w' : World} {b0 : Nat} {t : TypeId} {cs' : Array Value} (h : Upd w w' b0 t cs') (lo : Nat) : Ext lo w w' := by
  intro b t' s m _ hr
  obtain ⟨hb, cs, hc, hm⟩ := hr
  by_cases e : b = b0
  · subst e
    rcases h.old with h1 | ⟨cs1, h1, h2⟩
    · rw [h1] at hc; cases hc
    · rw [h1] at hc
      cases hc
      exact ⟨hb, cs', h.at_, by omega⟩
  · exact ⟨hb, cs, (h.other b e).trans hc, hm⟩
theorem Upd.below {w w' : World} {b0 : Nat} {t : TypeId} {cs' : Array Value} (h : Upd w w' b0 t cs') {lo : Nat} (hl : lo ≤ b0) : Below lo w w' :=
  ⟨h.os, h.tape, h.output, h.size, fun k hk => h.other k (by omega)⟩
theorem St.upd {w w' : World} {b0 : Nat} {t : TypeId} {cs' : Array Value} {lo rb P : Nat} (hs : St lo rb P w) (h : Upd w w' b0 t cs') (hl : lo ≤ b0) (hr : t ≠ 100)
    (hty : ∀ s, Typ t s → ∀ i v, cs'[i]? = some v → TY w lo P t i v) : St lo rb P w' ∧ Fwd lo w w' := by
  have hb := h.below hl
  have he := h.ext lo
  refine ⟨⟨Nat.le_trans hs.le h.size, ?_, ?_⟩, hb, he⟩
  · intro b cs t' s ht hlb hc i v hv
    by_cases e : b = b0
    · subst e
      rw [h.at_] at hc
      cases hc
      exact (hty s ht i v hv).ext he
    · rw [h.other b e] at hc
      exact (hs.wt b cs t' s ht hlb hc i v hv).ext he
  · obtain ⟨h1, A, c, l, p, h2, h3, h4, h5⟩ := hs.rd
    refine ⟨h1, A, c, l, p, ?_, h3, h4, h5.below hb (Nat.le_refl _)⟩
    by_cases e : rb = b0
    · subst e
      rcases h.old with h6 | ⟨cs1, h6, _⟩
      · rw [h6] at h2; cases h2
      · rw [h6] at h2
        cases h2
        exact absurd rfl hr
    · rw [h.other rb e]; exact h2
theorem Upd.alloc (w : World) (t : TypeId) (cs : Array Value) : Upd w (w.alloc (.cells cs t)) w.heap.size t cs := by
  refine ⟨rfl, rfl, rfl, by simp, ?_, heap_alloc_new w _, .inl (Array.getElem?_eq_none (Nat.le_refl _))⟩
  intro b hb
  by_cases e : b < w.heap.size
  · exact Below.heap_alloc w _ _ e
  · rw [Array.getElem?_eq_none (by simp; omega), Array.getElem?_eq_none (by omega)]
theorem Upd.set_ {w : World} {b : Nat} {t : TypeId} {cs : Array Value} (h : w.heap[b]? = some (.cells cs t (0, 0))) (i : Nat) (u : Value) : Upd w (w.setCell ⟨b, i, none⟩ u) b t (cs.setIfInBounds i u) := by
  refine ⟨rfl, rfl, rfl, by simp [World.setCell], ?_, Blk.set_ h i u, .inr ⟨cs, h, by simp⟩⟩
  intro k hk
  unfold World.setCell
  simp only [Array.getElem?_modify]
  rw [if_neg (fun e => hk e.symm)]
theorem St.alloc {w : World} {lo rb P : Nat} (hs : St lo rb P w) (t : TypeId) (cs : Array Value) (hr : t ≠ 100) (hty : ∀ s, Typ t s → ∀ i v, cs[i]? = some v → TY w lo P t i v) :
    St lo rb P (w.alloc (.cells cs t)) ∧ Fwd lo w (w.alloc (.cells cs t)) := hs.upd (Upd.alloc w t cs) hs.le hr hty
theorem St.set_ {w : World} {lo rb P b m i : Nat} {t : TypeId} {s : Nat} {u : Value} (hs : St lo rb P w) (r : Row w lo b t m) (ht : Typ t s) (hu : TY w lo P t i u) :
    St lo rb P (w.setCell ⟨b, i, none⟩ u) ∧ Fwd lo w (w.setCell ⟨b, i, none⟩ u) := by
  obtain ⟨hb, cs, hc, hm⟩ := r
  refine hs.upd (Upd.set_ hc i u) hb ?_ ?_
  · rcases ht with ⟨rfl, _⟩ | ⟨rfl, _⟩ <;> decide
  · intro s' ht' j v hv
    rw [Array.getElem?_setIfInBounds] at hv
    split at hv
    · rename_i e
      subst e
      split at hv
      · cases hv; exact hu
      · cases hv
    · exact hs.wt b cs t s' ht' hb hc j v hv
theorem St.drew {w : World} {lo rb P : Nat} (hs : St lo rb P w) : St lo rb P w.drew ∧ Fwd lo w w.drew := ⟨⟨hs.le, hs.wt, hs.rd⟩, ⟨rfl, rfl, rfl, Nat.le_refl _, fun _ _ => rfl⟩, fun _ _ _ _ _ h => h⟩
theorem St.drewN {w : World} {lo rb P : Nat} (hs : St lo rb P w) (n : Nat) : St lo rb P (w.drewN n) ∧ Fwd lo w (w.drewN n) := ⟨⟨hs.le, hs.wt, hs.rd⟩, ⟨rfl, rfl, rfl, Nat.le_refl _, fun _ _ => rfl⟩, fun _ _ _ _ _ h => h⟩
theorem St.more {w : World} {lo rb P P' : Nat} (hs : St lo rb P w) (h : P ≤ P') : St lo rb P' w := by
  obtain ⟨h0, h1, h2, A, c, l, p, h3, h4, h5⟩ := hs
  exact ⟨h0, fun b cs t s ht hb hc i v hv => (h1 b cs t s ht hb hc i v hv).more h, h2, A, c, l, p, h3, by omega, h5⟩
theorem St.setCells {lo rb P b : Nat} {t : TypeId} {s : Nat} (ht : Typ t s) : ∀ (vs : List Value) (off : Nat) (w : World), St lo rb P w → Row w lo b t (off + vs.length) → (∀ j u, vs[j]? = some u → TY w lo P t (off + j) u) →
    St lo rb P (w.setCells b off vs) ∧ Fwd lo w (w.setCells b off vs)
  | [], off, w, hs, _, _ => ⟨hs, Fwd.refl lo w⟩
  | v :: r, off, w, hs, hr, hu => by
    obtain ⟨s1, f1⟩ := hs.set_ (i := off) (u := v) hr ht (by simpa using hu 0 v (by simp))
    obtain ⟨s2, f2⟩ := St.setCells ht r (off + 1) _ s1 ((f1.2 _ _ _ _ ht hr).less (by simp; omega)) (by
      intro j u hj
      have := hu (j + 1) u (by simpa using hj)
      rw [show off + 1 + j = off + (j + 1) from by omega]
      exact this.ext f1.2)
    exact ⟨s2, f1.trans f2⟩

/-- rows of other types than t are as they were -/
def Keeps (t : TypeId) (w w' : World) : Prop := ∀ (b : Nat) (t' : TypeId) (cs : Array Value), t' ≠ t → w.heap[b]? = some (Obj.cells cs t' (0, 0)) → w'.heap[b]? = some (Obj.cells cs t' (0, 0))
theorem Keeps.refl (t : TypeId) (w : World) : Keeps t w w := fun _ _ _ _ h => h
theorem Keeps.trans {t : TypeId} {a b c : World} (h : Keeps t a b) (k : Keeps t b c) : Keeps t a c := fun x t' cs ht hx => k x t' cs ht (h x t' cs ht hx)
theorem Upd.keeps {w w' : World} {b0 : Nat} {t : TypeId} {cs' : Array Value} (h : Upd w w' b0 t cs') : Keeps t w w' := by
  intro b t' cs ht hc
  by_cases e : b = b0
  · subst e
    rcases h.old with h1 | ⟨cs1, h1, h2⟩
    · rw [h1] at hc; cases hc
    · rw [h1] at hc
      cases hc
      exact absurd rfl ht
  · exact (h.other b e).trans hc
theorem Keeps.setCells {b : Nat} {t : TypeId} : ∀ (vs : List Value) (off : Nat) (w : World) (cs : Array Value), w.heap[b]? = some (.cells cs t (0, 0)) → Keeps t w (w.setCells b off vs)
  | [], _, _, _, _ => Keeps.refl t _
  | v :: r, off, _, _, hc => (Upd.set_ hc off v).keeps.trans (Keeps.setCells r (off + 1) _ _ (Upd.set_ hc off v).at_)
/-- rows of tasks are as they were -/
def KT (w w' : World) : Prop := ∀ (b : Nat) (cs : Array Value), w.heap[b]? = some (Obj.cells cs 35 (0, 0)) → w'.heap[b]? = some (Obj.cells cs 35 (0, 0))
theorem KT.refl (w : World) : KT w w := fun _ _ h => h
theorem KT.trans {a b c : World} (h : KT a b) (k : KT b c) : KT a c := fun x cs hx => k x cs (h x cs hx)
theorem Keeps.kt {t : TypeId} {w w' : World} (h : Keeps t w w') (ht : 35 ≠ t) : KT w w' := fun b cs hc => h b _ cs ht hc
theorem KT.alloc (w : World) (o : Obj) : KT w (w.alloc o) := fun b cs hc => by
  rcases Nat.lt_or_ge b w.heap.size with hlt | hge
  · exact (Below.heap_alloc w o b hlt).trans hc
  · rw [Array.getElem?_eq_none hge] at hc; cases hc
theorem KT.drewN (w : World) (n : Nat) : KT w (w.drewN n) := fun _ _ h => h
theorem KT.cell {w w' : World} (h : KT w w') {lo b m i : Nat} (r : Row w lo b 35 m) : w'.cell? ⟨b, i, none⟩ = w.cell? ⟨b, i, none⟩ ∧ w'.frozen? ⟨b, i, none⟩ = false := by
  obtain ⟨_, cs, hc, _⟩ := r
  have hc' := h b cs hc
  refine ⟨?_, by simp [World.frozen?, hc']⟩
  rw [cell_of_row w b i cs _ (0, 0) hc, cell_of_row w' b i cs _ (0, 0) hc']
/-- append, typed: what it is handed is known as cells -/
theorem run_push {lo rb P : Nat} {w : World} {t ts tx ty : TypeId} {s bytes : Nat} {z : Value} {i : TypeInfo} (ht : Typ t s) (h1 : Try.prog.underlying ts = some (.slice t)) (hi : Try.prog.info? t = some i) (hz : i.zero = some z) (hsz : i.size = s) (hby : i.bytes = bytes) (hb48 : bytes ≤ 100)
    (hzc : z.cells.size = s) (hzt : ∀ j, j < s → TY w lo P t j z.cells[j]!) {v x : Value} {n m : Nat} {news : List Value} (hs : St lo rb P w) (hv : SL w lo t s v n) (hx : Src Try.prog s tx x m news w) (hn : ∀ j u, news[j]? = some u → TY w lo P t j u) (hm : n + m ≤ 1000000000) :
    ∃ v' w', (Builtin.append_ #[ts, tx] ty #[v, x]).run Try.prog w = .ok v' w' ∧ SL w' lo t s v' (n + m) ∧ St lo rb P w' ∧ Fwd lo w w' ∧ Keeps t w w' := by
  subst hsz
  subst hby
  obtain ⟨A, c, rfl, hnc, hcm, hA⟩ := hv
  have hs0 : 0 < i.size := by rcases ht with ⟨_, h⟩ | ⟨_, h⟩ <;> omega
  have hrd : t ≠ 100 := by rcases ht with ⟨rfl, _⟩ | ⟨rfl, _⟩ <;> decide
  -- the new row
  have grow : ∀ olds : List Value, olds.length = n * i.size → (∀ j u, olds[j]? = some u → TY w lo P t j u) → c < n + m → (Builtin.firstCells i.size n (.slice A n c)).run Try.prog w.drew = .ok olds.toArray w.drew →
      ∃ v' w', (Builtin.append_ #[ts, tx] ty #[.slice A n c, x]).run Try.prog w = .ok v' w' ∧ SL w' lo t i.size v' (n + m) ∧ St lo rb P w' ∧ Fwd lo w w' ∧ Keeps t w w' := by
    intro olds hol hot hg hold
    have hsum : (n + m) * i.bytes ≤ 140737488355328 := by
      have := Nat.mul_le_mul hm hb48
      omega
    have hr := run_append_grow_src w ts tx ty t i z h1 hi hz A n c olds hold x m news hx hg (by omega) (growslice_fits hg hsum)
    refine ⟨_, _, hr, ?_⟩
    have hge := grownCap_ge w (n + m) c t
    have hcm' := grownCap_le_maxLen w (n + m) c t (by unfold maxLen; omega)
    obtain ⟨s1, f1⟩ := hs.drew
    obtain ⟨s2, f2⟩ := s1.alloc t ((olds ++ news).toArray ++ Builtin.zeroCells z.cells (grownCap w (n + m) c t - (n + m))) hrd (by
      intro s' ht' j u hj
      have hse : s' = i.size := by
        rcases ht with ⟨rfl, h⟩ | ⟨rfl, h⟩ <;> rcases ht' with ⟨h', h2⟩ | ⟨h', h2⟩
        · omega
        · exact absurd h' (by decide)
        · exact absurd h' (by decide)
        · omega
      subst hse
      refine TY.ext (w := w) ?_ f1.2
      rw [Array.getElem?_append] at hj
      split at hj
      · simp only [List.getElem?_toArray] at hj
        rw [List.getElem?_append] at hj
        split at hj
        · exact hot j u hj
        · rename_i hge2
          rw [hol] at hj hge2
          have := (hn _ u hj).shift (o := n) ht
          rwa [show n * i.size + (j - n * i.size) = j from by omega] at this
      · rename_i hge2
        simp only [List.size_toArray, List.length_append, hol, hx.newsLen, ← Nat.add_mul] at hj hge2
        unfold Builtin.zeroCells at hj
        rw [Array.getElem?_map] at hj
        obtain ⟨k, hk, hu⟩ := Option.map_eq_some_iff.1 hj
        rw [Array.getElem?_range] at hk
        split at hk
        · cases hk
          rw [← hu, hzc]
          have h3 := (hzt ((j - (n + m) * i.size) % i.size) (Nat.mod_lt _ hs0))
          have h4 := (h3.shift (o := (j - (n + m) * i.size) / i.size) ht).shift (o := n + m) ht
          rw [show (j - (n + m) * i.size) / i.size * i.size + (j - (n + m) * i.size) % i.size = j - (n + m) * i.size from by rw [Nat.mul_comm]; exact Nat.div_add_mod _ _] at h4
          rwa [show (n + m) * i.size + (j - (n + m) * i.size) = j from by omega] at h4
        · cases hk)
    refine ⟨⟨_, _, rfl, hge, hcm', .inr ⟨w.heap.size, 0, by simp, hs.le, _, heap_alloc_new w.drew _, ?_⟩⟩, s2, f1.trans f2, fun b t' cs ht hc => (Upd.alloc w.drew t _).keeps b t' cs ht hc⟩
    simp only [Array.size_append, List.size_toArray, List.length_append, size_zeroCells, hzc, hol, hx.newsLen, ← Nat.add_mul]
    apply Nat.mul_le_mul_right
    omega
  rcases hA with ⟨rfl, rfl⟩ | ⟨b, o, rfl, hr⟩
  · have hn0 : n = 0 := by omega
    subst hn0
    by_cases hm0 : m = 0
    · subst hm0
      have : news = [] := List.eq_nil_of_length_eq_zero (by rw [hx.newsLen]; simp)
      subst this
      refine ⟨.slice none 0 0, w, ?_, ⟨none, 0, rfl, Nat.le_refl _, Nat.zero_le _, .inl ⟨rfl, rfl⟩⟩, hs, Fwd.refl _ _, Keeps.refl _ _⟩
      rcases hx.kind with ⟨e', hk⟩ | hk <;> simp [Builtin.append_, run_underlying h1, run_underlying hk, sizeOf, typeInfo, hi, hx.len, hx.cells]
    · exact grow [] (by simp) (by simp) (by omega) (run_firstCells_none w.drew i.size 0 0 0)
  · have hcell : ∀ j, j < (o + c) * i.size → ∃ u, w.cell? ⟨b, j, none⟩ = some u ∧ TY w lo P t j u ∧ w.frozen? ⟨b, j, none⟩ = false := fun j hj => hr.at_ hs.wt ht hj
    by_cases hroom : n + m ≤ c
    · have hfit : o * i.size + n * i.size + news.length ≤ (o + c) * i.size := by
        rw [hx.newsLen, ← Nat.add_mul, ← Nat.add_mul]
        exact Nat.mul_le_mul_right _ (by omega)
      have hrun := run_append_room_src w ts tx ty t i h1 hi b (o * i.size) n c x m news hx hroom (fun j hj => by obtain ⟨u, hu, _⟩ := hcell (o * i.size + n * i.size + j) (by omega); rw [hu]; rfl) (fun j hj => by obtain ⟨u, _, _, hf⟩ := hcell (o * i.size + n * i.size + j) (by omega); exact hf)
      obtain ⟨s1, f1⟩ := St.setCells ht news (o * i.size + n * i.size) w hs (hr.less hfit) (fun j u hj => by rw [← Nat.add_mul]; exact (hn j u hj).shift ht)
      refine ⟨_, _, hrun, ⟨_, c, rfl, hroom, hcm, .inr ⟨b, o, rfl, f1.2 _ _ _ _ ht hr⟩⟩, s1, f1, by obtain ⟨_, cs, hc, _⟩ := hr; exact Keeps.setCells news _ w cs hc⟩
    · obtain ⟨hlb, cs, hc, hm'⟩ := hr
      have hlen : o * i.size + n * i.size ≤ cs.size := by
        rw [← Nat.add_mul]
        exact Nat.le_trans (Nat.mul_le_mul_right _ (by omega)) hm'
      refine grow ((cs.toList.drop (o * i.size)).take (n * i.size)) ?_ ?_ (by omega) ?_
      · simp; omega
      · intro j u hj
        rw [List.getElem?_take] at hj
        split at hj
        · rw [List.getElem?_drop] at hj
          exact (hs.wt b cs t i.size ht hlb hc (o * i.size + j) u (by simpa using hj)).unshift ht
        · cases hj
      · refine run_firstCells_some w.drew i.size n ⟨b, o * i.size, none⟩ n c _ (by simp; omega) ?_
        intro j u hj
        rw [List.getElem?_take] at hj
        split at hj
        · rw [List.getElem?_drop] at hj
          rw [Addr.add_lit]
          show w.cell? _ = _
          rw [cell_of_row w b _ cs t (0, 0) hc]
          simpa using hj
        · cases hj
theorem news_one {w : World} {lo P : Nat} {t : TypeId} {j : Nat} {u : Value} (h : TY w lo P t j u) : u.oneCell' = true := by
  rcases h.2 with h1 | ⟨x, rfl⟩
  · obtain ⟨n, _, A, c, rfl, _⟩ := h.1 h1.1 h1.2
    rfl
  · rfl

end Go.Proofs.Ytihgakbopkaemaa
