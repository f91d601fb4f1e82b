/-
  WORDS FOR MEMORY: a slice of integers, a slice of tasks, as lists; they are kept by whatever leaves their blocks alone. No condition.
-/
import Derived.WalkKit
import Derived.BigQuiet
import Derived.Deep.QuietTactic
import Derived.Lib.Hide
import Derived.Laws.BitsAllLaws
import Derived.Test.YtiokblodjhmjmabProg
import Derived.Test.YtiokblodjhmjmabMath
namespace Go.Proofs.Ytiokblodjhmjmab
open Go.RowKit

theorem block_of_add (a : Addr) (n : Nat) : (a.add n).block = a.block := by unfold Addr.add; split <;> rfl
theorem add_of_add (a : Addr) (i j : Nat) : (a.add i).add j = a.add (i + j) := by
  unfold Addr.add
  by_cases hi : i = 0 <;> by_cases hj : j = 0 <;> simp [hi, hj, Nat.add_assoc]

/-- slice address A reads as the list l, its blocks in lo..hi-1 -/
def RI (w : World) (lo hi : Nat) (A : Option Addr) (l : List Int) : Prop :=
  ∀ k (hk : k < l.length), ∃ b o, A = some ⟨b, o, none⟩ ∧ lo ≤ b ∧ b < hi ∧ w.cell? ⟨b, o + k, none⟩ = some (.int .i64 l[k])
theorem RI.at_ {w : World} {lo hi : Nat} {A : Option Addr} {l : List Int} (h : RI w lo hi A l) {k : Nat} (hk : k < l.length) :
    ∃ b o, A = some ⟨b, o, none⟩ ∧ lo ≤ b ∧ b < hi ∧ w.cell? ⟨b, o + k, none⟩ = some (.int .i64 l[k]) := h k hk
theorem RI.nil {w : World} {lo hi : Nat} {A : Option Addr} : RI w lo hi A [] := fun k hk => absurd hk (by simp)
theorem RI.keep {w w' : World} {lo hi : Nat} {A : Option Addr} {l : List Int} (h : RI w lo hi A l) (hk : ∀ p : Addr, lo ≤ p.block → p.block < hi → w'.cell? p = w.cell? p) : RI w' lo hi A l := by
  intro k hl
  obtain ⟨b, o, e, h1, h2, hc⟩ := h k hl
  exact ⟨b, o, e, h1, h2, (hk ⟨b, o + k, none⟩ h1 h2).trans hc⟩
theorem RI.more {w : World} {lo hi lo' hi' : Nat} {A : Option Addr} {l : List Int} (h : RI w lo hi A l) (h1 : lo' ≤ lo) (h2 : hi ≤ hi') : RI w lo' hi' A l := by
  intro k hl
  obtain ⟨b, o, e, g1, g2, hc⟩ := h k hl
  exact ⟨b, o, e, by omega, by omega, hc⟩
theorem RI.below {w w' : World} {lo hi : Nat} {A : Option Addr} {l : List Int} {B : Nat} (h : RI w lo hi A l) (hb : Below B w w') (hB : hi ≤ B) : RI w' lo hi A l :=
  h.keep fun _ _ hp => hb.cell (by omega)

/-- a slice of tasks -/
def RG (w : World) (lo hi : Nat) (A : Option Addr) (g : List Bs.T) : Prop :=
  ∀ k (hk : k < g.length), ∃ b o N c, A = some ⟨b, o, none⟩ ∧ lo ≤ b ∧ b < hi ∧
    w.cell? ⟨b, o + k * 4, none⟩ = some (.int .i64 g[k].time) ∧ w.cell? ⟨b, o + k * 4 + 1, none⟩ = some (.slice N g[k].needs.length c) ∧
    w.cell? ⟨b, o + k * 4 + 2, none⟩ = some (.int .i64 g[k].pool) ∧ w.cell? ⟨b, o + k * 4 + 3, none⟩ = some (.int .i64 g[k].units) ∧
    g[k].needs.length ≤ c ∧ c ≤ 9223372036854775807 ∧ RI w lo hi N g[k].needs
theorem RG.nil {w : World} {lo hi : Nat} {A : Option Addr} : RG w lo hi A [] := fun k hk => absurd hk (by simp)
theorem RG.keep {w w' : World} {lo hi : Nat} {A : Option Addr} {g : List Bs.T} (h : RG w lo hi A g) (hk : ∀ p : Addr, lo ≤ p.block → p.block < hi → w'.cell? p = w.cell? p) : RG w' lo hi A g := by
  intro k hl
  obtain ⟨b, o, N, c, e, h1, h2, c0, c1, c2, c3, hl', hc, hn⟩ := h k hl
  have hk' := fun j => hk ⟨b, j, none⟩ h1 h2
  exact ⟨b, o, N, c, e, h1, h2, (hk' _).trans c0, (hk' _).trans c1, (hk' _).trans c2, (hk' _).trans c3, hl', hc, hn.keep hk⟩
theorem RG.more {w : World} {lo hi lo' hi' : Nat} {A : Option Addr} {g : List Bs.T} (h : RG w lo hi A g) (h1 : lo' ≤ lo) (h2 : hi ≤ hi') : RG w lo' hi' A g := by
  intro k hl
  obtain ⟨b, o, N, c, e, g1, g2, c0, c1, c2, c3, hl', hc, hn⟩ := h k hl
  exact ⟨b, o, N, c, e, by omega, by omega, c0, c1, c2, c3, hl', hc, hn.more h1 h2⟩
theorem RG.below {w w' : World} {lo hi : Nat} {A : Option Addr} {g : List Bs.T} {B : Nat} (h : RG w lo hi A g) (hb : Below B w w') (hB : hi ≤ B) : RG w' lo hi A g :=
  h.keep fun _ _ hp => hb.cell (by omega)
theorem _root_.Go.RowKit.Below.drewN {B : Nat} {a w : World} (h : Below B a w) (n : Nat) : Below B a (w.drewN n) := ⟨h.os, h.tape, h.output, h.size, h.block⟩
theorem ret_bool {a b : Bool} (h : a = b) : Ending.returned (.bool a) = .returned (.bool b) := by rw [h]
theorem ret_int {k : IntKind} {a b : Int} (h : a = b) : Ending.returned (.int k a) = .returned (.int k b) := by rw [h]
theorem Try.info3 : (Try.prog.info? 3).map (fun i => (i.zero, i.size, i.bytes)) = some (some (.int .i64 0), 1, 8) := by kernel_rfl
/-- a row of the call's own, of integers -/
def OI (w : World) (B : Nat) (A : Option Addr) (c : Nat) (l : List Int) : Prop := w.ownsRow B 3 1 (.slice A l.length c) l.length (l.map (Value.int .i64))
theorem OI.ri {w : World} {B : Nat} {A : Option Addr} {c : Nat} {l : List Int} (h : OI w B A c l) : RI w B w.heap.size A l := by
  intro k hk
  rcases h.2 with ⟨hv, hn⟩ | ⟨b, cap, cur, hv, hb, hg, hnc, hcm, hcs, ht⟩
  · omega
  · injection hv with hA hn hc
    subst hA
    refine ⟨b, 0, rfl, hb, (Array.getElem?_eq_some_iff.1 hg).1, ?_⟩
    have h1 := h.cells (g := b) (by simp [Value.ownBlock]) k (.int .i64 l[k]) (by simp [hk])
    rw [Addr.add_lit] at h1
    exact h1
theorem OI.nil (w : World) (B : Nat) : OI w B none 0 [] := World.ownsRow_nil w B 3 1
theorem OI.new (w : World) (B : Nat) (hB : B ≤ w.heap.size) : OI (w.alloc (.cells #[] 3)) B (some ⟨w.heap.size, 0, none⟩) 0 [] :=
  World.ownsRow_made w #[] 0 hB (Nat.zero_le _) (by simp)
theorem OI.cap {w : World} {B : Nat} {A : Option Addr} {c : Nat} {l : List Int} (h : OI w B A c l) : l.length ≤ c ∧ c ≤ maxLen := by
  rcases h.2 with ⟨hv, hn⟩ | ⟨b, cap, cur, hv, hb, hg, hnc, hcm, hcs, ht⟩
  · injection hv with hA hn hc
    subst hc
    exact ⟨by omega, Nat.zero_le _⟩
  · injection hv with hA hn hc
    subst hc
    exact ⟨hnc, hcm⟩
theorem OI.form {w : World} {B : Nat} {v : Value} {l : List Int} (h : w.ownsRow B 3 1 v l.length (l.map (Value.int .i64))) : ∃ A c, v = .slice A l.length c ∧ OI w B A c l := by
  rcases h.2 with ⟨hv, hn⟩ | ⟨b, cap, cur, hv, hb, hg, hnc, hcm, hcs, ht⟩
  · refine ⟨none, 0, by rw [hv, hn], ?_⟩
    unfold OI
    rw [hn] at h ⊢
    rw [hv] at h
    exact h
  · refine ⟨_, cap, hv, ?_⟩
    unfold OI
    rw [hv] at h
    exact h
/-- how long a slice is -/
def lenOf : Value → Nat | .slice _ n _ => n | _ => 0
theorem OI.alloc {w : World} {B : Nat} {A : Option Addr} {c : Nat} {l : List Int} (h : OI w B A c l) (o : Obj) : OI (w.alloc o) B A c l := World.ownsRow.alloc h o
theorem OI.kept {w w' : World} {B : Nat} {A : Option Addr} {c : Nat} {l : List Int} {row : Option Nat} (h : OI w B A c l) (hg : w.grownBy w' row) (hne : (Value.slice A l.length c).ownBlock = none ∨ (Value.slice A l.length c).ownBlock ≠ row) : OI w' B A c l := World.ownsRow.kept h hg hne
theorem OI.below {w w' : World} {B B' : Nat} {A : Option Addr} {c : Nat} {l : List Int} (h : OI w B A c l) (hb : Below B' w w') (hB : w.heap.size ≤ B') : OI w' B A c l := by
  refine ⟨h.1, ?_⟩
  rcases h.2 with hn | ⟨g, cap, cur, hv, h1, hg, rest⟩
  · exact .inl hn
  · exact .inr ⟨g, cap, cur, hv, h1, by rw [hb.block g (by have := (Array.getElem?_eq_some_iff.1 hg).1; omega)]; exact hg, rest⟩
theorem OI.drewN {w : World} {B : Nat} {A : Option Addr} {c : Nat} {l : List Int} (h : OI w B A c l) (n : Nat) : OI (w.drewN n) B A c l := h
/-- 'out = append(out, q)' -/
theorem push_int {ops : Array Oper} {rest : List Oper} {o : Oper} {a : Act} {Q : Exit → Act → World → Prop} {w : World} (hgd : o.guard = none) (s x : Operand)
    (ho : o.op = .call { callee := .builtin .append, args := #[s, x], argTypes := #[25, 25] })
    (B : Nat) (A : Option Addr) (c : Nat) (l : List Int) (q : Int) (hs : a.eval s = .slice A l.length c) (hown : OI w B A c l)
    (g cc : Nat) (hx : a.eval x = .slice (some ⟨g, 0, none⟩) 1 cc) (hc : w.cell? ⟨g, 0, none⟩ = some (.int .i64 q)) (hlen : l.length ≤ 1000000000) (hB : B ≤ w.heap.size)
    (h : ∀ A' c' w', OI w' B A' c' (l ++ [q]) → Below B w w' → w.grownBy w' (Value.slice A l.length c).ownBlock → wpList Try.prog ops Q rest (a.put o.dst (.slice A' (l.length + 1) c')) w') : wpList Try.prog ops Q (o :: rest) a w := by
  obtain ⟨i0, hi0, hz0, hz1, hz2⟩ := info_parts Try.info3
  refine wpList_append_own w hgd s x 25 ho B 3 i0 (.int .i64 0) 1 8 Try.underlying25 hi0 hz0 hz1 hz2 rfl (by decide) _ _ _ hs hown ⟨g, 0, none⟩ 1 cc [.int .i64 q] hx rfl ?_ ?_ ?_ ?_ hB ?_
  · intro j u hj
    cases j with
    | zero =>
      simp only [List.getElem?_cons_zero, Option.some.injEq] at hj
      subst hj
      rw [Addr.add_lit]
      exact hc
    | succ j => simp at hj
  · intro u hu
    simp only [List.mem_singleton] at hu
    subst hu
    rfl
  · unfold maxLen; omega
  · omega
  · intro v' w' hown' hg _
    have h1 : w'.ownsRow B 3 1 v' (l ++ [q]).length ((l ++ [q]).map (Value.int .i64)) := by
      rw [List.length_append, List.map_append]
      exact hown'
    obtain ⟨A', c', hv, ho'⟩ := OI.form h1
    rw [hv, List.length_append]
    refine h A' c' w' ho' ?_ hg
    refine (Below.refl B w).grown hg hB ?_
    intro k hk
    exact (hown.lt k hk).1
end Go.Proofs.Ytiokblodjhmjmab
