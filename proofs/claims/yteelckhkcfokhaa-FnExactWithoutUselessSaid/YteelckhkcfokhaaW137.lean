/-
  WALKS: the exact laws' marks and held marks of tasks that a call laid itself.
-/
import Derived.Test.YteelckhkcfokhaaW136
namespace Go.Proofs.Yteelckhkcfokhaa
open Go.RowKit
/-- how many marks lie before task k -/
def preT (g : List Bs.T) (k : Nat) : Nat := ((g.take k).map fun t => t.needs.length + 3).sum
theorem preT_succ {g : List Bs.T} {k : Nat} (hk : k < g.length) : preT g (k + 1) = preT g k + (g[k].needs.length + 3) := by
  unfold preT
  rw [List.take_succ_eq_append_getElem hk, List.map_append, List.sum_append]
  simp
theorem preT_le {g : List Bs.T} {m : Nat} (h : ∀ t ∈ g, t.needs.length ≤ m) : ∀ k, k ≤ g.length → preT g k ≤ k * (m + 3) := by
  intro k
  induction k with
  | zero => intro _; simp [preT]
  | succ k ih =>
    intro hk
    rw [preT_succ (show k < g.length from hk)]
    have a := ih (by omega)
    have b := h _ (List.getElem_mem (show k < g.length from hk))
    rw [Nat.add_mul]
    omega
def HeldRow (w : World) (lo hi b o k : Nat) (N : Option Addr) (c n : Nat) (p : Int) : Prop :=
  w.cell? ⟨b, o + k * 4, none⟩ = some (.int .i64 p) ∧ w.cell? ⟨b, o + k * 4 + 1, none⟩ = some (.slice N n c) ∧ w.cell? ⟨b, o + k * 4 + 2, none⟩ = some (.int .i64 (p + 1 + n)) ∧ w.cell? ⟨b, o + k * 4 + 3, none⟩ = some (.int .i64 (p + 1 + n + 1)) ∧ RI w lo hi N (iota (p + 1) n)
def HeldT (w : World) (lo hi : Nat) (A : Option Addr) (g : List Bs.T) : Prop := ∀ k (hk : k < g.length), ∃ b o N c, A = some ⟨b, o, none⟩ ∧ lo ≤ b ∧ b < hi ∧ HeldRow w lo hi b o k N c g[k].needs.length (1 + (preT g k : Int))
theorem HeldT.keep {w w' : World} {lo hi : Nat} {A : Option Addr} {g : List Bs.T} (h : HeldT w lo hi A g) (hk : ∀ p : Addr, lo ≤ p.block → p.block < hi → w'.cell? p = w.cell? p) : HeldT w' lo hi A g := by
  intro k hl
  obtain ⟨b, o, N, c, e, h1, h2, c0, c1, c2, c3, hr⟩ := h k hl
  exact ⟨b, o, N, c, e, h1, h2, (hk ⟨b, o + k * 4, none⟩ h1 h2).trans c0, (hk ⟨b, o + k * 4 + 1, none⟩ h1 h2).trans c1, (hk ⟨b, o + k * 4 + 2, none⟩ h1 h2).trans c2, (hk ⟨b, o + k * 4 + 3, none⟩ h1 h2).trans c3, hr.keep hk⟩
theorem HeldT.below {w w' : World} {lo hi B : Nat} {A : Option Addr} {g : List Bs.T} (h : HeldT w lo hi A g) (hb : Below B w w') (hB : hi ≤ B) : HeldT w' lo hi A g := h.keep fun _ _ hp => hb.cell (by omega)
/-- what the marks want of row k: its cells, and its needs in a block of their own -/
def MRow (w : World) (B hi b k : Nat) (g : List Bs.T) (f : Nat → Nat) : Prop := ∃ (hk : k < g.length) (N : Option Addr) (c bN : Nat) (x y z : Int), B ≤ b ∧ b < hi ∧ w.cell? ⟨b, 0 + k * 4, none⟩ = some (.int .i64 x) ∧ w.cell? ⟨b, 0 + k * 4 + 1, none⟩ = some (.slice N g[k].needs.length c) ∧ w.cell? ⟨b, 0 + k * 4 + 2, none⟩ = some (.int .i64 y) ∧ w.cell? ⟨b, 0 + k * 4 + 3, none⟩ = some (.int .i64 z) ∧
  (∀ j, w.frozen? ⟨b, j, none⟩ = false) ∧ MI w bN (bN + 1) N g[k].needs.length ∧ bN ≠ b ∧ f k ≤ bN ∧ bN < f (k + 1) ∧ B ≤ bN ∧ bN < hi
theorem MI.one {w : World} {B : Nat} {N : Option Addr} {c : Nat} {l : List Int} (h : OI w B N c l) (hl : 0 < l.length) : ∃ bN, N = some ⟨bN, 0, none⟩ ∧ B ≤ bN ∧ bN < w.heap.size ∧ MI w bN (bN + 1) N l.length := by
  have hm := h.mi
  obtain ⟨b, o, x, e, h1, h2, _⟩ := hm 0 hl
  rcases h.2 with ⟨hv, hn⟩ | ⟨b', cap, cur, hv, hb, hg, _⟩
  · omega
  · injection hv with hA _ _
    rw [hA] at e
    injection e with e
    injection e with e1 e2
    subst e1
    subst e2
    refine ⟨b', hA, hb, h2, ?_⟩
    intro k hk
    obtain ⟨b3, o3, x3, e3, a1, a2, a3, a4⟩ := hm k hk
    rw [hA] at e3
    injection e3 with e3
    injection e3 with e4 e5
    subst e4
    subst e5
    exact ⟨b', 0, x3, hA, Nat.le_refl _, by omega, a3, a4⟩
end Go.Proofs.Yteelckhkcfokhaa
