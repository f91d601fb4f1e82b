/-
  WORDS FOR MEMORY: graphs that lie beside the reader's block. No condition.
-/
import Derived.Test.YtnbgekbfccejdabX2
namespace Go.Proofs.Ytnbgekbfccejdab
open Go.RowKit
def RIs (rb : Nat) (w : World) (lo hi : Nat) (A : Option Addr) (l : List Int) : Prop :=
  ∀ k (hk : k < l.length), ∃ b o, A = some ⟨b, o, none⟩ ∧ lo ≤ b ∧ b < hi ∧ b ≠ rb ∧ w.cell? ⟨b, o + k, none⟩ = some (.int .i64 l[k])
def RGs (rb : Nat) (w : World) (lo hi : Nat) (A : Option Addr) (g : List Bs.T) : Prop :=
  ∀ k (hk : k < g.length), ∃ b o N c, A = some ⟨b, o, none⟩ ∧ lo ≤ b ∧ b < hi ∧ b ≠ rb ∧
    w.cell? ⟨b, o + k * 4, none⟩ = some (.int .i64 g[k].time) ∧ w.cell? ⟨b, o + k * 4 + 1, none⟩ = some (.slice N g[k].needs.length c) ∧
    w.cell? ⟨b, o + k * 4 + 2, none⟩ = some (.int .i64 g[k].pool) ∧ w.cell? ⟨b, o + k * 4 + 3, none⟩ = some (.int .i64 g[k].units) ∧
    g[k].needs.length ≤ c ∧ c ≤ 9223372036854775807 ∧ RIs rb w lo hi N g[k].needs
theorem RIs.ri {rb : Nat} {w : World} {lo hi : Nat} {A : Option Addr} {l : List Int} (h : RIs rb w lo hi A l) : RI w lo hi A l := by
  intro k hk
  obtain ⟨b, o, e, h1, h2, _, h3⟩ := h k hk
  exact ⟨b, o, e, h1, h2, h3⟩
theorem RGs.rg {rb : Nat} {w : World} {lo hi : Nat} {A : Option Addr} {g : List Bs.T} (h : RGs rb w lo hi A g) : RG w lo hi A g := by
  intro k hk
  obtain ⟨b, o, N, c, e, h1, h2, _, c0, c1, c2, c3, h3, h4, h5⟩ := h k hk
  exact ⟨b, o, N, c, e, h1, h2, c0, c1, c2, c3, h3, h4, h5.ri⟩
theorem RIs.fx {rb : Nat} {w w' : World} {lo hi : Nat} {A : Option Addr} {l : List Int} (h : RIs rb w lo hi A l) (hf : Fx rb w w') (hh : hi ≤ w.heap.size) : RIs rb w' lo hi A l := by
  intro k hk
  obtain ⟨b, o, e, h1, h2, h3, h4⟩ := h k hk
  exact ⟨b, o, e, h1, h2, h3, (hf.cell (p := ⟨b, o + k, none⟩) (by show b < _; omega) h3).trans h4⟩
theorem RGs.fx {rb : Nat} {w w' : World} {lo hi : Nat} {A : Option Addr} {g : List Bs.T} (h : RGs rb w lo hi A g) (hf : Fx rb w w') (hh : hi ≤ w.heap.size) : RGs rb w' lo hi A g := by
  intro k hk
  obtain ⟨b, o, N, c, e, h1, h2, h3, c0, c1, c2, c3, h4, h5, h6⟩ := h k hk
  have hc := fun j => hf.cell (p := ⟨b, j, none⟩) (by show b < _; omega) h3
  exact ⟨b, o, N, c, e, h1, h2, h3, (hc _).trans c0, (hc _).trans c1, (hc _).trans c2, (hc _).trans c3, h4, h5, h6.fx hf hh⟩
theorem Row.ne {w : World} {lo b rb P m : Nat} {t : TypeId} (r : Row w lo b t m) (hr : RD w lo rb P) (ht : t ≠ 94) : b ≠ rb := by
  rintro rfl
  obtain ⟨_, cs, hc, _⟩ := r
  obtain ⟨_, A, c, l, p, hh, _⟩ := hr
  rw [hc] at hh
  cases hh
  exact ht rfl
theorem SL.ris {w : World} {lo rb P m c : Nat} {N : Option Addr} (h : SL w lo 3 1 (.slice N m c) m) (hs : St lo rb P w) : ∃ l : List Int, l.length = m ∧ RIs rb w lo w.heap.size N l := by
  obtain ⟨l, hl, hp⟩ := choice_to m (fun k (x : Int) => ∃ b o, N = some ⟨b, o, none⟩ ∧ lo ≤ b ∧ b < w.heap.size ∧ b ≠ rb ∧ w.cell? ⟨b, o + k, none⟩ = some (.int .i64 x)) (by
    intro k hk
    obtain ⟨b, o, x, e, hc, hlb, _, hr⟩ := h.cell hs hk
    exact ⟨x, b, o, e, hlb, hr.lt, hr.ne hs.rd (by decide), hc⟩)
  exact ⟨l, hl, hp⟩
theorem SL.rgs {w : World} {lo rb P n c : Nat} {A : Option Addr} (h : SL w lo 34 4 (.slice A n c) n) (hs : St lo rb P w) : ∃ g : List Bs.T, g.length = n ∧ RGs rb w lo w.heap.size A g := by
  obtain ⟨g, hl, hp⟩ := choice_to n (fun k (T : Bs.T) => ∃ b o N c, A = some ⟨b, o, none⟩ ∧ lo ≤ b ∧ b < w.heap.size ∧ b ≠ rb ∧
    w.cell? ⟨b, o + k * 4, none⟩ = some (.int .i64 T.time) ∧ w.cell? ⟨b, o + k * 4 + 1, none⟩ = some (.slice N T.needs.length c) ∧
    w.cell? ⟨b, o + k * 4 + 2, none⟩ = some (.int .i64 T.pool) ∧ w.cell? ⟨b, o + k * 4 + 3, none⟩ = some (.int .i64 T.units) ∧
    T.needs.length ≤ c ∧ c ≤ 9223372036854775807 ∧ RIs rb w lo w.heap.size N T.needs) (by
    intro k hk
    obtain ⟨b, o, t, N, m, cN, p, u, e, hT, hlb, hr, _⟩ := h.task hs hk
    obtain ⟨l, hlen, hri⟩ := hT.sl.ris hs
    subst hlen
    exact ⟨⟨t, l, p, u⟩, b, o, N, cN, e, hlb, hr.lt, hr.ne hs.rd (by decide), hT.c0, hT.c1, hT.c2, hT.c3, hT.mc, hT.cm, hri⟩)
  exact ⟨g, hl, hp⟩
/-- a graph that is drawn, the reader beside it -/
theorem GrR.open_ {lo rb P : Nat} {w1 w2 : World} {e : Ending} (h : GrR lo rb P 16 w1 e w2) : ∃ A c g, e = .returned (.slice A (List.length g) c) ∧ RGs rb w2 lo w2.heap.size A g ∧ g.length ≤ 16 ∧ g.length ≤ c ∧ c ≤ maxLen ∧ RD w2 lo rb P ∧ Fwd lo w1 w2 := by
  obtain ⟨⟨v, n, hn, rfl, hv⟩, hs, hf2⟩ := h
  obtain ⟨A, c, rfl, hnc, hcm, hv⟩ := hv.form
  obtain ⟨g, hl, hg⟩ := hv.rgs hs
  subst hl
  exact ⟨A, c, g, rfl, hg, hn, hnc, hcm, hs.rd, hf2⟩
end Go.Proofs.Ytnbgekbfccejdab
