/-
  WALKS: the draws: a new reader; what is drawn reads as a graph.
-/
import Derived.Test.YtoggbndpjcfmiaaD7
namespace Go.Proofs.Ytoggbndpjcfmiaa
open Go.RowKit
/-- what newReader hands back -/
def RdR (w : World) (e : Ending) (w' : World) : Prop := ∃ rb, e = .returned (.pointer (some ⟨rb, 0, none⟩)) ∧ St w.heap.size rb 0 w' ∧ Fwd w.heap.size w w'
theorem St.start {w : World} {A : Option Addr} {c : Nat} {l : List Int} (hb : RB w 0 w.heap.size A l) (hl : l.length ≤ 2000) :
    St w.heap.size w.heap.size 0 (w.alloc (.cells #[.slice A l.length c, .int .i64 0] 67)) ∧ Fwd w.heap.size w (w.alloc (.cells #[.slice A l.length c, .int .i64 0] 67)) := by
  have hu := Upd.alloc w 67 #[.slice A l.length c, .int .i64 0]
  have hbl := hu.below (Nat.le_refl _)
  refine ⟨⟨by simp, ?_, ?_⟩, hbl, hu.ext _⟩
  · intro b cs t s ht hlb hc i v hv
    by_cases e : b = w.heap.size
    · subst e
      rw [hu.at_] at hc
      cases hc
      rcases ht with ⟨h1, _⟩ | ⟨h1, _⟩ <;> exact absurd h1 (by decide)
    · rw [hu.other b e, Array.getElem?_eq_none hlb] at hc
      cases hc
  · exact ⟨Nat.le_refl _, A, c, l, 0, hu.at_, Nat.le_refl _, hl, hb.below hbl (Nat.le_refl _)⟩
theorem RB.take {w : World} {lo hi : Nat} {A : Option Addr} {l : List Int} (h : RB w lo hi A l) (n : Nat) : RB w lo hi A (l.take n) := by
  intro k hk
  have hk' : k < l.length := by simp at hk; omega
  obtain ⟨b, o, e, h1, h2, h3, h4⟩ := h k hk'
  exact ⟨b, o, e, h1, h2, by rw [h3]; simp, by simpa using h4⟩
theorem newReader_any (A : Option Addr) (c : Nat) (l : List Int) (w : World) (hb : RB w 0 w.heap.size A l) (hl : l.length ≤ c) (hc : c ≤ maxLen) :
    Calls Try.prog 29 #[.slice A l.length c] w (RdR w) := by
  have HB := Lib.hid hb
  clear hb
  have hl2 : l.length ≤ 9223372036854775807 := by unfold maxLen at hc; omega
  by_cases h2 : 2000 < l.length
  · have hs := St.start (c := c) (HB.out.take 2000) (by simp; omega)
    have e : (l.take 2000).length = 2000 := by simp; omega
    rw [e] at hs
    have HS := Lib.hid hs
    clear hs e
    go_enter Try.func29, Try.ntmps29
    go_wp2
    go_ret
    exact ⟨w.heap.size, rfl, HS.out⟩
  · have HS := Lib.hid (St.start (c := c) HB.out (by omega))
    go_enter Try.func29, Try.ntmps29
    go_wp2
    go_ret
    exact ⟨w.heap.size, rfl, HS.out⟩
theorem Row.lt {w : World} {lo b m : Nat} {t : TypeId} (r : Row w lo b t m) : b < w.heap.size := by
  obtain ⟨_, cs, hc, _⟩ := r
  exact Blk.lt (show Blk w b t cs from hc)
theorem choice_to {α : Type} (n : Nat) (P : Nat → α → Prop) (h : ∀ k, k < n → ∃ x, P k x) : ∃ l : List α, l.length = n ∧ ∀ k (hk : k < l.length), P k l[k] := by
  induction n with
  | zero => exact ⟨[], rfl, fun k hk => absurd hk (by simp)⟩
  | succ n ih =>
    obtain ⟨l, hl, hp⟩ := ih (fun k hk => h k (by omega))
    obtain ⟨x, hx⟩ := h n (by omega)
    refine ⟨l ++ [x], by simp [hl], ?_⟩
    intro k hk
    by_cases e : k < l.length
    · rw [List.getElem_append_left e]; exact hp k e
    · have : k = n := by simp at hk; omega
      subst this
      rw [List.getElem_append_right (by omega)]
      simpa using hx
theorem SL.ri {w : World} {lo rb P m c : Nat} {N : Option Addr} (h : SL w lo 3 1 (.slice N m c) m) (hs : St lo rb P w) : ∃ l : List Int, l.length = m ∧ RI w lo w.heap.size N l := by
  obtain ⟨l, hl, hp⟩ := choice_to m (fun k (x : Int) => ∃ b o, N = some ⟨b, o, none⟩ ∧ lo ≤ b ∧ b < w.heap.size ∧ w.cell? ⟨b, o + k, none⟩ = some (.int .i64 x)) (by
    intro k hk
    obtain ⟨b, o, x, e, hc, hlb, _, hr⟩ := h.cell hs hk
    exact ⟨x, b, o, e, hlb, hr.lt, hc⟩)
  exact ⟨l, hl, hp⟩
theorem SL.rg {w : World} {lo rb P n c : Nat} {A : Option Addr} (h : SL w lo 42 4 (.slice A n c) n) (hs : St lo rb P w) : ∃ g : List Bs.T, g.length = n ∧ RG w lo w.heap.size A g := by
  obtain ⟨g, hl, hp⟩ := choice_to n (fun k (T : Bs.T) => ∃ b o N c, A = some ⟨b, o, none⟩ ∧ lo ≤ b ∧ b < w.heap.size ∧
    w.cell? ⟨b, o + k * 4, none⟩ = some (.int .i64 T.time) ∧ w.cell? ⟨b, o + k * 4 + 1, none⟩ = some (.slice N T.needs.length c) ∧
    w.cell? ⟨b, o + k * 4 + 2, none⟩ = some (.int .i64 T.pool) ∧ w.cell? ⟨b, o + k * 4 + 3, none⟩ = some (.int .i64 T.units) ∧
    T.needs.length ≤ c ∧ c ≤ 9223372036854775807 ∧ RI w lo w.heap.size N T.needs) (by
    intro k hk
    obtain ⟨b, o, t, N, m, cN, p, u, e, hT, hlb, hr, _⟩ := h.task hs hk
    obtain ⟨l, hlen, hri⟩ := hT.sl.ri hs
    subst hlen
    exact ⟨⟨t, l, p, u⟩, b, o, N, cN, e, hlb, hr.lt, hT.c0, hT.c1, hT.c2, hT.c3, hT.mc, hT.cm, hri⟩)
  exact ⟨g, hl, hp⟩
/-- what a draw of a graph hands back -/
def DrawG (w : World) (e : Ending) (w' : World) : Prop := (∃ A c g, e = .returned (.slice A (List.length g) c) ∧ RG w' w.heap.size w'.heap.size A g ∧ g.length ≤ 16 ∧ g.length ≤ c ∧ c ≤ maxLen) ∧ Below w.heap.size w w'
theorem GrR.draw {w w1 w2 : World} {rb P : Nat} {e : Ending} (h : GrR w.heap.size rb P 16 w1 e w2) (hf : Fwd w.heap.size w w1) : DrawG w e w2 := by
  obtain ⟨⟨v, n, hn, rfl, hv⟩, hs, hf2⟩ := h
  obtain ⟨A, c, rfl, hnc, hcm, hv⟩ := hv.form
  obtain ⟨g, hl, hg⟩ := hv.rg hs
  subst hl
  exact ⟨⟨A, c, g, rfl, hg, hn, hnc, hcm⟩, (hf.trans hf2).1⟩
end Go.Proofs.Ytoggbndpjcfmiaa
