/-
  WHAT CAME IN: a slice of events that can be read is a list of events in memory; no condition.
-/
import Derived.Test.YteelckhkcfokhaaOpen
import Derived.Test.YteelckhkcfokhaaMem11
namespace Go.Proofs.Yteelckhkcfokhaa
open Go.ChangeShapes Go.WideShapes Go.ChangeAt Go.RowKit Go.Deep
set_option maxRecDepth 40000 in
theorem open_event {H : Type} {enc : TypeId × Value → H} {w : World} {base : Nat} {spare : Nat → Bool} {held : Bool} {fuel : Nat} {a : Addr} {cs : List Value} {x : DataW H × List MemPlace}
    (hc : w.cells? base a 3 = some cs) (h : DataW.trod enc Try.prog w base spare held fuel 91 cs = some x) :
    ∃ (t : Bs.E), a = ⟨a.block, a.off, none⟩ ∧ a.block < w.heap.size ∧ w.cell? ⟨a.block, a.off, none⟩ = some (.int .i64 t.at_) ∧ w.cell? ⟨a.block, a.off + 1, none⟩ = some (.int .i64 t.task) ∧ w.cell? ⟨a.block, a.off + 2, none⟩ = some (.bool t.over) := by
  obtain ⟨_, hcl, hat⟩ := World.cells?_some hc
  obtain ⟨xs, n, _, _, _, hxl, hf⟩ := DataW.trod_struct Try.underlying91 h
  have k3 : Try.prog.cellsOf 3 = 1 := by kernel_rfl
  have k4 : Try.prog.cellsOf 4 = 1 := by kernel_rfl
  have hx : ∀ i, i < 3 → ∃ y, xs[i]? = some y := fun i hi => ⟨_, List.getElem?_eq_getElem (by rw [hxl]; exact hi)⟩
  match cs, hcl with
  | [v0, v1, v2], _ =>
    have g0 : DataW.trod enc Try.prog w base spare held n 3 (([v0, v1, v2].drop 0).take (Try.prog.cellsOf 3)) = xs[0]? := hf 0 _ rfl
    have g1 : DataW.trod enc Try.prog w base spare held n 3 (([v0, v1, v2].drop 1).take (Try.prog.cellsOf 3)) = xs[1]? := hf 1 _ rfl
    have g2 : DataW.trod enc Try.prog w base spare held n 4 (([v0, v1, v2].drop 2).take (Try.prog.cellsOf 4)) = xs[2]? := hf 2 _ rfl
    obtain ⟨y0, e0⟩ := hx 0 (by omega)
    obtain ⟨y1, e1⟩ := hx 1 (by omega)
    obtain ⟨y2, e2⟩ := hx 2 (by omega)
    rw [e0] at g0
    rw [e1] at g1
    rw [e2] at g2
    simp only [k3, k4, List.drop_zero, List.take_succ_cons, List.take_zero, List.drop_succ_cons] at g0 g1 g2
    obtain ⟨n0, rfl⟩ := int_of g0
    obtain ⟨n1, rfl⟩ := int_of g1
    obtain ⟨n2, h2', _⟩ := DataW.trod_bool Try.underlying4 g2
    simp only [List.cons.injEq, and_true] at h2'
    subst h2'
    have a0 := hat 0 (by omega)
    have a1 := hat 1 (by omega)
    have a2 := hat 2 (by omega)
    have ez : a.add 0 = a := by simp [Addr.add]
    rw [ez] at a0
    obtain ⟨ha, hb⟩ := cell_plain (a := a) (v := .int .i64 n0) a0
    refine ⟨⟨n0, n1, n2⟩, ha, hb, ?_, ?_, ?_⟩
    · rw [← ha]; exact a0
    · rw [ha, Addr.add_lit] at a1; exact a1
    · rw [ha, Addr.add_lit] at a2; exact a2
theorem open_events {H : Type} {enc : TypeId × Value → H} {w : World} {base : Nat} {spare : Nat → Bool} {held : Bool} {fuel : Nat} {v : Value} {x : DataW H × List MemPlace}
    (h : DataW.trod enc Try.prog w base spare held fuel 47 [v] = some x) : ∃ A c g, v = .slice A (List.length g) c ∧ g.length ≤ 9223372036854775807 ∧ RE w 0 w.heap.size A g := by
  have k39 : Try.prog.cellsOf 91 = 3 := by kernel_rfl
  rcases Go.Deep.open_slice Try.underlying47 h with ⟨hcs, _⟩ | ⟨a, len, cap, m, n, D, Pl, hcs, _, hl, hm, hmm, _, hi⟩
  · simp only [List.cons.injEq, and_true] at hcs
    exact ⟨none, 0, [], hcs, by simp, RE.nil⟩
  · simp only [List.cons.injEq, and_true] at hcs
    rw [k39] at hi
    have hlm : len ≤ m := by rw [hmm]; split <;> omega
    have each : ∀ i, i < len → ∃ t : Bs.E, (a.add (i * 3)) = ⟨(a.add (i * 3)).block, (a.add (i * 3)).off, none⟩ ∧ (a.add (i * 3)).block < w.heap.size ∧ w.cell? ⟨(a.add (i * 3)).block, (a.add (i * 3)).off, none⟩ = some (.int .i64 t.at_) ∧ w.cell? ⟨(a.add (i * 3)).block, (a.add (i * 3)).off + 1, none⟩ = some (.int .i64 t.task) ∧
        w.cell? ⟨(a.add (i * 3)).block, (a.add (i * 3)).off + 2, none⟩ = some (.bool t.over) := by
      intro i hil
      obtain ⟨cs', hc, ht⟩ := hi i (by omega)
      exact open_event hc ht
    obtain ⟨g, hg, hp⟩ := list_of len _ each
    refine ⟨some a, cap, g, by rw [hcs, hg], by unfold maxLen at hm; omega, ?_⟩
    have ha0 : ∀ (h0 : 0 < g.length), a = ⟨a.block, a.off, none⟩ := by
      intro h0
      obtain ⟨hpl, _⟩ := hp 0 h0
      have ez : a.add (0 * 3) = a := by simp [Addr.add]
      rw [ez] at hpl
      exact hpl
    intro k hk
    have ha := ha0 (by omega)
    obtain ⟨_, hb, d0, d1, d2⟩ := hp k hk
    rw [ha, Addr.add_lit] at hb d0 d1 d2
    exact ⟨a.block, a.off, by rw [← ha], by omega, hb, d0, d1, d2⟩
end Go.Proofs.Yteelckhkcfokhaa
