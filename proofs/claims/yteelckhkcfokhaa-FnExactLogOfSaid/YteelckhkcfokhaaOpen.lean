/-
  WHAT CAME IN: a slice of tasks that can be read is a list of tasks in memory; no condition.
-/
import Derived.Test.YteelckhkcfokhaaK1
import Derived.Test.YteelckhkcfokhaaRows
import Derived.ProofKit
import Derived.OpenShut
import Derived.ShutString
import Derived.ChangeOld
import Derived.Below
import Derived.Deep.Slices
import Derived.Deep.Fields
import Derived.ChangeSame
namespace Go.Proofs.Yteelckhkcfokhaa
open Go.ChangeShapes Go.WideShapes Go.ChangeAt Go.RowKit Go.Deep

theorem own : ownKnob Try.prog.godebug = none := by kernel_rfl
theorem laidOut : laidOutB Try.prog = true := by kernel_rfl
theorem list_of {α : Type} (n : Nat) (P : Nat → α → Prop) (h : ∀ i, i < n → ∃ a, P i a) : ∃ l : List α, l.length = n ∧ ∀ i (hi : i < l.length), P i l[i] := by
  induction n with
  | zero => exact ⟨[], rfl, fun i hi => absurd hi (by simp)⟩
  | succ n ih =>
    obtain ⟨l, hl, hp⟩ := ih (fun i hi => h i (by omega))
    obtain ⟨a, ha⟩ := h n (by omega)
    refine ⟨l ++ [a], by simp [hl], ?_⟩
    intro i hi
    by_cases e : i < l.length
    · rw [List.getElem_append_left e]; exact hp i e
    · have : i = n := by simp at hi; omega
      subst this
      simp only [← hl]
      rw [List.getElem_append_right (Nat.le_refl _)]
      simpa [hl] using ha
theorem cell_plain {w : World} {a : Addr} {v : Value} (h : w.cell? a = some v) : a = ⟨a.block, a.off, none⟩ ∧ a.block < w.heap.size := by
  refine ⟨?_, World.block_lt_of_cell? w a h⟩
  unfold World.cell? at h
  split at h
  · split at h
    · cases h
    · rename_i hs
      cases a with
      | mk b o s =>
        cases s with
        | none => rfl
        | some x => simp at hs
  · cases h
theorem open_list {H : Type} {enc : TypeId × Value → H} {w : World} {base : Nat} {spare : Nat → Bool} {held : Bool} {fuel : Nat} {v : Value} {x : DataW H × List MemPlace}
    (h : DataW.trod enc Try.prog w base spare held fuel 38 [v] = some x) : ∃ A c l, v = .slice A (List.length l) c ∧ l.length ≤ c ∧ c ≤ 9223372036854775807 ∧ RI w 0 w.heap.size A l := by
  rcases open_ints Try.underlying38 Try.underlying3 (by kernel_rfl) h with ⟨hcs, _⟩ | ⟨a, len, cap, zs, hcs, _, hl, hm, hz, _, hcell, _⟩
  · simp only [List.cons.injEq, and_true] at hcs
    exact ⟨none, 0, [], hcs, Nat.le_refl _, by omega, RI.nil⟩
  · simp only [List.cons.injEq, and_true] at hcs
    have hzl : len ≤ zs.length := by rw [hz]; split <;> omega
    refine ⟨some a, cap, zs.take len, by rw [hcs, List.length_take, Nat.min_eq_left hzl], by rw [List.length_take]; omega, by unfold maxLen at hm; omega, ?_⟩
    intro k hk
    rw [List.length_take] at hk
    have h0 := hcell 0 (by omega)
    have e0 : a.add 0 = a := by simp [Addr.add]
    rw [e0] at h0
    obtain ⟨ha, hb⟩ := cell_plain h0
    refine ⟨a.block, a.off, by rw [← ha], by omega, hb, ?_⟩
    have h1 := hcell k (by omega)
    rw [ha, Addr.add_lit] at h1
    rw [h1, List.getElem_take, List.getD_eq_getElem?_getD, List.getElem?_eq_getElem (by omega)]
    rfl
theorem int_of {H : Type} {enc : TypeId × Value → H} {w : World} {base : Nat} {spare : Nat → Bool} {held : Bool} {fuel : Nat} {v : Value} {x : DataW H × List MemPlace}
    (h : DataW.trod enc Try.prog w base spare held fuel 3 [v] = some x) : ∃ n, v = .int .i64 n := by
  obtain ⟨n, hcs, _⟩ := DataW.trod_int Try.underlying3 h
  simp only [List.cons.injEq, and_true] at hcs
  exact ⟨n, hcs⟩
set_option maxRecDepth 40000 in
/-- one task -/
theorem open_task {H : Type} {enc : TypeId × Value → H} {w : World} {base : Nat} {spare : Nat → Bool} {held : Bool} {fuel : Nat} {a : Addr} {cs : List Value} {x : DataW H × List MemPlace}
    (hc : w.cells? base a 4 = some cs) (h : DataW.trod enc Try.prog w base spare held fuel 61 cs = some x) :
    ∃ (t : Bs.T) (N : Option Addr) (c : Nat), a = ⟨a.block, a.off, none⟩ ∧ a.block < w.heap.size ∧ w.cell? ⟨a.block, a.off, none⟩ = some (.int .i64 t.time) ∧ w.cell? ⟨a.block, a.off + 1, none⟩ = some (.slice N t.needs.length c) ∧
      w.cell? ⟨a.block, a.off + 2, none⟩ = some (.int .i64 t.pool) ∧ w.cell? ⟨a.block, a.off + 3, none⟩ = some (.int .i64 t.units) ∧ t.needs.length ≤ c ∧ c ≤ 9223372036854775807 ∧ RI w 0 w.heap.size N t.needs := by
  obtain ⟨_, hcl, hat⟩ := World.cells?_some hc
  obtain ⟨xs, n, _, _, _, hxl, hf⟩ := DataW.trod_struct Try.underlying61 h
  have k3 : Try.prog.cellsOf 3 = 1 := by kernel_rfl
  have k29 : Try.prog.cellsOf 38 = 1 := by kernel_rfl
  have hx : ∀ i, i < 4 → ∃ y, xs[i]? = some y := fun i hi => ⟨_, List.getElem?_eq_getElem (by rw [hxl]; exact hi)⟩
  match cs, hcl with
  | [v0, v1, v2, v3], _ =>
    have g0 : DataW.trod enc Try.prog w base spare held n 3 (([v0, v1, v2, v3].drop 0).take (Try.prog.cellsOf 3)) = xs[0]? := hf 0 _ rfl
    have g1 : DataW.trod enc Try.prog w base spare held n 38 (([v0, v1, v2, v3].drop 1).take (Try.prog.cellsOf 38)) = xs[1]? := hf 1 _ rfl
    have g2 : DataW.trod enc Try.prog w base spare held n 3 (([v0, v1, v2, v3].drop 2).take (Try.prog.cellsOf 3)) = xs[2]? := hf 2 _ rfl
    have g3 : DataW.trod enc Try.prog w base spare held n 3 (([v0, v1, v2, v3].drop 3).take (Try.prog.cellsOf 3)) = xs[3]? := hf 3 _ rfl
    obtain ⟨y0, e0⟩ := hx 0 (by omega)
    obtain ⟨y1, e1⟩ := hx 1 (by omega)
    obtain ⟨y2, e2⟩ := hx 2 (by omega)
    obtain ⟨y3, e3⟩ := hx 3 (by omega)
    rw [e0] at g0
    rw [e1] at g1
    rw [e2] at g2
    rw [e3] at g3
    simp only [k3, k29, List.drop_zero, List.take_succ_cons, List.take_zero, List.drop_succ_cons] at g0 g1 g2 g3
    obtain ⟨n0, rfl⟩ := int_of g0
    obtain ⟨N, c, l, rfl, hl, hc', hr⟩ := open_list g1
    obtain ⟨n2, rfl⟩ := int_of g2
    obtain ⟨n3, rfl⟩ := int_of g3
    have a0 := hat 0 (by omega)
    have a1 := hat 1 (by omega)
    have a2 := hat 2 (by omega)
    have a3 := hat 3 (by omega)
    have ez : a.add 0 = a := by simp [Addr.add]
    rw [ez] at a0
    obtain ⟨ha, hb⟩ := cell_plain (a := a) (v := .int .i64 n0) a0
    refine ⟨⟨n0, l, n2, n3⟩, N, c, ha, hb, ?_, ?_, ?_, ?_, hl, hc', hr⟩
    · rw [← ha]; exact a0
    · rw [ha, Addr.add_lit] at a1; exact a1
    · rw [ha, Addr.add_lit] at a2; exact a2
    · rw [ha, Addr.add_lit] at a3; exact a3

/-- THE GRAPH THAT CAME IN -/
theorem open_graph {H : Type} {enc : TypeId × Value → H} {w : World} {base : Nat} {spare : Nat → Bool} {held : Bool} {fuel : Nat} {v : Value} {x : DataW H × List MemPlace}
    (h : DataW.trod enc Try.prog w base spare held fuel 22 [v] = some x) : ∃ A c g, v = .slice A (List.length g) c ∧ g.length ≤ 9223372036854775807 ∧ RG w 0 w.heap.size A g := by
  have k39 : Try.prog.cellsOf 61 = 4 := by kernel_rfl
  rcases Go.Deep.open_slice Try.underlying22 h with ⟨hcs, _⟩ | ⟨a, len, cap, m, n, D, Pl, hcs, _, hl, hm, hmm, _, hi⟩
  · simp only [List.cons.injEq, and_true] at hcs
    exact ⟨none, 0, [], hcs, by simp, RG.nil⟩
  · simp only [List.cons.injEq, and_true] at hcs
    rw [k39] at hi
    have hlm : len ≤ m := by rw [hmm]; split <;> omega
    have each : ∀ i, i < len → ∃ t : Bs.T, ∃ (N : Option Addr) (c : Nat), (a.add (i * 4)) = ⟨(a.add (i * 4)).block, (a.add (i * 4)).off, none⟩ ∧ (a.add (i * 4)).block < w.heap.size ∧ w.cell? ⟨(a.add (i * 4)).block, (a.add (i * 4)).off, none⟩ = some (.int .i64 t.time) ∧ w.cell? ⟨(a.add (i * 4)).block, (a.add (i * 4)).off + 1, none⟩ = some (.slice N t.needs.length c) ∧
        w.cell? ⟨(a.add (i * 4)).block, (a.add (i * 4)).off + 2, none⟩ = some (.int .i64 t.pool) ∧ w.cell? ⟨(a.add (i * 4)).block, (a.add (i * 4)).off + 3, none⟩ = some (.int .i64 t.units) ∧ t.needs.length ≤ c ∧ c ≤ 9223372036854775807 ∧ RI w 0 w.heap.size N t.needs := by
      intro i hil
      obtain ⟨cs', hc, ht⟩ := hi i (by omega)
      exact open_task hc ht
    obtain ⟨g, hg, hp⟩ := list_of len _ each
    refine ⟨some a, cap, g, by rw [hcs, hg], by unfold maxLen at hm; omega, ?_⟩
    have ha0 : ∀ (h0 : 0 < g.length), a = ⟨a.block, a.off, none⟩ := by
      intro h0
      obtain ⟨_, _, hpl, _⟩ := hp 0 h0
      have ez : a.add (0 * 4) = a := by simp [Addr.add]
      rw [ez] at hpl
      exact hpl
    intro k hk
    have ha := ha0 (by omega)
    obtain ⟨N, c, _, hb, d0, d1, d2, d3, hl', hc', hr⟩ := hp k hk
    rw [ha, Addr.add_lit] at hb d0 d1 d2 d3
    exact ⟨a.block, a.off, N, c, by rw [← ha], by omega, hb, d0, d1, d2, d3, hl', hc', hr⟩
end Go.Proofs.Yteelckhkcfokhaa
