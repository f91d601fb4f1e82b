/-
  WALKS: the reader of the draws, beside an exact memory: only its own block changes. No condition.
-/
import Derived.Test.YtoggbndpjcfmiaaD8
namespace Go.Proofs.Ytoggbndpjcfmiaa
open Go.RowKit
/-- only block rb and new ones may differ -/
structure Fx (rb : Nat) (w w' : World) : Prop where
  os : w'.os = w.os
  tape : w'.tape = w.tape
  output : w'.output = w.output
  size : w.heap.size ≤ w'.heap.size
  block : ∀ b, b < w.heap.size → b ≠ rb → w'.heap[b]? = w.heap[b]?
theorem Fx.refl (rb : Nat) (w : World) : Fx rb w w := ⟨rfl, rfl, rfl, Nat.le_refl _, fun _ _ _ => rfl⟩
theorem Fx.trans {rb : Nat} {a b c : World} (h : Fx rb a b) (k : Fx rb b c) : Fx rb a c :=
  ⟨k.os.trans h.os, k.tape.trans h.tape, k.output.trans h.output, Nat.le_trans h.size k.size, fun x hx hr => (k.block x (Nat.lt_of_lt_of_le hx h.size) hr).trans (h.block x hx hr)⟩
theorem Fx.drewN {rb : Nat} {a w : World} (h : Fx rb a w) (n : Nat) : Fx rb a (w.drewN n) := ⟨h.os, h.tape, h.output, h.size, h.block⟩
theorem Fx.of {rb : Nat} {w w' : World} (h : Below w.heap.size w w') : Fx rb w w' := ⟨h.os, h.tape, h.output, h.size, fun b hb _ => h.block b hb⟩
theorem Fx.below {rb lo : Nat} {w w' : World} (h : Fx rb w w') (hl : lo ≤ rb) (hr : rb < w.heap.size) : Below lo w w' := ⟨h.os, h.tape, h.output, h.size, fun b hb => h.block b (by omega) (by omega)⟩
theorem Fx.cell {rb : Nat} {w w' : World} (h : Fx rb w w') {p : Addr} (hp : p.block < w.heap.size) (hr : p.block ≠ rb) : w'.cell? p = w.cell? p := World.cell?_of_block (w := w) (h.block p.block hp hr)
theorem Fx.alloc {rb : Nat} {a w : World} (h : Fx rb a w) (o : Obj) : Fx rb a (w.alloc o) := h.trans (Fx.of (Below.alloc (Below.refl _ _) (Nat.le_refl _) o))
theorem Fx.setNew {rb : Nat} {a w : World} (h : Fx rb a w) {p : Addr} (hp : a.heap.size ≤ p.block) (u : Value) : Fx rb a (w.setCell p u) :=
  ⟨h.os, h.tape, h.output, by simpa [World.setCell] using h.size, fun b hb hr => (Below.heap_setCell w p u b (by omega)).trans (h.block b hb hr)⟩
theorem RD.lt {w : World} {lo rb P : Nat} (h : RD w lo rb P) : rb < w.heap.size := by
  obtain ⟨_, A, c, l, p, hh, _⟩ := h
  exact (Array.getElem?_eq_some_iff.1 hh).1
theorem RD.drewN {w : World} {lo rb P : Nat} (h : RD w lo rb P) (n : Nat) : RD (w.drewN n) lo rb P := h
theorem RD.more {w : World} {lo rb P P' : Nat} (h : RD w lo rb P) (hp : P ≤ P') : RD w lo rb P' := by
  obtain ⟨h1, A, c, l, p, h2, h3, h4⟩ := h
  exact ⟨h1, A, c, l, p, h2, by omega, h4⟩
theorem RD.after {w w' : World} {lo rb P : Nat} (h : RD w lo rb P) (hb : Below w.heap.size w w') : RD w' lo rb P := by
  have hlt := h.lt
  obtain ⟨h1, A, c, l, p, h2, h3, h4, h5⟩ := h
  exact ⟨h1, A, c, l, p, (hb.block rb hlt).trans h2, h3, h4, h5.below hb (by omega)⟩
theorem RD.below {w w' : World} {lo rb P B : Nat} (h : RD w lo rb P) (hb : Below B w w') (hB : rb < B) : RD w' lo rb P := by
  obtain ⟨h1, A, c, l, p, h2, h3, h4, h5⟩ := h
  exact ⟨h1, A, c, l, p, (hb.block rb hB).trans h2, h3, h4, h5.below hb (by omega)⟩
theorem Fx.then_ {rb : Nat} {a b c : World} (h : Fx rb a b) (k : Below a.heap.size b c) : Fx rb a c :=
  ⟨k.os.trans h.os, k.tape.trans h.tape, k.output.trans h.output, Nat.le_trans h.size k.size, fun x hx hr => (k.block x hx).trans (h.block x hx hr)⟩
theorem RD.setNew {w : World} {lo rb P : Nat} (h : RD w lo rb P) {p : Addr} (hp : rb < p.block) (u : Value) : RD (w.setCell p u) lo rb P := by
  obtain ⟨h1, A, c, l, q, h2, h3, h4, h5⟩ := h
  refine ⟨h1, A, c, l, q, (Below.heap_setCell w p u rb (by omega)).trans h2, h3, h4, h5.keep ?_⟩
  intro x _ hx
  exact World.cell?_setCell_other w p x u (fun e => by subst e; omega)
theorem RD.picked {w : World} {lo rb P : Nat} {A : Option Addr} {c : Nat} {l : List Int} {p : Nat} (hlo : lo ≤ rb) (h : w.heap[rb]? = some (.cells #[.slice A l.length c, .int .i64 p] 67 (0, 0))) (hp : p ≤ P) (hl : l.length ≤ 2000) (hb : RB w 0 lo A l) :
    RD (w.setCell ⟨rb, 1, none⟩ (.int .i64 ((p : Int) + 1))) lo rb (P + 1) ∧ Fx rb w (w.setCell ⟨rb, 1, none⟩ (.int .i64 ((p : Int) + 1))) := by
  have hu := Upd.set_ h 1 (.int .i64 ((p : Int) + 1))
  have hbl := hu.below hlo
  exact ⟨⟨hlo, A, c, l, p + 1, by rw [hu.at_]; simp, by omega, hl, hb.below hbl (Nat.le_refl _)⟩, ⟨hu.os, hu.tape, hu.output, hu.size, fun b _ hr => hu.other b hr⟩⟩
/-- what pick hands back -/
def PickX (lo rb P n : Nat) (w : World) (e : Ending) (w' : World) : Prop := (∃ k : Nat, e = .returned (.int .i64 k) ∧ (0 < n → k < n) ∧ (n = 0 → k = 0)) ∧ RD w' lo rb (P + 1) ∧ Fx rb w w'
set_option maxRecDepth 200000 in
set_option maxHeartbeats 1600000 in
theorem pickX (n lo rb P : Nat) (w : World) (hs : RD w lo rb P) (hP : P ≤ 1000000) (hn : n ≤ 1000000000) :
    Calls Try.prog 30 #[.pointer (some ⟨rb, 0, none⟩), .int .i64 n] w (PickX lo rb P n w) := by
  obtain ⟨hlo, A, c, l, p, hh, hpP, hl, hbs⟩ := hs
  obtain ⟨hs2, hf2⟩ := RD.picked hlo hh hpP hl hbs
  have k0 : w.cell? ⟨rb, 0, none⟩ = some (.slice A l.length c) := by rw [cell_of_row w rb 0 _ _ _ hh]; rfl
  have k1 : w.cell? ⟨rb, 1, none⟩ = some (.int .i64 p) := by rw [cell_of_row w rb 1 _ _ _ hh]; rfl
  have kf : w.frozen? ⟨rb, 1, none⟩ = false := by simp [World.frozen?, hh]
  have HS := Lib.hid hs2
  have HF := Lib.hid hf2
  clear hs2 hf2 hh
  have hb : ∀ k (hk : k < l.length), ∃ b o, A = some ⟨b, o, none⟩ ∧ b < rb ∧ w.cell? ⟨b, o + k, none⟩ = some (.int .u8 l[k]) ∧ 0 ≤ l[k] ∧ l[k] < 256 := by
    intro k hk
    obtain ⟨b, o, e, _, h2, h3⟩ := hbs k hk
    exact ⟨b, o, e, by omega, h3⟩
  clear hbs
  have HB := Lib.hid hb
  clear hb
  by_cases h0 : n = 0
  · subst h0
    go_enter Try.func30, Try.ntmps30
    go_wp2_with fail
    go_ret
    exact ⟨⟨0, rfl, fun h => absurd h (by omega), fun _ => rfl⟩, HS.out, HF.out⟩
  · by_cases hl0 : l.length = 0
    · go_enter Try.func30, Try.ntmps30
      go_wp2_with fail
      go_ret
      exact ⟨⟨0, rfl, fun h => h, fun _ => rfl⟩, HS.out, HF.out⟩
    · have hnb := Lib.hid (show ¬ ((n : Int) < 1 ∨ ((l.length : Int) == 0) = true) from by rw [beq_iff_eq]; omega)
      by_cases hk : p < l.length
      · obtain ⟨b, o, rfl, hbr, hc, hx0, hx1⟩ := HB.out p hk
        obtain ⟨x, hx⟩ : ∃ x : Nat, l[p] = x := ⟨l[p].toNat, by omega⟩
        rw [hx] at hc hx0 hx1
        clear hx hx0
        have hne : ¬ (rb = b) := by omega
        go_enter Try.func30, Try.ntmps30
        go_wp2_with fail
        · go_ret
          exact ⟨⟨x % n, ret_int (k := .i64) (show (x : Int) % (n : Int) = ((x % n : Nat) : Int) from (Int.natCast_emod x n).symm), fun h => Nat.mod_lt _ h, fun h => absurd h h0⟩, HS.out, HF.out⟩
      · have hpos : 0 < l.length := by omega
        have a1 := Nat.mod_lt p hpos
        have a2 := Nat.mod_lt (p * 7 + 3) hpos
        have e1 : Int.tmod (p : Int) (l.length : Int) = ((p % l.length : Nat) : Int) := by rw [Int.ofNat_tmod]
        have e2 : Int.tmod ((p : Int) * 7 + 3) (l.length : Int) = (((p * 7 + 3) % l.length : Nat) : Int) := by rw [Int.ofNat_tmod]; simp
        obtain ⟨b, o, rfl, hbr, hc1, hx0, hx1⟩ := HB.out _ a1
        obtain ⟨b2, o2, e, _, hc2, hy0, hy1⟩ := HB.out _ a2
        cases e
        generalize p % l.length = m1 at *
        generalize (p * 7 + 3) % l.length = m2 at *
        obtain ⟨x, hx⟩ : ∃ x : Nat, l[m1] = x := ⟨l[m1].toNat, by omega⟩
        obtain ⟨y, hy⟩ : ∃ x : Nat, l[m2] = x := ⟨l[m2].toNat, by omega⟩
        rw [hx] at hc1 hx0 hx1
        rw [hy] at hc2 hy0 hy1
        clear hx hy hx0 hy0
        have hne : ¬ (rb = b) := by omega
        have hz : ((l.length : Int) == 0) = false := by rw [beq_eq_false_iff_ne]; omega
        go_enter Try.func30, Try.ntmps30
        go_wp2_with fail
        · go_quiet (fail)
          obtain ⟨X, Y, hX, e3, e4⟩ := pick_mix x y p l.length (by omega) (by omega) (by omega)
          rw [e3]
          clear e3
          have hX1 : (X : Int) ≤ 1000000000000 := by omega
          clear hX
          go_wp2_with fail
          go_ret
          exact ⟨⟨Y % n, ret_int (k := .i64) (show (Y : Int) % (n : Int) = ((Y % n : Nat) : Int) from (Int.natCast_emod Y n).symm), fun h => Nat.mod_lt _ h, fun h => absurd h h0⟩, HS.out.drewN _, HF.out.drewN _⟩
end Go.Proofs.Ytoggbndpjcfmiaa
