/-
  WALKS: counters of pools, of the program.
-/
import Derived.Test.YtjahmejmkijkaaaK7
import Derived.Test.YtjahmejmkijkaaaK4
import Derived.Deep.RegionLaw
namespace Go.Proofs.Ytjahmejmkijkaaa
open Go.RowKit
/-- a counter as a value -/
def pcV (a b c n : Int) : Value := .agg #[.int .i64 a, .int .i64 b, .int .i64 c, .int .i64 n]
theorem Blk.far {w : World} {g : Nat} {t : TypeId} {cs : Array Value} (h : Blk w g t cs) {p : Addr} (hp : g ≠ p.block) (u : Value) : Blk (w.setCell p u) g t cs := (heap_setCell_other w p g u hp).trans h
theorem pc_block {W : World} {g : Nat} {z0 z1 z2 z3 : Value} (h : Blk W g 107 #[z0, z1, z2, z3]) (a b c n : Value) : Blk ((((W.setCell ⟨g, 0, none⟩ a).setCell ⟨g, 1, none⟩ b).setCell ⟨g, 2, none⟩ c).setCell ⟨g, 3, none⟩ n) g 107 #[a, b, c, n] := by
  have := (((h.set_ 0 a).set_ 1 b).set_ 2 c).set_ 3 n
  simpa using this
theorem pc_ret {fn : Func} {p : Tmp} (h : fn.results = #[.cell p 107]) (tmps : Array Value) (w : World) (g : Nat) (a b c n : Int) (hp : tmps.getD p undef = .pointer (some ⟨g, 0, none⟩)) (hg : Blk w g 107 #[.int .i64 a, .int .i64 b, .int .i64 c, .int .i64 n]) :
    (results fn tmps).run Try.prog w = .ok (pcV a b c n) w :=
  results_cell_row h tmps w g 107 _ (0, 0) _ hp hg Try.underlying107 rfl (by kernel_rfl)
theorem Blk.drew {w : World} {g : Nat} {t : TypeId} {cs : Array Value} (h : Blk w g t cs) : Blk w.drew g t cs := h
def addIf (p k u a : Int) : Int := a + (if p == k then u else 0)
set_option maxHeartbeats 1600000 in
theorem pcWith_any (a b c n t p u : Int) (N : Option Addr) (m cN : Nat) (w : World) (h0 : 0 ≤ p) (h2 : p ≤ 2) (ha : 0 ≤ a ∧ a ≤ 1000) (hb : 0 ≤ b ∧ b ≤ 1000) (hc : 0 ≤ c ∧ c ≤ 1000) (hn : 0 ≤ n ∧ n ≤ 1000) (hu : 0 ≤ u ∧ u ≤ 1000) :
    Calls Try.prog 102 #[.agg #[.int .i64 a, .int .i64 b, .int .i64 c, .int .i64 n], .agg #[.int .i64 t, .slice N m cN, .int .i64 p, .int .i64 u]] w fun e w' => e = .returned (pcV (addIf p 0 u a) (addIf p 1 u b) (addIf p 2 u c) (n + 1)) ∧ Below w.heap.size w w' := by
  have hx3 : w.heap.size + 1 + 1 ≠ w.heap.size := by omega
  have hp : p = 0 ∨ p = 1 ∨ p = 2 := by omega
  have b1 := Blk.new w 107 #[.int .i64 a, .int .i64 b, .int .i64 c, .int .i64 n]
  have s1 : (w.alloc (.cells #[.int .i64 a, .int .i64 b, .int .i64 c, .int .i64 n] 107)).heap.size = w.heap.size + 1 := by simp
  have b2 := Blk.new (w.alloc (.cells #[.int .i64 a, .int .i64 b, .int .i64 c, .int .i64 n] 107)) 37 #[.int .i64 t, .slice N m cN, .int .i64 p, .int .i64 u]
  rw [s1] at b2
  have b3 := Blk.new ((w.alloc (.cells #[.int .i64 a, .int .i64 b, .int .i64 c, .int .i64 n] 107)).alloc (.cells #[.int .i64 t, .slice N m cN, .int .i64 p, .int .i64 u] 37)) 107 #[.int .i64 0, .int .i64 0, .int .i64 0, .int .i64 0]
  rw [show ((w.alloc (.cells #[.int .i64 a, .int .i64 b, .int .i64 c, .int .i64 n] 107)).alloc (.cells #[.int .i64 t, .slice N m cN, .int .i64 p, .int .i64 u] 37)).heap.size = w.heap.size + 1 + 1 from by simp] at b3
  replace b1 := (b1.alloc (.cells #[.int .i64 t, .slice N m cN, .int .i64 p, .int .i64 u] 37)).alloc (.cells #[.int .i64 0, .int .i64 0, .int .i64 0, .int .i64 0] 107)
  replace b2 := b2.alloc (.cells #[.int .i64 0, .int .i64 0, .int .i64 0, .int .i64 0] 107)
  have hbl : Below w.heap.size w (((w.alloc (.cells #[.int .i64 a, .int .i64 b, .int .i64 c, .int .i64 n] 107)).alloc (.cells #[.int .i64 t, .slice N m cN, .int .i64 p, .int .i64 u] 37)).alloc (.cells #[.int .i64 0, .int .i64 0, .int .i64 0, .int .i64 0] 107)) := (((Below.refl _ _).alloc (Nat.le_refl _) _).alloc (by simp) _).alloc (by simp; omega) _
  have k0 : (World.cell? _ ⟨w.heap.size, 0, none⟩) = some (.int .i64 a) := b1.cell 0
  have k1 : (World.cell? _ ⟨w.heap.size, 1, none⟩) = some (.int .i64 b) := b1.cell 1
  have k2 : (World.cell? _ ⟨w.heap.size, 2, none⟩) = some (.int .i64 c) := b1.cell 2
  have k3 : (World.cell? _ ⟨w.heap.size, 3, none⟩) = some (.int .i64 n) := b1.cell 3
  have j2 : (World.cell? _ ⟨w.heap.size + 1, 2, none⟩) = some (.int .i64 p) := b2.cell 2
  have j3 : (World.cell? _ ⟨w.heap.size + 1, 3, none⟩) = some (.int .i64 u) := b2.cell 3
  have f0 := b1.frozen 0
  have f1 := b1.frozen 1
  have f2 := b1.frozen 2
  have f3 := b1.frozen 3
  have r0 := b3.frozen 0
  have r1 := b3.frozen 1
  have r2 := b3.frozen 2
  have r3 := b3.frozen 3
  have q0 : (World.cell? _ ⟨w.heap.size + 1 + 1, 0, none⟩) = some (.int .i64 0) := b3.cell 0
  have q1 : (World.cell? _ ⟨w.heap.size + 1 + 1, 1, none⟩) = some (.int .i64 0) := b3.cell 1
  have q2 : (World.cell? _ ⟨w.heap.size + 1 + 1, 2, none⟩) = some (.int .i64 0) := b3.cell 2
  have q3 : (World.cell? _ ⟨w.heap.size + 1 + 1, 3, none⟩) = some (.int .i64 0) := b3.cell 3
  have HB := Lib.hid hbl
  have B1 := Lib.hid b1
  have B3 := Lib.hid b3
  clear b1 b2 b3 hbl s1
  go_enter Try.func102, Try.ntmps102
  go_wp2_with fail
  generalize (((w.alloc (.cells #[.int .i64 a, .int .i64 b, .int .i64 c, .int .i64 n] 107)).alloc (.cells #[.int .i64 t, .slice N m cN, .int .i64 p, .int .i64 u] 37)).alloc (.cells #[.int .i64 0, .int .i64 0, .int .i64 0, .int .i64 0] 107)) = W at *
  rcases hp with rfl | rfl | rfl
  · go_region_law (fail)
    go_wp2
    all_goals refine bodyPost_ret (pc_ret rfl _ _ (w.heap.size + 1 + 1) (a + u) (b) (c) (n + 1) rfl (Blk.drew (pc_block ((B3.out.far hx3 _).far hx3 _) _ _ _ _))) rfl ⟨by simp [pcV, addIf], ?_⟩
    all_goals exact   (((((((HB.out.setCell (by exact Nat.le_refl _) _).setCell (by exact Nat.le_refl _) _).setCell (by show _ ≤ w.heap.size + 1 + 1; omega) _).setCell (by show _ ≤ w.heap.size + 1 + 1; omega) _).setCell (by show _ ≤ w.heap.size + 1 + 1; omega) _).setCell (by show _ ≤ w.heap.size + 1 + 1; omega) _).drewN 1)
  · go_region_law (fail)
    go_wp2
    all_goals refine bodyPost_ret (pc_ret rfl _ _ (w.heap.size + 1 + 1) (a) (b + u) (c) (n + 1) rfl (Blk.drew (pc_block ((B3.out.far hx3 _).far hx3 _) _ _ _ _))) rfl ⟨by simp [pcV, addIf], ?_⟩
    all_goals exact   (((((((HB.out.setCell (by exact Nat.le_refl _) _).setCell (by exact Nat.le_refl _) _).setCell (by show _ ≤ w.heap.size + 1 + 1; omega) _).setCell (by show _ ≤ w.heap.size + 1 + 1; omega) _).setCell (by show _ ≤ w.heap.size + 1 + 1; omega) _).setCell (by show _ ≤ w.heap.size + 1 + 1; omega) _).drewN 1)
  · go_region_law (fail)
    go_wp2
    all_goals refine bodyPost_ret (pc_ret rfl _ _ (w.heap.size + 1 + 1) (a) (b) (c + u) (n + 1) rfl (Blk.drew (pc_block ((B3.out.far hx3 _).far hx3 _) _ _ _ _))) rfl ⟨by simp [pcV, addIf], ?_⟩
    all_goals exact   (((((((HB.out.setCell (by exact Nat.le_refl _) _).setCell (by exact Nat.le_refl _) _).setCell (by show _ ≤ w.heap.size + 1 + 1; omega) _).setCell (by show _ ≤ w.heap.size + 1 + 1; omega) _).setCell (by show _ ≤ w.heap.size + 1 + 1; omega) _).setCell (by show _ ≤ w.heap.size + 1 + 1; omega) _).drewN 1)
end Go.Proofs.Ytjahmejmkijkaaa
