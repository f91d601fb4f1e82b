/-
  WALKS: copies and comparisons of tasks.
-/
import Derived.Test.YteelckhkcfokhaaW6
import Derived.Test.YteelckhkcfokhaaK1
namespace Go.Proofs.Yteelckhkcfokhaa
open Go.RowKit
theorem ri_fill (w : World) (l : List Int) : RI (w.alloc (.cells (fillI l l.length) 3)) w.heap.size (w.heap.size + 1) (some ⟨w.heap.size, 0, none⟩) l := by
  intro k hk
  refine ⟨w.heap.size, 0, rfl, Nat.le_refl _, by omega, ?_⟩
  rw [Blk.cell (Blk.new w 3 (fillI l l.length)), Nat.zero_add]
  exact fillI_full l k hk
theorem toTask_any (x y z : Int) (N : Option Addr) (c : Nat) (l : List Int) (lo hi : Nat) (w : World) (h : RI w lo hi N l) (hh : hi ≤ w.heap.size) (hl : l.length ≤ 1048576) :
    Calls Try.prog 59 #[.agg #[.int .i64 x, .slice N l.length c, .int .i64 y, .int .i64 z]] w fun e w' => (∃ N', e = .returned (.agg #[.int .i64 x, .slice N' l.length l.length, .int .i64 y, .int .i64 z]) ∧ RI w' w.heap.size w'.heap.size N' l) ∧ Below w.heap.size w w' ∧ UFrom w.heap.size w' := by
  have hA : ∀ o1 o2 o3, RI (((w.alloc o1).alloc o2).alloc o3) lo hi N l := fun o1 o2 o3 => h.keep fun p _ hp => by
    rw [World.cell?_alloc_lt _ _ _ (by simp; omega), World.cell?_alloc_lt _ _ _ (by simp; omega), World.cell?_alloc_lt _ _ _ (by omega)]
  have c1 := fun o1 o2 o3 => toIntS_any N c l lo hi (((w.alloc o1).alloc o2).alloc o3) (hA o1 o2 o3) (by simp; omega) hl
  have C1 := Lib.hid c1
  clear c1 hA
  go_enter Try.func59, Try.ntmps59
  go_wp2_with (go_at_call 33; refine (C1.out _ _ _).mono ?_; rintro e w' ⟨rfl, rfl⟩)
  refine bodyPost_ret (v := .agg #[.int .i64 x, .slice (some ⟨w.heap.size + 1 + 1 + 1, 0, none⟩) l.length l.length, .int .i64 y, .int .i64 z]) (by simp [results, Try.results59, go_sem]) rfl ⟨⟨_, rfl, ?_⟩, ?_, ?_⟩
  · have := ri_fill (((w.alloc (.cells #[.int .i64 x, .slice N l.length c, .int .i64 y, .int .i64 z] 61)).alloc (.cells #[.int .i64 x, .slice (some ⟨w.heap.size + 1 + 1 + 1, 0, none⟩) l.length l.length, .int .i64 y, .int .i64 z] 64)).alloc (.cells #[.int .i64 x, .slice (some ⟨w.heap.size + 1 + 1 + 1, 0, none⟩) l.length l.length, .int .i64 y, .int .i64 z] 64)) l
    simp only [World.size_alloc] at this
    exact this.more (by omega) (by simp)
  · exact ((((Below.refl _ _).alloc (Nat.le_refl _) _).alloc (by simp) _).alloc (by simp; omega) _).alloc (by simp; omega) _
  · exact ((((UFrom.start w).alloc _ _).alloc _ _).alloc _ _).alloc _ _

theorem boxes_keep {w : World} {lo hi : Nat} {N : Option Addr} {l : List Int} (h : RI w lo hi N l) (hh : hi ≤ w.heap.size) (o1 o2 : Obj) : RI ((w.alloc o1).alloc o2) lo hi N l := h.keep fun p _ hp => by
  rw [World.cell?_alloc_lt _ _ _ (by simp; omega), World.cell?_alloc_lt _ _ _ (by omega)]
theorem eqTask_any (x y z : Int) (N : Option Addr) (c : Nat) (l : List Int) (x' y' z' : Int) (N' : Option Addr) (c' : Nat) (l' : List Int) (lo hi lo' hi' : Nat) (w : World) (h : RI w lo hi N l) (hh : hi ≤ w.heap.size) (h' : RI w lo' hi' N' l') (hh' : hi' ≤ w.heap.size) (hl : l.length ≤ 9223372036854775807) :
    Calls Try.prog 63 #[.agg #[.int .i64 x, .slice N l.length c, .int .i64 y, .int .i64 z], .agg #[.int .i64 x', .slice N' l'.length c', .int .i64 y', .int .i64 z']] w fun e w' => e = .returned (.bool (decide (x = x') && decide (l = l') && decide (y = y') && decide (z = z'))) ∧ Below w.heap.size w w' := by
  have c1 := fun o1 o2 => eqIntS_any N c l N' c' l' lo hi lo' hi' ((w.alloc o1).alloc o2) (boxes_keep h hh o1 o2) (boxes_keep h' hh' o1 o2) hl
  generalize hb : decide (l = l') = b at c1
  have C1 := Lib.hid c1
  clear c1 hb
  have fin : Below w.heap.size w ((w.alloc (.cells #[.int .i64 x, .slice N l.length c, .int .i64 y, .int .i64 z] 64)).alloc (.cells #[.int .i64 x', .slice N' l'.length c', .int .i64 y', .int .i64 z'] 64)) := ((Below.refl _ _).alloc (Nat.le_refl _) _).alloc (by simp) _
  by_cases h1 : x = x'
  · have d1 : (x != x') = false := by simpa using h1
    have e1 : decide (x = x') = true := by simpa using h1
    have E1 := Lib.hid e1
    clear h1 e1
    cases b
    · go_enter Try.func63, Try.ntmps63
      go_wp2_with (go_at_call 36; refine (C1.out _ _).mono ?_; rintro e w' ⟨rfl, n, rfl⟩)
      go_ret
      exact ⟨ret_bool (by rw [E1.out]; rfl), by exact fin.drewN _⟩
    · by_cases h2 : y = y'
      · have d2 : (y != y') = false := by simpa using h2
        have e2 : decide (y = y') = true := by simpa using h2
        have E2 := Lib.hid e2
        clear h2 e2
        by_cases h3 : z = z'
        · have d3 : (z != z') = false := by simpa using h3
          have e3 : decide (z = z') = true := by simpa using h3
          have E3 := Lib.hid e3
          clear h3 e3
          go_enter Try.func63, Try.ntmps63
          go_wp2_with (go_at_call 36; refine (C1.out _ _).mono ?_; rintro e w' ⟨rfl, n, rfl⟩)
          go_ret
          exact ⟨ret_bool (by rw [E1.out, E2.out, E3.out]; rfl), by exact fin.drewN _⟩
        · have d3 : (z != z') = true := by simpa using h3
          have e3 : decide (z = z') = false := by simpa using h3
          have E3 := Lib.hid e3
          clear h3 e3
          go_enter Try.func63, Try.ntmps63
          go_wp2_with (go_at_call 36; refine (C1.out _ _).mono ?_; rintro e w' ⟨rfl, n, rfl⟩)
          go_ret
          exact ⟨ret_bool (by rw [E3.out]; simp), by exact fin.drewN _⟩
      · have d2 : (y != y') = true := by simpa using h2
        have e2 : decide (y = y') = false := by simpa using h2
        have E2 := Lib.hid e2
        clear h2 e2
        go_enter Try.func63, Try.ntmps63
        go_wp2_with (go_at_call 36; refine (C1.out _ _).mono ?_; rintro e w' ⟨rfl, n, rfl⟩)
        go_ret
        exact ⟨ret_bool (by rw [E2.out]; simp), by exact fin.drewN _⟩
  · have d1 : (x != x') = true := by simpa using h1
    have e1 : decide (x = x') = false := by simpa using h1
    have E1 := Lib.hid e1
    clear h1 e1
    go_enter Try.func63, Try.ntmps63
    go_wp2
    go_ret
    exact ⟨ret_bool (by rw [E1.out]; simp), by exact fin⟩
end Go.Proofs.Yteelckhkcfokhaa
