/-
  WALKS: copies and comparisons of graphs.
-/
import Derived.Test.YteelckhkcfokhaaW7
import Derived.Deep.RegionWith
namespace Go.Proofs.Yteelckhkcfokhaa
open Go.RowKit
theorem Try.infoTask : (Try.prog.info? 64).map (fun i => (i.zero, i.size, i.bytes)) = some (some (.agg #[.int .i64 0, .slice none 0 0, .int .i64 0, .int .i64 0]), 4, 48) := by kernel_rfl
/-- the first k tasks of the block bx are those of g -/
def Copied (w : World) (bx k : Nat) (g : List Bs.T) (cs : Array Value) : Prop :=
  cs.size = g.length * 4 ∧ ∀ j (hj : j < g.length), j < k → ∃ N c, cs[j * 4]? = some (.int .i64 g[j].time) ∧ cs[j * 4 + 1]? = some (.slice N g[j].needs.length c) ∧ cs[j * 4 + 2]? = some (.int .i64 g[j].pool) ∧ cs[j * 4 + 3]? = some (.int .i64 g[j].units) ∧ g[j].needs.length ≤ c ∧ c ≤ 9223372036854775807 ∧ RI w (bx + 1) w.heap.size N g[j].needs
theorem Copied.below {w w' : World} {bx k : Nat} {g : List Bs.T} {cs : Array Value} (h : Copied w bx k g cs) (hb : Below w.heap.size w w') : Copied w' bx k g cs :=
  ⟨h.1, fun j hj hk => by
    obtain ⟨N, c, h0, h1, h2, h3, h4, h5, h6⟩ := h.2 j hj hk
    exact ⟨N, c, h0, h1, h2, h3, h4, h5, (h6.below hb (Nat.le_refl _)).more (Nat.le_refl _) hb.size⟩⟩
theorem set4_get (cs : Array Value) (k i : Nat) (v0 v1 v2 v3 : Value) (hk : k * 4 + 3 < cs.size) :
    ((((cs.setIfInBounds (k * 4) v0).setIfInBounds (k * 4 + 1) v1).setIfInBounds (k * 4 + 2) v2).setIfInBounds (k * 4 + 3) v3)[i]? = if i = k * 4 then some v0 else if i = k * 4 + 1 then some v1 else if i = k * 4 + 2 then some v2 else if i = k * 4 + 3 then some v3 else cs[i]? := by
  simp only [Array.getElem?_setIfInBounds, Array.size_setIfInBounds]
  by_cases e3 : k * 4 + 3 = i
  · subst e3
    rw [if_pos rfl, if_pos (by omega), if_neg (by omega), if_neg (by omega), if_neg (by omega), if_pos rfl]
  · rw [if_neg e3]
    by_cases e2 : k * 4 + 2 = i
    · subst e2
      rw [if_pos rfl, if_pos (by omega), if_neg (by omega), if_neg (by omega), if_pos rfl]
    · rw [if_neg e2]
      by_cases e1 : k * 4 + 1 = i
      · subst e1
        rw [if_pos rfl, if_pos (by omega), if_neg (by omega), if_pos rfl]
      · rw [if_neg e1]
        by_cases e0 : k * 4 = i
        · subst e0
          rw [if_pos rfl, if_pos (by omega), if_pos rfl]
        · rw [if_neg e0, if_neg (by omega), if_neg (by omega), if_neg (by omega), if_neg (by omega)]
def w4 (w : World) (bx i : Nat) (v0 v1 v2 v3 : Value) : World := (((w.setCell ⟨bx, i, none⟩ v0).setCell ⟨bx, i + 1, none⟩ v1).setCell ⟨bx, i + 2, none⟩ v2).setCell ⟨bx, i + 3, none⟩ v3
theorem w4_size (w : World) (bx i : Nat) (v0 v1 v2 v3 : Value) : (w4 w bx i v0 v1 v2 v3).heap.size = w.heap.size := by simp [w4, World.setCell]
theorem Copied.step {w : World} {bx k : Nat} {g : List Bs.T} {cs : Array Value} (h : Copied w bx k g cs) (hk : k < g.length) (N : Option Addr) (c : Nat) (h4 : g[k].needs.length ≤ c) (h5 : c ≤ 9223372036854775807) (h6 : RI w (bx + 1) w.heap.size N g[k].needs) :
    Copied (w4 w bx (k * 4) (.int .i64 g[k].time) (.slice N g[k].needs.length c) (.int .i64 g[k].pool) (.int .i64 g[k].units)) bx (k + 1) g
      ((((cs.setIfInBounds (k * 4) (.int .i64 g[k].time)).setIfInBounds (k * 4 + 1) (.slice N g[k].needs.length c)).setIfInBounds (k * 4 + 2) (.int .i64 g[k].pool)).setIfInBounds (k * 4 + 3) (.int .i64 g[k].units)) := by
  have hs := h.1
  have keep : ∀ {N : Option Addr} {l : List Int}, RI w (bx + 1) w.heap.size N l → RI (w4 w bx (k * 4) (.int .i64 g[k].time) (.slice N g[k].needs.length c) (.int .i64 g[k].pool) (.int .i64 g[k].units)) (bx + 1) w.heap.size N l := by
    intro N l hr
    unfold w4
    exact (((hr.set_far (.inl (by simp)) _).set_far (.inl (by simp)) _).set_far (.inl (by simp)) _).set_far (.inl (by simp)) _
  refine ⟨by simp [hs], ?_⟩
  intro j hj hjk
  simp only [set4_get cs k _ _ _ _ _ (by omega), w4_size]
  by_cases e : j = k
  · subst e
    refine ⟨N, c, by rw [if_pos rfl], by rw [if_neg (by omega), if_pos rfl], by rw [if_neg (by omega), if_neg (by omega), if_pos rfl], by rw [if_neg (by omega), if_neg (by omega), if_neg (by omega), if_pos rfl], h4, h5, ?_⟩
    unfold w4
    exact (((h6.set_far (.inl (by simp)) _).set_far (.inl (by simp)) _).set_far (.inl (by simp)) _).set_far (.inl (by simp)) _
  · obtain ⟨N', c', q0, q1, q2, q3, q4, q5, q6⟩ := h.2 j hj (by omega)
    refine ⟨N', c', ?_, ?_, ?_, ?_, q4, q5, ?_⟩
    · rw [if_neg (by omega), if_neg (by omega), if_neg (by omega), if_neg (by omega)]; exact q0
    · rw [if_neg (by omega), if_neg (by omega), if_neg (by omega), if_neg (by omega)]; exact q1
    · rw [if_neg (by omega), if_neg (by omega), if_neg (by omega), if_neg (by omega)]; exact q2
    · rw [if_neg (by omega), if_neg (by omega), if_neg (by omega), if_neg (by omega)]; exact q3
    · unfold w4
      exact (((q6.set_far (.inl (by simp)) _).set_far (.inl (by simp)) _).set_far (.inl (by simp)) _).set_far (.inl (by simp)) _

set_option maxHeartbeats 800000 in
theorem toTaskS_any (A : Option Addr) (c : Nat) (g : List Bs.T) (lo hi : Nat) (w : World) (h : RG w lo hi A g) (hh : hi ≤ w.heap.size) (hl : g.length ≤ 1048576) (hn : ∀ t ∈ g, t.needs.length ≤ 1048576) :
    Calls Try.prog 16 #[.slice A g.length c] w fun e w' => (e = .returned (.slice (some ⟨w.heap.size, 0, none⟩) g.length g.length) ∧ RG w' w.heap.size w'.heap.size (some ⟨w.heap.size, 0, none⟩) g) ∧ Below w.heap.size w w' ∧ UFrom w.heap.size w' := by
  obtain ⟨i0, hi0, hz0, hz1, hz2⟩ := info_parts Try.infoTask
  have HNn := Lib.hid hn
  clear hn
  have hmk : ∀ u : World, (Instr.makeSlice 26 (.int .i64 (g.length : Int)) (.int .i64 (g.length : Int))).run Try.prog u =
      .ok (.slice (some ⟨u.heap.size, 0, none⟩) g.length g.length) (u.alloc (.cells (madeCells #[.int .i64 0, .slice none 0 0, .int .i64 0, .int .i64 0] (g.length * 4)) 64)) := fun u => by
    have h := run_make (P := Try.prog) u 26 64 i0 (.agg #[.int .i64 0, .slice none 0 0, .int .i64 0, .int .i64 0]) Try.underlying26 hi0 hz0 .i64 .i64 (g.length : Int) (g.length : Int) (by omega) (Int.le_refl _) (by rw [hz2]; omega) (by omega)
    simpa [hz1, Value.cells] using h
  go_enter Try.func16, Try.ntmps16
  go_wp2
  go_loopw [4] (fun i wr => ∃ (k : Nat) (cs : Array Value), k ≤ g.length ∧ i = .int .i64 k ∧ Blk wr w.heap.size 64 cs ∧ Copied wr w.heap.size k g cs ∧ Below w.heap.size w wr ∧ UFrom w.heap.size wr) (fun i _ => g.length - (intOf i).toNat)
  case atStart => exact ⟨0, _, Nat.zero_le _, rfl, Blk.new _ _ _, ⟨by simp [size_madeCells], by intro j _ h; omega⟩, (Below.refl _ _).alloc (Nat.le_refl _) _, (UFrom.start w).alloc _ _⟩
  case round =>
    obtain ⟨k, cs, hk, rfl, hB, hC, hb, hu⟩ := hrel
    have hsz := hb.size
    have hBl := hB.lt
    have hcs := hC.1
    by_cases hlt : k < g.length
    · have hr := h.below hb hh
      obtain ⟨b, o, N, cN, rfl, h1, h2, q0, q1, q2, q3, hlN, hcN, hN⟩ := hr k hlt
      clear hr
      have c1 := toTask_any g[k].time g[k].pool g[k].units N cN g[k].needs lo hi wr hN (by omega) (HNn.out _ (List.getElem_mem hlt))
      have C1 := Lib.hid c1
      have Hcs := Lib.hid hcs
      clear c1 hcs
      go_wp2_with fail
      refine (C1.out).mono ?_; rintro e w1 ⟨⟨N', rfl, hr'⟩, hb', hu'⟩
      have hB1 : Blk w1 w.heap.size 64 cs := hB.below hb' hBl
      have f0 := (hB1.cell (k * 4)).trans (Array.getElem?_eq_getElem (by have := Hcs.out; omega))
      have f1 := (hB1.cell (k * 4 + 1)).trans (Array.getElem?_eq_getElem (by have := Hcs.out; omega))
      have f2 := (hB1.cell (k * 4 + 2)).trans (Array.getElem?_eq_getElem (by have := Hcs.out; omega))
      have f3 := (hB1.cell (k * 4 + 3)).trans (Array.getElem?_eq_getElem (by have := Hcs.out; omega))
      have z := hB1.frozen
      go_wp2
      have hsz' := hb'.size
      go_roundw
      case rel =>
        refine ⟨k + 1, _, by omega, by go_num, (((hB1.set_ _ _).set_ _ _).set_ _ _).set_ _ _, ?_, ?_, ?_⟩
        · have := (hC.below hb').step hlt N' g[k].needs.length (Nat.le_refl _) (by have := HNn.out _ (List.getElem_mem hlt); omega) (hr'.more (by omega) (Nat.le_refl _))
          exact this
        · exact ((((hb.trans (hb'.mono hsz)).setCell (by simp) _).setCell (by simp) _).setCell (by simp) _).setCell (by simp) _
        · exact ((((hu.after hb' hu').setCell _ _).setCell _ _).setCell _ _).setCell _ _
      case measure => simp [intOf]; omega
    · obtain rfl : k = g.length := by omega
      go_wp2
      go_ret
      refine ⟨⟨rfl, ?_⟩, by exact hb, hu⟩
      intro j hj
      obtain ⟨N, c', d0, d1, d2, d3, d4, d5, d6⟩ := hC.2 j hj hj
      refine ⟨w.heap.size, 0, N, c', rfl, Nat.le_refl _, hBl, ?_, ?_, ?_, ?_, d4, d5, d6.more (by omega) (Nat.le_refl _)⟩
      · rw [hB.cell, Nat.zero_add]; exact d0
      · rw [hB.cell, Nat.zero_add]; exact d1
      · rw [hB.cell, Nat.zero_add]; exact d2
      · rw [hB.cell, Nat.zero_add]; exact d3

set_option maxHeartbeats 800000 in
theorem eqTaskS_any (A : Option Addr) (c : Nat) (A' : Option Addr) (c' : Nat) (g : List Bs.T) (lo hi lo' hi' : Nat) (w : World) (h : RG w lo hi A g) (hh : hi ≤ w.heap.size) (h' : RG w lo' hi' A' g) (hh' : hi' ≤ w.heap.size) (hl : g.length ≤ 9223372036854775807) :
    Calls Try.prog 19 #[.slice A g.length c, .slice A' g.length c'] w fun e w' => e = .returned (.bool true) ∧ Below w.heap.size w w' := by
  go_enter Try.func19, Try.ntmps19
  go_wp2
  go_loopw [5] (fun i wr => ∃ k : Nat, k ≤ g.length ∧ i = .int .i64 k ∧ Below w.heap.size w wr) (fun i _ => g.length - (intOf i).toNat)
  case atStart => exact ⟨0, Nat.zero_le _, rfl, Below.refl _ _⟩
  case round =>
    obtain ⟨k, hk, rfl, hb⟩ := hrel
    have hsz := hb.size
    by_cases hlt : k < g.length
    · have hr := h.below hb hh
      have hr' := h'.below hb hh'
      obtain ⟨b, o, N, cN, rfl, h1, h2, q0, q1, q2, q3, hlN, hcN, hN⟩ := hr k hlt
      obtain ⟨b', o', N', cN', rfl, h1', h2', q0', q1', q2', q3', hlN', hcN', hN'⟩ := hr' k hlt
      clear hr hr'
      have c1 := fun n => eqTask_any g[k].time g[k].pool g[k].units N cN g[k].needs g[k].time g[k].pool g[k].units N' cN' g[k].needs lo hi lo' hi' (wr.drewN n) hN (by show hi ≤ wr.heap.size; omega) hN' (by show hi' ≤ wr.heap.size; omega) (by omega)
      simp only [decide_true, Bool.and_self] at c1
      have C1 := Lib.hid c1
      clear c1
      go_wp2
      go_region_with (go_at_call 63; refine (C1.out 1).mono ?_; rintro e w1 ⟨rfl, hb'⟩)
      all_goals
        go_wp2
        go_roundw
        case rel => exact ⟨k + 1, by omega, by go_num, (hb.drewN 1).trans (hb'.mono hsz)⟩
        case measure => simp [intOf]; omega
    · go_wp2
      go_ret
      exact ⟨rfl, by exact hb⟩
end Go.Proofs.Yteelckhkcfokhaa
