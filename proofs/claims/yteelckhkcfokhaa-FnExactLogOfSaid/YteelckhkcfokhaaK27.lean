/-
  MERGED TEXTS: W34 W35 W36 W37 W38 W39 W40.
-/
import Derived.Test.YteelckhkcfokhaaK7
import Derived.Test.YteelckhkcfokhaaK4
import Derived.Deep.RegionLaw
import Derived.Test.YteelckhkcfokhaaK11
namespace Go.Proofs.Yteelckhkcfokhaa
open Go.RowKit
/-- a counter as a value -/
def pcV (a b c n : Int) : Value := .agg #[.int .i64 a, .int .i64 b, .int .i64 c, .int .i64 n]
theorem Blk.far {w : World} {g : Nat} {t : TypeId} {cs : Array Value} (h : Blk w g t cs) {p : Addr} (hp : g ≠ p.block) (u : Value) : Blk (w.setCell p u) g t cs := (heap_setCell_other w p g u hp).trans h
theorem pc_block {W : World} {g : Nat} {z0 z1 z2 z3 : Value} (h : Blk W g 133 #[z0, z1, z2, z3]) (a b c n : Value) : Blk ((((W.setCell ⟨g, 0, none⟩ a).setCell ⟨g, 1, none⟩ b).setCell ⟨g, 2, none⟩ c).setCell ⟨g, 3, none⟩ n) g 133 #[a, b, c, n] := by
  have := (((h.set_ 0 a).set_ 1 b).set_ 2 c).set_ 3 n
  simpa using this
theorem pc_ret {fn : Func} {p : Tmp} (h : fn.results = #[.cell p 133]) (tmps : Array Value) (w : World) (g : Nat) (a b c n : Int) (hp : tmps.getD p undef = .pointer (some ⟨g, 0, none⟩)) (hg : Blk w g 133 #[.int .i64 a, .int .i64 b, .int .i64 c, .int .i64 n]) :
    (results fn tmps).run Try.prog w = .ok (pcV a b c n) w :=
  results_cell_row h tmps w g 133 _ (0, 0) _ hp hg Try.underlying133 rfl (by kernel_rfl)
theorem Blk.drew {w : World} {g : Nat} {t : TypeId} {cs : Array Value} (h : Blk w g t cs) : Blk w.drew g t cs := h
def addIf (p k u a : Int) : Int := a + (if p == k then u else 0)
set_option maxHeartbeats 1600000 in
theorem pcWith_any (a b c n t p u : Int) (N : Option Addr) (m cN : Nat) (w : World) (h0 : 0 ≤ p) (h2 : p ≤ 2) (ha : 0 ≤ a ∧ a ≤ 1000) (hb : 0 ≤ b ∧ b ≤ 1000) (hc : 0 ≤ c ∧ c ≤ 1000) (hn : 0 ≤ n ∧ n ≤ 1000) (hu : 0 ≤ u ∧ u ≤ 1000) :
    Calls Try.prog 137 #[.agg #[.int .i64 a, .int .i64 b, .int .i64 c, .int .i64 n], .agg #[.int .i64 t, .slice N m cN, .int .i64 p, .int .i64 u]] w fun e w' => e = .returned (pcV (addIf p 0 u a) (addIf p 1 u b) (addIf p 2 u c) (n + 1)) ∧ Below w.heap.size w w' := by
  have hx3 : w.heap.size + 1 + 1 ≠ w.heap.size := by omega
  have hp : p = 0 ∨ p = 1 ∨ p = 2 := by omega
  have b1 := Blk.new w 133 #[.int .i64 a, .int .i64 b, .int .i64 c, .int .i64 n]
  have s1 : (w.alloc (.cells #[.int .i64 a, .int .i64 b, .int .i64 c, .int .i64 n] 133)).heap.size = w.heap.size + 1 := by simp
  have b2 := Blk.new (w.alloc (.cells #[.int .i64 a, .int .i64 b, .int .i64 c, .int .i64 n] 133)) 64 #[.int .i64 t, .slice N m cN, .int .i64 p, .int .i64 u]
  rw [s1] at b2
  have b3 := Blk.new ((w.alloc (.cells #[.int .i64 a, .int .i64 b, .int .i64 c, .int .i64 n] 133)).alloc (.cells #[.int .i64 t, .slice N m cN, .int .i64 p, .int .i64 u] 64)) 133 #[.int .i64 0, .int .i64 0, .int .i64 0, .int .i64 0]
  rw [show ((w.alloc (.cells #[.int .i64 a, .int .i64 b, .int .i64 c, .int .i64 n] 133)).alloc (.cells #[.int .i64 t, .slice N m cN, .int .i64 p, .int .i64 u] 64)).heap.size = w.heap.size + 1 + 1 from by simp] at b3
  replace b1 := (b1.alloc (.cells #[.int .i64 t, .slice N m cN, .int .i64 p, .int .i64 u] 64)).alloc (.cells #[.int .i64 0, .int .i64 0, .int .i64 0, .int .i64 0] 133)
  replace b2 := b2.alloc (.cells #[.int .i64 0, .int .i64 0, .int .i64 0, .int .i64 0] 133)
  have hbl : Below w.heap.size w (((w.alloc (.cells #[.int .i64 a, .int .i64 b, .int .i64 c, .int .i64 n] 133)).alloc (.cells #[.int .i64 t, .slice N m cN, .int .i64 p, .int .i64 u] 64)).alloc (.cells #[.int .i64 0, .int .i64 0, .int .i64 0, .int .i64 0] 133)) := (((Below.refl _ _).alloc (Nat.le_refl _) _).alloc (by simp) _).alloc (by simp; omega) _
  have k0 : (World.cell? _ ⟨w.heap.size, 0, none⟩) = some (.int .i64 a) := b1.cell 0
  have k1 : (World.cell? _ ⟨w.heap.size, 1, none⟩) = some (.int .i64 b) := b1.cell 1
  have k2 : (World.cell? _ ⟨w.heap.size, 2, none⟩) = some (.int .i64 c) := b1.cell 2
  have k3 : (World.cell? _ ⟨w.heap.size, 3, none⟩) = some (.int .i64 n) := b1.cell 3
  have j2 : (World.cell? _ ⟨w.heap.size + 1, 2, none⟩) = some (.int .i64 p) := b2.cell 2
  have j3 : (World.cell? _ ⟨w.heap.size + 1, 3, none⟩) = some (.int .i64 u) := b2.cell 3
  have f0 := b1.frozen 0
  have f1 := b1.frozen 1
  have f2 := b1.frozen 2
  have f3 := b1.frozen 3
  have r0 := b3.frozen 0
  have r1 := b3.frozen 1
  have r2 := b3.frozen 2
  have r3 := b3.frozen 3
  have q0 : (World.cell? _ ⟨w.heap.size + 1 + 1, 0, none⟩) = some (.int .i64 0) := b3.cell 0
  have q1 : (World.cell? _ ⟨w.heap.size + 1 + 1, 1, none⟩) = some (.int .i64 0) := b3.cell 1
  have q2 : (World.cell? _ ⟨w.heap.size + 1 + 1, 2, none⟩) = some (.int .i64 0) := b3.cell 2
  have q3 : (World.cell? _ ⟨w.heap.size + 1 + 1, 3, none⟩) = some (.int .i64 0) := b3.cell 3
  have HB := Lib.hid hbl
  have B1 := Lib.hid b1
  have B3 := Lib.hid b3
  clear b1 b2 b3 hbl s1
  go_enter Try.func137, Try.ntmps137
  go_wp2_with fail
  generalize (((w.alloc (.cells #[.int .i64 a, .int .i64 b, .int .i64 c, .int .i64 n] 133)).alloc (.cells #[.int .i64 t, .slice N m cN, .int .i64 p, .int .i64 u] 64)).alloc (.cells #[.int .i64 0, .int .i64 0, .int .i64 0, .int .i64 0] 133)) = W at *
  rcases hp with rfl | rfl | rfl
  · go_region_law (fail)
    go_wp2
    all_goals refine bodyPost_ret (pc_ret rfl _ _ (w.heap.size + 1 + 1) (a + u) (b) (c) (n + 1) rfl (Blk.drew (pc_block ((B3.out.far hx3 _).far hx3 _) _ _ _ _))) rfl ⟨by simp [pcV, addIf], ?_⟩
    all_goals exact   (((((((HB.out.setCell (by exact Nat.le_refl _) _).setCell (by exact Nat.le_refl _) _).setCell (by show _ ≤ w.heap.size + 1 + 1; omega) _).setCell (by show _ ≤ w.heap.size + 1 + 1; omega) _).setCell (by show _ ≤ w.heap.size + 1 + 1; omega) _).setCell (by show _ ≤ w.heap.size + 1 + 1; omega) _).drewN 1)
  · go_region_law (fail)
    go_wp2
    all_goals refine bodyPost_ret (pc_ret rfl _ _ (w.heap.size + 1 + 1) (a) (b + u) (c) (n + 1) rfl (Blk.drew (pc_block ((B3.out.far hx3 _).far hx3 _) _ _ _ _))) rfl ⟨by simp [pcV, addIf], ?_⟩
    all_goals exact   (((((((HB.out.setCell (by exact Nat.le_refl _) _).setCell (by exact Nat.le_refl _) _).setCell (by show _ ≤ w.heap.size + 1 + 1; omega) _).setCell (by show _ ≤ w.heap.size + 1 + 1; omega) _).setCell (by show _ ≤ w.heap.size + 1 + 1; omega) _).setCell (by show _ ≤ w.heap.size + 1 + 1; omega) _).drewN 1)
  · go_region_law (fail)
    go_wp2
    all_goals refine bodyPost_ret (pc_ret rfl _ _ (w.heap.size + 1 + 1) (a) (b) (c + u) (n + 1) rfl (Blk.drew (pc_block ((B3.out.far hx3 _).far hx3 _) _ _ _ _))) rfl ⟨by simp [pcV, addIf], ?_⟩
    all_goals exact   (((((((HB.out.setCell (by exact Nat.le_refl _) _).setCell (by exact Nat.le_refl _) _).setCell (by show _ ≤ w.heap.size + 1 + 1; omega) _).setCell (by show _ ≤ w.heap.size + 1 + 1; omega) _).setCell (by show _ ≤ w.heap.size + 1 + 1; omega) _).setCell (by show _ ≤ w.heap.size + 1 + 1; omega) _).drewN 1)
end Go.Proofs.Yteelckhkcfokhaa
namespace Go.Proofs.Yteelckhkcfokhaa
open Go.RowKit
theorem usedC_take (g : List Bs.T) (r : List Int) (p : Int) (k : Nat) (hk : k < r.length) : Bs.usedC g (r.take (k + 1)) p = Bs.usedC g (r.take k) p + Bs.unitF g p r[k] := Bs.sumZ_take r (Bs.unitF g p) k hk
theorem used_bound {g : List Bs.T} {r : List Int} (hF : Bs.fine g = true) (hr : ∀ x ∈ r, 0 ≤ x ∧ x < g.length) (p : Int) : ∀ k, k ≤ r.length → 0 ≤ Bs.usedC g (r.take k) p ∧ Bs.usedC g (r.take k) p ≤ 4 * k := by
  intro k
  induction k with
  | zero => intro _; simp [Bs.usedC, Bs.sumZ]
  | succ k ih =>
    intro hk
    have h1 := ih (by omega)
    have hx := hr _ (List.getElem_mem (show k < r.length by omega))
    rw [usedC_take g r p k (by omega)]
    have ht := Bs.fine_task hF (i := r[k].toNat) (by omega)
    have : 0 ≤ Bs.unitF g p r[k] ∧ Bs.unitF g p r[k] ≤ 4 := by
      unfold Bs.unitF
      rw [Bs.units_at (by omega)]
      split <;> omega
    omega
theorem unit_add {g : List Bs.T} {v : Nat} (hv : v < g.length) (k a : Int) : addIf g[v].pool k g[v].units a = a + Bs.unitF g k (v : Int) := by
  unfold addIf Bs.unitF
  rw [Int.toNat_natCast, Bs.pool_at hv, Bs.units_at hv]
set_option maxHeartbeats 3200000 in
theorem countUnits_any (A : Option Addr) (c : Nat) (g : List Bs.T) (A' : Option Addr) (c' : Nat) (r : List Int) (lo hi lo' hi' : Nat) (w : World) (h : RG w lo hi A g) (hh : hi ≤ w.heap.size) (h' : RI w lo' hi' A' r) (hh' : hi' ≤ w.heap.size) (hF : Bs.fine g = true) (hr : ∀ x ∈ r, 0 ≤ x ∧ x < g.length) (hl : r.length ≤ 100) :
    Calls Try.prog 132 #[.slice A g.length c, .slice A' r.length c'] w fun e w' => e = .returned (pcV (Bs.usedC g r 0) (Bs.usedC g r 1) (Bs.usedC g r 2) r.length) ∧ Below w.heap.size w w' := by
  have hgl := Bs.fine_len hF
  have b3 := Blk.new w 133 #[.int .i64 0, .int .i64 0, .int .i64 0, .int .i64 0]
  have b4 := Blk.new (w.alloc (.cells #[.int .i64 0, .int .i64 0, .int .i64 0, .int .i64 0] 133)) 133 #[.int .i64 0, .int .i64 0, .int .i64 0, .int .i64 0]
  have b3 := b3.alloc (.cells #[.int .i64 0, .int .i64 0, .int .i64 0, .int .i64 0] 133)
  rw [show (w.alloc (.cells #[.int .i64 0, .int .i64 0, .int .i64 0, .int .i64 0] 133)).heap.size = w.heap.size + 1 from by simp] at b4
  have hbl : Below w.heap.size w ((w.alloc (.cells #[.int .i64 0, .int .i64 0, .int .i64 0, .int .i64 0] 133)).alloc (.cells #[.int .i64 0, .int .i64 0, .int .i64 0, .int .i64 0] 133)) := ((Below.refl _ _).alloc (Nat.le_refl _) _).alloc (by simp) _
  have HT := Lib.hid (fun i hi => Bs.fine_task hF (i := i) hi)
  have HR := Lib.hid hr
  have HUB := Lib.hid (fun p k hk => used_bound hF hr p k hk)
  have HUT := Lib.hid (fun p k hk => usedC_take g r p k hk)
  have HBL := Lib.hid hbl
  have HB3 := Lib.hid b3
  have HB4 := Lib.hid b4
  have HG := Lib.hid h
  have HI := Lib.hid h'
  clear b3 b4 hbl hF hr h h'
  go_enter Try.func132, Try.ntmps132
  go_wp2
  go_loopw [11] (fun i wr => ∃ (k : Nat) (x0 x1 x2 : Int), k ≤ r.length ∧ i = .int .i64 k ∧ x0 = Bs.usedC g (r.take k) 0 ∧ x1 = Bs.usedC g (r.take k) 1 ∧ x2 = Bs.usedC g (r.take k) 2 ∧ Blk wr (w.heap.size + 1) 133 #[.int .i64 x0, .int .i64 x1, .int .i64 x2, .int .i64 (k : Int)] ∧ Blk wr w.heap.size 133 #[.int .i64 0, .int .i64 0, .int .i64 0, .int .i64 0] ∧ Below w.heap.size w wr) (fun i _ => r.length - (intOf i).toNat)
  case atStart => exact ⟨0, 0, 0, 0, Nat.zero_le _, rfl, by simp [Bs.usedC, Bs.sumZ], by simp [Bs.usedC, Bs.sumZ], by simp [Bs.usedC, Bs.sumZ], HB4.out, HB3.out, HBL.out⟩
  case round =>
    obtain ⟨k, x0, x1, x2, hk, rfl, h0, h1, h2, hB4, hB3, hb⟩ := hrel
    have g0 := HUB.out 0 k hk
    have g1 := HUB.out 1 k hk
    have g2 := HUB.out 2 k hk
    rw [← h0] at g0
    rw [← h1] at g1
    rw [← h2] at g2
    have sr := hb.size
    have sb := hB4.lt
    by_cases hlt : k < r.length
    · obtain ⟨b, o, rfl, _, _, hc⟩ := (HI.out.below hb hh').at_ hlt
      have hx := HR.out _ (List.getElem_mem hlt)
      have t0 := HUT.out 0 k hlt
      have t1 := HUT.out 1 k hlt
      have t2 := HUT.out 2 k hlt
      rw [← h0] at t0
      rw [← h1] at t1
      rw [← h2] at t2
      obtain ⟨v, hv⟩ : ∃ v : Nat, r[k] = (v : Int) := ⟨r[k].toNat, by omega⟩
      rw [hv] at hc hx t0 t1 t2
      have hvl : v < g.length := by omega
      rw [← unit_add hvl] at t0 t1 t2
      have hu := HT.out v hvl
      obtain ⟨bg, og, N, cN, rfl, _, hgh, q0, q1, q2, q3, hlN, hcN, hN⟩ := (HG.out.below hb hh) v hvl
      have c1 := fun W => pcWith_any x0 x1 x2 (k : Int) g[v].time g[v].pool g[v].units N g[v].needs.length cN W hu.1 hu.2.1 (by omega) (by omega) (by omega) (by omega) (by omega)
      unfold pcV at c1
      have C1 := Lib.hid c1
      have k0 : wr.cell? ⟨w.heap.size + 1, 0, none⟩ = some (.int .i64 x0) := hB4.cell 0
      have k1 : wr.cell? ⟨w.heap.size + 1, 1, none⟩ = some (.int .i64 x1) := hB4.cell 1
      have k2 : wr.cell? ⟨w.heap.size + 1, 2, none⟩ = some (.int .i64 x2) := hB4.cell 2
      have k3 : wr.cell? ⟨w.heap.size + 1, 3, none⟩ = some (.int .i64 (k : Int)) := hB4.cell 3
      have H4 := Lib.hid hB4
      have H3 := Lib.hid hB3
      have HB := Lib.hid hb
      have T0 := Lib.hid t0
      have T1 := Lib.hid t1
      have T2 := Lib.hid t2
      have HX := Lib.hid (And.intro h0 (And.intro h1 h2))
      have i0 : (0 : Int) ≤ (v : Int) := by omega
      have i1 : (v : Int) < (g.length : Int) := by omega
      clear c1 hB4 hB3 hb t0 t1 t2 h0 h1 h2 hN hv
      generalize addIf g[v].pool 0 g[v].units x0 = y0 at *
      generalize addIf g[v].pool 1 g[v].units x1 = y1 at *
      generalize addIf g[v].pool 2 g[v].units x2 = y2 at *
      go_wp2_with fail
      go_region_law (go_simp; go_loud (go_at_call 137; (with_reducible refine ((C1.out _)).mono ?_); rintro e w5 ⟨rfl, hb5⟩; have s5 : wr.heap.size ≤ w5.heap.size := hb5.size; have e0 := ((H4.out.drewN 1).below hb5 (show w.heap.size + 1 < wr.heap.size from sb)).cell 0; have e1 := ((H4.out.drewN 1).below hb5 (show w.heap.size + 1 < wr.heap.size from sb)).cell 1; have e2 := ((H4.out.drewN 1).below hb5 (show w.heap.size + 1 < wr.heap.size from sb)).cell 2; have e3 := ((H4.out.drewN 1).below hb5 (show w.heap.size + 1 < wr.heap.size from sb)).cell 3; have e4 := ((H4.out.drewN 1).below hb5 (show w.heap.size + 1 < wr.heap.size from sb)).frozen 0; have e5 := ((H4.out.drewN 1).below hb5 (show w.heap.size + 1 < wr.heap.size from sb)).frozen 1; have e6 := ((H4.out.drewN 1).below hb5 (show w.heap.size + 1 < wr.heap.size from sb)).frozen 2; have e7 := ((H4.out.drewN 1).below hb5 (show w.heap.size + 1 < wr.heap.size from sb)).frozen 3; have HB5 := Lib.hid hb5; clear hb5))
      all_goals
        have hB5 : Below w.heap.size w w5 := HB.out.trans ((((Below.refl _ wr).drewN 1).trans HB5.out).mono sr)
        have hP5 := pc_block (((H4.out.drewN 1).below HB5.out (show w.heap.size + 1 < wr.heap.size from sb))) (.int .i64 y0) (.int .i64 y1) (.int .i64 y2) (.int .i64 ((k : Int) + 1))
        have hQ5 := (((((H3.out.drewN 1).below HB5.out (show w.heap.size < wr.heap.size by omega)).far (p := ⟨w.heap.size + 1, 0, none⟩) (by show _ ≠ w.heap.size + 1; omega) (.int .i64 y0)).far (p := ⟨w.heap.size + 1, 1, none⟩) (by show _ ≠ w.heap.size + 1; omega) (.int .i64 y1)).far (p := ⟨w.heap.size + 1, 2, none⟩) (by show _ ≠ w.heap.size + 1; omega) (.int .i64 y2)).far (p := ⟨w.heap.size + 1, 3, none⟩) (by show _ ≠ w.heap.size + 1; omega) (.int .i64 ((k : Int) + 1))
        have hR5 := (((hB5.setCell (p := ⟨w.heap.size + 1, 0, none⟩) (by show _ ≤ w.heap.size + 1; omega) (.int .i64 y0)).setCell (p := ⟨w.heap.size + 1, 1, none⟩) (by show _ ≤ w.heap.size + 1; omega) (.int .i64 y1)).setCell (p := ⟨w.heap.size + 1, 2, none⟩) (by show _ ≤ w.heap.size + 1; omega) (.int .i64 y2)).setCell (p := ⟨w.heap.size + 1, 3, none⟩) (by show _ ≤ w.heap.size + 1; omega) (.int .i64 ((k : Int) + 1))
        have HP5 := Lib.hid hP5
        have HQ5 := Lib.hid hQ5
        have HR5 := Lib.hid hR5
        clear hB5 hP5 hQ5 hR5 e0 e1 e2 e3 e4 e5 e6 e7 k0 k1 k2 k3 q0 q1 q2 q3 hc
        go_wp2
        go_roundw
        case rel => exact ⟨k + 1, y0, y1, y2, by omega, by go_num, T0.out.symm, T1.out.symm, T2.out.symm, HP5.out, HQ5.out, HR5.out⟩
        case measure => simp [intOf]; omega
    · obtain rfl : k = r.length := by omega
      rw [List.take_length] at h0 h1 h2
      have k0 : wr.cell? ⟨w.heap.size + 1, 0, none⟩ = some (.int .i64 x0) := hB4.cell 0
      have k1 : wr.cell? ⟨w.heap.size + 1, 1, none⟩ = some (.int .i64 x1) := hB4.cell 1
      have k2 : wr.cell? ⟨w.heap.size + 1, 2, none⟩ = some (.int .i64 x2) := hB4.cell 2
      have k3 : wr.cell? ⟨w.heap.size + 1, 3, none⟩ = some (.int .i64 (r.length : Int)) := hB4.cell 3
      have j0 : wr.cell? ⟨w.heap.size, 0, none⟩ = some (.int .i64 0) := hB3.cell 0
      have j1 : wr.cell? ⟨w.heap.size, 1, none⟩ = some (.int .i64 0) := hB3.cell 1
      have j2 : wr.cell? ⟨w.heap.size, 2, none⟩ = some (.int .i64 0) := hB3.cell 2
      have j3 : wr.cell? ⟨w.heap.size, 3, none⟩ = some (.int .i64 0) := hB3.cell 3
      have f0 := hB3.frozen 0
      have f1 := hB3.frozen 1
      have f2 := hB3.frozen 2
      have f3 := hB3.frozen 3
      have HP := Lib.hid (pc_block hB3 (.int .i64 x0) (.int .i64 x1) (.int .i64 x2) (.int .i64 (r.length : Int)))
      have HR5 := Lib.hid ((((hb.setCell (p := ⟨w.heap.size, 0, none⟩) (Nat.le_refl _) (.int .i64 x0)).setCell (p := ⟨w.heap.size, 1, none⟩) (Nat.le_refl _) (.int .i64 x1)).setCell (p := ⟨w.heap.size, 2, none⟩) (Nat.le_refl _) (.int .i64 x2)).setCell (p := ⟨w.heap.size, 3, none⟩) (Nat.le_refl _) (.int .i64 (r.length : Int)))
      have HX := Lib.hid (And.intro h0 (And.intro h1 h2))
      clear hB3 hB4 hb h0 h1 h2
      go_wp2
      refine bodyPost_ret (pc_ret rfl _ _ w.heap.size x0 x1 x2 r.length rfl HP.out) rfl ⟨?_, HR5.out⟩
      rw [HX.out.1, HX.out.2.1, HX.out.2.2]
end Go.Proofs.Yteelckhkcfokhaa
namespace Go.Proofs.Yteelckhkcfokhaa
open Go.RowKit
def fit3 (x0 x1 x2 : Int) (m : List Int) : Bool := decide (x0 ≤ Bs.giZ m 0) && decide (x1 ≤ Bs.giZ m 1) && decide (x2 ≤ Bs.giZ m 2)
theorem fits_eq (g : List Bs.T) (m r : List Int) : Bs.fitsC g m r = fit3 (Bs.usedC g r 0) (Bs.usedC g r 1) (Bs.usedC g r 2) m := by
  unfold Bs.fitsC fit3
  simp [List.range_succ, Bool.and_assoc]
theorem idx3 (x0 x1 x2 : Int) (k : Nat) (hk : k < 3) (w : World) : (Instr.index 131 (.agg #[.int .i64 x0, .int .i64 x1, .int .i64 x2]) (.int .i64 (k : Int))).run Try.prog w = .ok (.int .i64 (if k = 0 then x0 else if k = 1 then x1 else x2)) w := by
  have hk3 : k = 0 ∨ k = 1 ∨ k = 2 := by omega
  rcases hk3 with rfl | rfl | rfl
  all_goals simp [Instr.index, run_underlying Try.underlying131, asIntOf, go_sem]
  all_goals rfl
theorem field_pc (a b c n : Value) (W : World) : (Instr.field 133 (.agg #[a, b, c, n]) 0).run Try.prog W = .ok (.agg #[a, b, c]) W := by
  simp [Instr.field, run_underlying Try.underlying133, asAgg, part, Sem.run_bind]
set_option maxHeartbeats 1600000 in
theorem fits_any (x0 x1 x2 n : Int) (A : Option Addr) (c : Nat) (m : List Int) (lo hi : Nat) (w : World) (h : RI w lo hi A m) (hh : hi ≤ w.heap.size) (h3 : m.length = 3) :
    Calls Try.prog 134 #[.agg #[.int .i64 x0, .int .i64 x1, .int .i64 x2, .int .i64 n], .slice A m.length c] w fun e w' => e = .returned (.bool (fit3 x0 x1 x2 m)) ∧ Below w.heap.size w w' := by
  have hb : Below w.heap.size w (w.alloc (.cells #[.int .i64 x0, .int .i64 x1, .int .i64 x2, .int .i64 n] 133)) := (Below.refl _ _).alloc (Nat.le_refl _) _
  have hr := h.below hb hh
  have b1 := Blk.new w 133 #[.int .i64 x0, .int .i64 x1, .int .i64 x2, .int .i64 n]
  obtain ⟨b, o, rfl, _, _, c0⟩ := hr.at_ (show 0 < m.length by omega)
  obtain ⟨b', o', e, _, _, c1⟩ := hr.at_ (show 1 < m.length by omega)
  cases e
  obtain ⟨b', o', e, _, _, c2⟩ := hr.at_ (show 2 < m.length by omega)
  cases e
  rw [← Bs.giZ_at] at c0 c1 c2
  simp only [Nat.add_zero] at c0
  have HF := Lib.hid (show fit3 x0 x1 x2 m = (decide (x0 ≤ Bs.giZ m 0) && decide (x1 ≤ Bs.giZ m 1) && decide (x2 ≤ Bs.giZ m 2)) from rfl)
  have HB := Lib.hid hb
  generalize Bs.giZ m 0 = m0 at *
  generalize Bs.giZ m 1 = m1 at *
  generalize Bs.giZ m 2 = m2 at *
  clear hr h hb
  have ix0 : ∀ W, (Instr.index 131 (.agg #[.int .i64 x0, .int .i64 x1, .int .i64 x2]) (.int .i64 0)).run Try.prog W = .ok (.int .i64 x0) W := fun W => idx3 x0 x1 x2 0 (by omega) W
  have ix1 : ∀ W, (Instr.index 131 (.agg #[.int .i64 x0, .int .i64 x1, .int .i64 x2]) (.int .i64 1)).run Try.prog W = .ok (.int .i64 x1) W := fun W => idx3 x0 x1 x2 1 (by omega) W
  have ix2 : ∀ W, (Instr.index 131 (.agg #[.int .i64 x0, .int .i64 x1, .int .i64 x2]) (.int .i64 2)).run Try.prog W = .ok (.int .i64 x2) W := fun W => idx3 x0 x1 x2 2 (by omega) W
  have l0 : (0 : Int) < (m.length : Int) := by omega
  have l1 : (1 : Int) < (m.length : Int) := by omega
  have l2 : (2 : Int) < (m.length : Int) := by omega
  go_enter Try.func134, Try.ntmps134
  go_wp2
  go_loop [9] (fun i => ∃ k : Nat, k ≤ 3 ∧ i = .int .i64 k ∧ (0 < k → x0 ≤ m0) ∧ (1 < k → x1 ≤ m1) ∧ (2 < k → x2 ≤ m2)) (fun i => 3 - (intOf i).toNat)
  case atStart => exact ⟨0, by omega, rfl, by omega, by omega, by omega⟩
  case round =>
    obtain ⟨k, hk, rfl, g0, g1, g2⟩ := hrel
    have hk4 : k = 0 ∨ k = 1 ∨ k = 2 ∨ k = 3 := by omega
    rcases hk4 with rfl | rfl | rfl | rfl
    · by_cases hc : x0 ≤ m0
      · have hd : decide (m0 < x0) = false := by simp; omega
        have hd2 : ¬ m0 < x0 := by omega
        go_wp2
        go_round
        case rel => exact ⟨1, by omega, rfl, by omega, by omega, by omega⟩
        case measure => simp [intOf]
      · go_wp2
        go_ret
        exact ⟨ret_bool (by rw [HF.out]; simp; omega), HB.out⟩
    · have g0 := g0 (by omega)
      by_cases hc : x1 ≤ m1
      · have hd : decide (m1 < x1) = false := by simp; omega
        have hd2 : ¬ m1 < x1 := by omega
        go_wp2
        go_round
        case rel => exact ⟨2, by omega, rfl, by omega, by omega, by omega⟩
        case measure => simp [intOf]
      · go_wp2
        go_ret
        exact ⟨ret_bool (by rw [HF.out]; simp; omega), HB.out⟩
    · have g0 := g0 (by omega)
      have g1 := g1 (by omega)
      by_cases hc : x2 ≤ m2
      · have hd : decide (m2 < x2) = false := by simp; omega
        have hd2 : ¬ m2 < x2 := by omega
        go_wp2
        go_round
        case rel => exact ⟨3, by omega, rfl, by omega, by omega, by omega⟩
        case measure => simp [intOf]
      · go_wp2
        go_ret
        exact ⟨ret_bool (by rw [HF.out]; simp; omega), HB.out⟩
    · have g0 := g0 (by omega)
      have g1 := g1 (by omega)
      have g2 := g2 (by omega)
      go_wp2
      go_ret
      exact ⟨ret_bool (by rw [HF.out]; simp; omega), HB.out⟩
theorem validPoolRoom_any (n : Int) (w : World) : Calls Try.prog 136 #[.int .i64 n] w fun e w' => e = .returned (.bool (decide (4 ≤ n ∧ n ≤ 8))) ∧ w = w' := by
  go_enter Try.func136, Try.ntmps136
  go_wp2
  all_goals go_ret
  all_goals exact ⟨ret_bool (by simp; try omega), rfl⟩
theorem validWorkers_any (n : Int) (w : World) : Calls Try.prog 131 #[.int .i64 n] w fun e w' => e = .returned (.bool (decide (1 ≤ n ∧ n ≤ 4))) ∧ w = w' := by
  go_enter Try.func131, Try.ntmps131
  go_wp2
  all_goals go_ret
  all_goals exact ⟨ret_bool (by simp; try omega), rfl⟩
set_option maxHeartbeats 1600000 in
theorem ValidRoom_same (A : Option Addr) (c : Nat) (r : List Int) (lo hi : Nat) (w : World) (h : RI w lo hi A r) (_hl : r.length ≤ 9223372036854775807) :
    Calls Try.prog 130 #[.slice A r.length c] w fun e w' => e = .returned (.bool (Bs.roomOk r)) ∧ w = w' := by
  by_cases h3 : r.length = 3
  · have HV := Lib.hid (show Bs.roomOk r = r.all fun x => decide (4 ≤ x ∧ x ≤ 8) from by unfold Bs.roomOk; rw [h3]; rfl)
    rw [h3]
    go_enter Try.func130, Try.ntmps130
    go_wp2
    go_loop [10] (fun i => ∃ k : Nat, k ≤ 3 ∧ i = .int .i64 k ∧ (r.take k).all (fun x => decide (4 ≤ x ∧ x ≤ 8)) = true) (fun i => 3 - (intOf i).toNat)
    case atStart => exact ⟨0, Nat.zero_le _, rfl, by simp⟩
    case round =>
      obtain ⟨k, hk, rfl, hall⟩ := hrel
      by_cases hlt : k < 3
      · have hlt' : k < r.length := by omega
        obtain ⟨b, o, rfl, _, _, hc⟩ := h.at_ hlt'
        have HT := Lib.hid (Bs.all_take r (fun x => decide (4 ≤ x ∧ x ≤ 8)) k hlt')
        have HFA := Lib.hid (fun h => Bs.all_false_at (p := fun x => decide (4 ≤ x ∧ x ≤ 8)) hlt' h)
        have HA := Lib.hid hall
        have c1 := fun W => validPoolRoom_any r[k] W
        have i1 : (k : Int) < 3 := by omega
        have H3 := Lib.hid h3
        clear hall h3
        cases hd : decide (4 ≤ r[k] ∧ r[k] ≤ 8)
        · rw [hd] at c1
          have C1 := Lib.hid c1
          have HF2 := Lib.hid (HFA.out hd)
          clear c1 hd
          go_wp2_with (go_at_call 136; refine (C1.out _).mono ?_; rintro e w' ⟨rfl, rfl⟩)
          go_ret
          exact ⟨ret_bool (by rw [HV.out, HF2.out]), rfl⟩
        · rw [hd] at c1
          have C1 := Lib.hid c1
          have HD := Lib.hid hd
          clear c1 hd
          go_wp2_with (go_at_call 136; refine (C1.out _).mono ?_; rintro e w' ⟨rfl, rfl⟩)
          go_round
          case rel => exact ⟨k + 1, by omega, by go_num, by rw [HT.out, HA.out, HD.out]; rfl⟩
          case measure => simp [intOf]; omega
      · obtain rfl : k = 3 := by omega
        rw [show r.take 3 = r from List.take_of_length_le (by omega)] at hall
        have HA := Lib.hid hall
        clear hall
        go_wp2
        go_ret
        exact ⟨ret_bool (by rw [HV.out, HA.out]), rfl⟩
  · have hq : ((r.length : Int) != 3) = true := by rw [bne_iff_ne]; omega
    have HV := Lib.hid (show Bs.roomOk r = false from by unfold Bs.roomOk; simp [h3])
    clear h3
    go_enter Try.func130, Try.ntmps130
    go_wp2
    go_ret
    exact ⟨ret_bool HV.out.symm, rfl⟩
theorem ValidRoom_any (A : Option Addr) (c : Nat) (r : List Int) (lo hi : Nat) (w : World) (h : RI w lo hi A r) (_hh : hi ≤ w.heap.size) (hl : r.length ≤ 9223372036854775807) :
    Calls Try.prog 130 #[.slice A r.length c] w fun e w' => e = .returned (.bool (Bs.roomOk r)) ∧ Below w.heap.size w w' :=
  (ValidRoom_same A c r lo hi w h hl).mono fun _ _ ⟨h1, h2⟩ => ⟨h1, by rw [← h2]; exact Below.refl _ _⟩
end Go.Proofs.Yteelckhkcfokhaa
namespace Go.Proofs.Yteelckhkcfokhaa
open Go.RowKit
theorem used_list (g : List Bs.T) (r : List Int) (h : Bs.valid g = true) (h2 : Bs.inG g r = true) : Bs.usedL g r = [Bs.usedC g r 0, Bs.usedC g r 1, Bs.usedC g r 2] := by
  unfold Bs.usedL
  rw [h, h2]
  simp [List.range_succ]
end Go.Proofs.Yteelckhkcfokhaa
namespace Go.Proofs.Yteelckhkcfokhaa
open Go.RowKit
end Go.Proofs.Yteelckhkcfokhaa
namespace Go.Proofs.Yteelckhkcfokhaa
open Go.RowKit
theorem and_bits (a b : Bool) : (a && b) = (b && a) := Bool.and_comm a b
end Go.Proofs.Yteelckhkcfokhaa
namespace Go.Proofs.Yteelckhkcfokhaa
open Go.RowKit
theorem OI.far {w : World} {B : Nat} {A : Option Addr} {c : Nat} {l : List Int} (h : OI w B A c l) {p : Addr} (hp : p.block < B) (u : Value) : OI (w.setCell p u) B A c l := by
  refine ⟨h.1, ?_⟩
  rcases h.2 with hn | ⟨g, cap, cur, hv, h1, hg, rest⟩
  · exact .inl hn
  · exact .inr ⟨g, cap, cur, hv, h1, by rw [heap_setCell_other w p g u (by omega)]; exact hg, rest⟩
theorem adm_in {g : List Bs.T} {m r l : List Int} {wk : Int} (hr : ∀ x ∈ r, 0 ≤ x ∧ x < g.length) (hl : ∀ x ∈ l, 0 ≤ x ∧ x < g.length) (k : Nat) (hk : k ≤ l.length) : ∀ x ∈ r ++ Bs.admK g m r wk l k, 0 ≤ x ∧ x < g.length := by
  intro x hx
  rw [List.mem_append] at hx
  rcases hx with h | h
  · exact hr x h
  · exact hl x (List.mem_of_mem_take (Bs.adm_mem k hk x h))
theorem adm_units {g : List Bs.T} {m r l : List Int} {wk : Int} (hF : Bs.fine g = true) (hr : ∀ x ∈ r, 0 ≤ x ∧ x < g.length) (hl : ∀ x ∈ l, 0 ≤ x ∧ x < g.length) (hrl : r.length ≤ 8) (hll : l.length ≤ 8) (p : Int) (k : Nat) (hk : k ≤ l.length) : 0 ≤ Bs.usedC g (r ++ Bs.admK g m r wk l k) p ∧ Bs.usedC g (r ++ Bs.admK g m r wk l k) p ≤ 64 := by
  have h1 := used_bound hF (adm_in (m := m) (wk := wk) hr hl k hk) p _ (Nat.le_refl _)
  rw [List.take_length] at h1
  have h2 := Bs.admK_len g m r wk l k hk
  rw [List.length_append] at h1
  omega
theorem adm_next {g : List Bs.T} {r o : List Int} {v : Nat} (hv : v < g.length) (p : Int) : addIf g[v].pool p g[v].units (Bs.usedC g (r ++ o) p) = Bs.usedC g (r ++ (o ++ [(v : Int)])) p := by
  rw [unit_add hv, ← List.append_assoc, Bs.usedC_append g (r ++ o), Bs.usedC_one]
end Go.Proofs.Yteelckhkcfokhaa
