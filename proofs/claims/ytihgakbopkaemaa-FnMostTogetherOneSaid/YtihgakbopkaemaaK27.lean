/-
  MERGED TEXTS: W34 W35 W36 W37 W38 W39 W40.
-/
import Derived.Test.YtihgakbopkaemaaK7
import Derived.Test.YtihgakbopkaemaaK4
import Derived.Deep.RegionLaw
import Derived.Test.YtihgakbopkaemaaK11
namespace Go.Proofs.Ytihgakbopkaemaa
open Go.RowKit
/-- a counter as a value -/
def pcV (a b c n : Int) : Value := .agg #[.int .i64 a, .int .i64 b, .int .i64 c, .int .i64 n]
theorem Blk.far {w : World} {g : Nat} {t : TypeId} {cs : Array Value} (h : Blk w g t cs) {p : Addr} (hp : g ≠ p.block) (u : Value) : Blk (w.setCell p u) g t cs := (heap_setCell_other w p g u hp).trans h
theorem pc_block {W : World} {g : Nat} {z0 z1 z2 z3 : Value} (h : Blk W g 108 #[z0, z1, z2, z3]) (a b c n : Value) : Blk ((((W.setCell ⟨g, 0, none⟩ a).setCell ⟨g, 1, none⟩ b).setCell ⟨g, 2, none⟩ c).setCell ⟨g, 3, none⟩ n) g 108 #[a, b, c, n] := by
  have := (((h.set_ 0 a).set_ 1 b).set_ 2 c).set_ 3 n
  simpa using this
theorem pc_ret {fn : Func} {p : Tmp} (h : fn.results = #[.cell p 108]) (tmps : Array Value) (w : World) (g : Nat) (a b c n : Int) (hp : tmps.getD p undef = .pointer (some ⟨g, 0, none⟩)) (hg : Blk w g 108 #[.int .i64 a, .int .i64 b, .int .i64 c, .int .i64 n]) :
    (results fn tmps).run Try.prog w = .ok (pcV a b c n) w :=
  results_cell_row h tmps w g 108 _ (0, 0) _ hp hg Try.underlying108 rfl (by kernel_rfl)
theorem Blk.drew {w : World} {g : Nat} {t : TypeId} {cs : Array Value} (h : Blk w g t cs) : Blk w.drew g t cs := h
def addIf (p k u a : Int) : Int := a + (if p == k then u else 0)
set_option maxHeartbeats 1600000 in
theorem pcWith_any (a b c n t p u : Int) (N : Option Addr) (m cN : Nat) (w : World) (h0 : 0 ≤ p) (h2 : p ≤ 2) (ha : 0 ≤ a ∧ a ≤ 1000) (hb : 0 ≤ b ∧ b ≤ 1000) (hc : 0 ≤ c ∧ c ≤ 1000) (hn : 0 ≤ n ∧ n ≤ 1000) (hu : 0 ≤ u ∧ u ≤ 1000) :
    Calls Try.prog 104 #[.agg #[.int .i64 a, .int .i64 b, .int .i64 c, .int .i64 n], .agg #[.int .i64 t, .slice N m cN, .int .i64 p, .int .i64 u]] w fun e w' => e = .returned (pcV (addIf p 0 u a) (addIf p 1 u b) (addIf p 2 u c) (n + 1)) ∧ Below w.heap.size w w' := by
  have hx3 : w.heap.size + 1 + 1 ≠ w.heap.size := by omega
  have hp : p = 0 ∨ p = 1 ∨ p = 2 := by omega
  have b1 := Blk.new w 108 #[.int .i64 a, .int .i64 b, .int .i64 c, .int .i64 n]
  have s1 : (w.alloc (.cells #[.int .i64 a, .int .i64 b, .int .i64 c, .int .i64 n] 108)).heap.size = w.heap.size + 1 := by simp
  have b2 := Blk.new (w.alloc (.cells #[.int .i64 a, .int .i64 b, .int .i64 c, .int .i64 n] 108)) 35 #[.int .i64 t, .slice N m cN, .int .i64 p, .int .i64 u]
  rw [s1] at b2
  have b3 := Blk.new ((w.alloc (.cells #[.int .i64 a, .int .i64 b, .int .i64 c, .int .i64 n] 108)).alloc (.cells #[.int .i64 t, .slice N m cN, .int .i64 p, .int .i64 u] 35)) 108 #[.int .i64 0, .int .i64 0, .int .i64 0, .int .i64 0]
  rw [show ((w.alloc (.cells #[.int .i64 a, .int .i64 b, .int .i64 c, .int .i64 n] 108)).alloc (.cells #[.int .i64 t, .slice N m cN, .int .i64 p, .int .i64 u] 35)).heap.size = w.heap.size + 1 + 1 from by simp] at b3
  replace b1 := (b1.alloc (.cells #[.int .i64 t, .slice N m cN, .int .i64 p, .int .i64 u] 35)).alloc (.cells #[.int .i64 0, .int .i64 0, .int .i64 0, .int .i64 0] 108)
  replace b2 := b2.alloc (.cells #[.int .i64 0, .int .i64 0, .int .i64 0, .int .i64 0] 108)
  have hbl : Below w.heap.size w (((w.alloc (.cells #[.int .i64 a, .int .i64 b, .int .i64 c, .int .i64 n] 108)).alloc (.cells #[.int .i64 t, .slice N m cN, .int .i64 p, .int .i64 u] 35)).alloc (.cells #[.int .i64 0, .int .i64 0, .int .i64 0, .int .i64 0] 108)) := (((Below.refl _ _).alloc (Nat.le_refl _) _).alloc (by simp) _).alloc (by simp; omega) _
  have k0 : (World.cell? _ ⟨w.heap.size, 0, none⟩) = some (.int .i64 a) := b1.cell 0
  have k1 : (World.cell? _ ⟨w.heap.size, 1, none⟩) = some (.int .i64 b) := b1.cell 1
  have k2 : (World.cell? _ ⟨w.heap.size, 2, none⟩) = some (.int .i64 c) := b1.cell 2
  have k3 : (World.cell? _ ⟨w.heap.size, 3, none⟩) = some (.int .i64 n) := b1.cell 3
  have j2 : (World.cell? _ ⟨w.heap.size + 1, 2, none⟩) = some (.int .i64 p) := b2.cell 2
  have j3 : (World.cell? _ ⟨w.heap.size + 1, 3, none⟩) = some (.int .i64 u) := b2.cell 3
  have f0 := b1.frozen 0
  have f1 := b1.frozen 1
  have f2 := b1.frozen 2
  have f3 := b1.frozen 3
  have r0 := b3.frozen 0
  have r1 := b3.frozen 1
  have r2 := b3.frozen 2
  have r3 := b3.frozen 3
  have q0 : (World.cell? _ ⟨w.heap.size + 1 + 1, 0, none⟩) = some (.int .i64 0) := b3.cell 0
  have q1 : (World.cell? _ ⟨w.heap.size + 1 + 1, 1, none⟩) = some (.int .i64 0) := b3.cell 1
  have q2 : (World.cell? _ ⟨w.heap.size + 1 + 1, 2, none⟩) = some (.int .i64 0) := b3.cell 2
  have q3 : (World.cell? _ ⟨w.heap.size + 1 + 1, 3, none⟩) = some (.int .i64 0) := b3.cell 3
  have HB := Lib.hid hbl
  have B1 := Lib.hid b1
  have B3 := Lib.hid b3
  clear b1 b2 b3 hbl s1
  go_enter Try.func104, Try.ntmps104
  go_wp2_with fail
  generalize (((w.alloc (.cells #[.int .i64 a, .int .i64 b, .int .i64 c, .int .i64 n] 108)).alloc (.cells #[.int .i64 t, .slice N m cN, .int .i64 p, .int .i64 u] 35)).alloc (.cells #[.int .i64 0, .int .i64 0, .int .i64 0, .int .i64 0] 108)) = W at *
  rcases hp with rfl | rfl | rfl
  · go_region_law (fail)
    go_wp2
    all_goals refine bodyPost_ret (pc_ret rfl _ _ (w.heap.size + 1 + 1) (a + u) (b) (c) (n + 1) rfl (Blk.drew (pc_block ((B3.out.far hx3 _).far hx3 _) _ _ _ _))) rfl ⟨by simp [pcV, addIf], ?_⟩
    all_goals exact   (((((((HB.out.setCell (by exact Nat.le_refl _) _).setCell (by exact Nat.le_refl _) _).setCell (by show _ ≤ w.heap.size + 1 + 1; omega) _).setCell (by show _ ≤ w.heap.size + 1 + 1; omega) _).setCell (by show _ ≤ w.heap.size + 1 + 1; omega) _).setCell (by show _ ≤ w.heap.size + 1 + 1; omega) _).drewN 1)
  · go_region_law (fail)
    go_wp2
    all_goals refine bodyPost_ret (pc_ret rfl _ _ (w.heap.size + 1 + 1) (a) (b + u) (c) (n + 1) rfl (Blk.drew (pc_block ((B3.out.far hx3 _).far hx3 _) _ _ _ _))) rfl ⟨by simp [pcV, addIf], ?_⟩
    all_goals exact   (((((((HB.out.setCell (by exact Nat.le_refl _) _).setCell (by exact Nat.le_refl _) _).setCell (by show _ ≤ w.heap.size + 1 + 1; omega) _).setCell (by show _ ≤ w.heap.size + 1 + 1; omega) _).setCell (by show _ ≤ w.heap.size + 1 + 1; omega) _).setCell (by show _ ≤ w.heap.size + 1 + 1; omega) _).drewN 1)
  · go_region_law (fail)
    go_wp2
    all_goals refine bodyPost_ret (pc_ret rfl _ _ (w.heap.size + 1 + 1) (a) (b) (c + u) (n + 1) rfl (Blk.drew (pc_block ((B3.out.far hx3 _).far hx3 _) _ _ _ _))) rfl ⟨by simp [pcV, addIf], ?_⟩
    all_goals exact   (((((((HB.out.setCell (by exact Nat.le_refl _) _).setCell (by exact Nat.le_refl _) _).setCell (by show _ ≤ w.heap.size + 1 + 1; omega) _).setCell (by show _ ≤ w.heap.size + 1 + 1; omega) _).setCell (by show _ ≤ w.heap.size + 1 + 1; omega) _).setCell (by show _ ≤ w.heap.size + 1 + 1; omega) _).drewN 1)
end Go.Proofs.Ytihgakbopkaemaa
namespace Go.Proofs.Ytihgakbopkaemaa
open Go.RowKit
theorem usedC_take (g : List Bs.T) (r : List Int) (p : Int) (k : Nat) (hk : k < r.length) : Bs.usedC g (r.take (k + 1)) p = Bs.usedC g (r.take k) p + Bs.unitF g p r[k] := Bs.sumZ_take r (Bs.unitF g p) k hk
theorem used_bound {g : List Bs.T} {r : List Int} (hF : Bs.fine g = true) (hr : ∀ x ∈ r, 0 ≤ x ∧ x < g.length) (p : Int) : ∀ k, k ≤ r.length → 0 ≤ Bs.usedC g (r.take k) p ∧ Bs.usedC g (r.take k) p ≤ 4 * k := by
  intro k
  induction k with
  | zero => intro _; simp [Bs.usedC, Bs.sumZ]
  | succ k ih =>
    intro hk
    have h1 := ih (by omega)
    have hx := hr _ (List.getElem_mem (show k < r.length by omega))
    rw [usedC_take g r p k (by omega)]
    have ht := Bs.fine_task hF (i := r[k].toNat) (by omega)
    have : 0 ≤ Bs.unitF g p r[k] ∧ Bs.unitF g p r[k] ≤ 4 := by
      unfold Bs.unitF
      rw [Bs.units_at (by omega)]
      split <;> omega
    omega
theorem unit_add {g : List Bs.T} {v : Nat} (hv : v < g.length) (k a : Int) : addIf g[v].pool k g[v].units a = a + Bs.unitF g k (v : Int) := by
  unfold addIf Bs.unitF
  rw [Int.toNat_natCast, Bs.pool_at hv, Bs.units_at hv]
set_option maxHeartbeats 3200000 in
theorem countUnits_any (A : Option Addr) (c : Nat) (g : List Bs.T) (A' : Option Addr) (c' : Nat) (r : List Int) (lo hi lo' hi' : Nat) (w : World) (h : RG w lo hi A g) (hh : hi ≤ w.heap.size) (h' : RI w lo' hi' A' r) (hh' : hi' ≤ w.heap.size) (hF : Bs.fine g = true) (hr : ∀ x ∈ r, 0 ≤ x ∧ x < g.length) (hl : r.length ≤ 100) :
    Calls Try.prog 84 #[.slice A g.length c, .slice A' r.length c'] w fun e w' => e = .returned (pcV (Bs.usedC g r 0) (Bs.usedC g r 1) (Bs.usedC g r 2) r.length) ∧ Below w.heap.size w w' := by
  have hgl := Bs.fine_len hF
  have b3 := Blk.new w 108 #[.int .i64 0, .int .i64 0, .int .i64 0, .int .i64 0]
  have b4 := Blk.new (w.alloc (.cells #[.int .i64 0, .int .i64 0, .int .i64 0, .int .i64 0] 108)) 108 #[.int .i64 0, .int .i64 0, .int .i64 0, .int .i64 0]
  have b3 := b3.alloc (.cells #[.int .i64 0, .int .i64 0, .int .i64 0, .int .i64 0] 108)
  rw [show (w.alloc (.cells #[.int .i64 0, .int .i64 0, .int .i64 0, .int .i64 0] 108)).heap.size = w.heap.size + 1 from by simp] at b4
  have hbl : Below w.heap.size w ((w.alloc (.cells #[.int .i64 0, .int .i64 0, .int .i64 0, .int .i64 0] 108)).alloc (.cells #[.int .i64 0, .int .i64 0, .int .i64 0, .int .i64 0] 108)) := ((Below.refl _ _).alloc (Nat.le_refl _) _).alloc (by simp) _
  have HT := Lib.hid (fun i hi => Bs.fine_task hF (i := i) hi)
  have HR := Lib.hid hr
  have HUB := Lib.hid (fun p k hk => used_bound hF hr p k hk)
  have HUT := Lib.hid (fun p k hk => usedC_take g r p k hk)
  have HBL := Lib.hid hbl
  have HB3 := Lib.hid b3
  have HB4 := Lib.hid b4
  have HG := Lib.hid h
  have HI := Lib.hid h'
  clear b3 b4 hbl hF hr h h'
  go_enter Try.func84, Try.ntmps84
  go_wp2
  go_loopw [11] (fun i wr => ∃ (k : Nat) (x0 x1 x2 : Int), k ≤ r.length ∧ i = .int .i64 k ∧ x0 = Bs.usedC g (r.take k) 0 ∧ x1 = Bs.usedC g (r.take k) 1 ∧ x2 = Bs.usedC g (r.take k) 2 ∧ Blk wr (w.heap.size + 1) 108 #[.int .i64 x0, .int .i64 x1, .int .i64 x2, .int .i64 (k : Int)] ∧ Blk wr w.heap.size 108 #[.int .i64 0, .int .i64 0, .int .i64 0, .int .i64 0] ∧ Below w.heap.size w wr) (fun i _ => r.length - (intOf i).toNat)
  case atStart => exact ⟨0, 0, 0, 0, Nat.zero_le _, rfl, by simp [Bs.usedC, Bs.sumZ], by simp [Bs.usedC, Bs.sumZ], by simp [Bs.usedC, Bs.sumZ], HB4.out, HB3.out, HBL.out⟩
  case round =>
    obtain ⟨k, x0, x1, x2, hk, rfl, h0, h1, h2, hB4, hB3, hb⟩ := hrel
    have g0 := HUB.out 0 k hk
    have g1 := HUB.out 1 k hk
    have g2 := HUB.out 2 k hk
    rw [← h0] at g0
    rw [← h1] at g1
    rw [← h2] at g2
    have sr := hb.size
    have sb := hB4.lt
    by_cases hlt : k < r.length
    · obtain ⟨b, o, rfl, _, _, hc⟩ := (HI.out.below hb hh').at_ hlt
      have hx := HR.out _ (List.getElem_mem hlt)
      have t0 := HUT.out 0 k hlt
      have t1 := HUT.out 1 k hlt
      have t2 := HUT.out 2 k hlt
      rw [← h0] at t0
      rw [← h1] at t1
      rw [← h2] at t2
      obtain ⟨v, hv⟩ : ∃ v : Nat, r[k] = (v : Int) := ⟨r[k].toNat, by omega⟩
      rw [hv] at hc hx t0 t1 t2
      have hvl : v < g.length := by omega
      rw [← unit_add hvl] at t0 t1 t2
      have hu := HT.out v hvl
      obtain ⟨bg, og, N, cN, rfl, _, hgh, q0, q1, q2, q3, hlN, hcN, hN⟩ := (HG.out.below hb hh) v hvl
      have c1 := fun W => pcWith_any x0 x1 x2 (k : Int) g[v].time g[v].pool g[v].units N g[v].needs.length cN W hu.1 hu.2.1 (by omega) (by omega) (by omega) (by omega) (by omega)
      unfold pcV at c1
      have C1 := Lib.hid c1
      have k0 : wr.cell? ⟨w.heap.size + 1, 0, none⟩ = some (.int .i64 x0) := hB4.cell 0
      have k1 : wr.cell? ⟨w.heap.size + 1, 1, none⟩ = some (.int .i64 x1) := hB4.cell 1
      have k2 : wr.cell? ⟨w.heap.size + 1, 2, none⟩ = some (.int .i64 x2) := hB4.cell 2
      have k3 : wr.cell? ⟨w.heap.size + 1, 3, none⟩ = some (.int .i64 (k : Int)) := hB4.cell 3
      have H4 := Lib.hid hB4
      have H3 := Lib.hid hB3
      have HB := Lib.hid hb
      have T0 := Lib.hid t0
      have T1 := Lib.hid t1
      have T2 := Lib.hid t2
      have HX := Lib.hid (And.intro h0 (And.intro h1 h2))
      have i0 : (0 : Int) ≤ (v : Int) := by omega
      have i1 : (v : Int) < (g.length : Int) := by omega
      clear c1 hB4 hB3 hb t0 t1 t2 h0 h1 h2 hN hv
      generalize addIf g[v].pool 0 g[v].units x0 = y0 at *
      generalize addIf g[v].pool 1 g[v].units x1 = y1 at *
      generalize addIf g[v].pool 2 g[v].units x2 = y2 at *
      go_wp2_with fail
      go_region_law (go_simp; go_loud (go_at_call 104; (with_reducible refine ((C1.out _)).mono ?_); rintro e w5 ⟨rfl, hb5⟩; have s5 : wr.heap.size ≤ w5.heap.size := hb5.size; have e0 := ((H4.out.drewN 1).below hb5 (show w.heap.size + 1 < wr.heap.size from sb)).cell 0; have e1 := ((H4.out.drewN 1).below hb5 (show w.heap.size + 1 < wr.heap.size from sb)).cell 1; have e2 := ((H4.out.drewN 1).below hb5 (show w.heap.size + 1 < wr.heap.size from sb)).cell 2; have e3 := ((H4.out.drewN 1).below hb5 (show w.heap.size + 1 < wr.heap.size from sb)).cell 3; have e4 := ((H4.out.drewN 1).below hb5 (show w.heap.size + 1 < wr.heap.size from sb)).frozen 0; have e5 := ((H4.out.drewN 1).below hb5 (show w.heap.size + 1 < wr.heap.size from sb)).frozen 1; have e6 := ((H4.out.drewN 1).below hb5 (show w.heap.size + 1 < wr.heap.size from sb)).frozen 2; have e7 := ((H4.out.drewN 1).below hb5 (show w.heap.size + 1 < wr.heap.size from sb)).frozen 3; have HB5 := Lib.hid hb5; clear hb5))
      all_goals
        have hB5 : Below w.heap.size w w5 := HB.out.trans ((((Below.refl _ wr).drewN 1).trans HB5.out).mono sr)
        have hP5 := pc_block (((H4.out.drewN 1).below HB5.out (show w.heap.size + 1 < wr.heap.size from sb))) (.int .i64 y0) (.int .i64 y1) (.int .i64 y2) (.int .i64 ((k : Int) + 1))
        have hQ5 := (((((H3.out.drewN 1).below HB5.out (show w.heap.size < wr.heap.size by omega)).far (p := ⟨w.heap.size + 1, 0, none⟩) (by show _ ≠ w.heap.size + 1; omega) (.int .i64 y0)).far (p := ⟨w.heap.size + 1, 1, none⟩) (by show _ ≠ w.heap.size + 1; omega) (.int .i64 y1)).far (p := ⟨w.heap.size + 1, 2, none⟩) (by show _ ≠ w.heap.size + 1; omega) (.int .i64 y2)).far (p := ⟨w.heap.size + 1, 3, none⟩) (by show _ ≠ w.heap.size + 1; omega) (.int .i64 ((k : Int) + 1))
        have hR5 := (((hB5.setCell (p := ⟨w.heap.size + 1, 0, none⟩) (by show _ ≤ w.heap.size + 1; omega) (.int .i64 y0)).setCell (p := ⟨w.heap.size + 1, 1, none⟩) (by show _ ≤ w.heap.size + 1; omega) (.int .i64 y1)).setCell (p := ⟨w.heap.size + 1, 2, none⟩) (by show _ ≤ w.heap.size + 1; omega) (.int .i64 y2)).setCell (p := ⟨w.heap.size + 1, 3, none⟩) (by show _ ≤ w.heap.size + 1; omega) (.int .i64 ((k : Int) + 1))
        have HP5 := Lib.hid hP5
        have HQ5 := Lib.hid hQ5
        have HR5 := Lib.hid hR5
        clear hB5 hP5 hQ5 hR5 e0 e1 e2 e3 e4 e5 e6 e7 k0 k1 k2 k3 q0 q1 q2 q3 hc
        go_wp2
        go_roundw
        case rel => exact ⟨k + 1, y0, y1, y2, by omega, by go_num, T0.out.symm, T1.out.symm, T2.out.symm, HP5.out, HQ5.out, HR5.out⟩
        case measure => simp [intOf]; omega
    · obtain rfl : k = r.length := by omega
      rw [List.take_length] at h0 h1 h2
      have k0 : wr.cell? ⟨w.heap.size + 1, 0, none⟩ = some (.int .i64 x0) := hB4.cell 0
      have k1 : wr.cell? ⟨w.heap.size + 1, 1, none⟩ = some (.int .i64 x1) := hB4.cell 1
      have k2 : wr.cell? ⟨w.heap.size + 1, 2, none⟩ = some (.int .i64 x2) := hB4.cell 2
      have k3 : wr.cell? ⟨w.heap.size + 1, 3, none⟩ = some (.int .i64 (r.length : Int)) := hB4.cell 3
      have j0 : wr.cell? ⟨w.heap.size, 0, none⟩ = some (.int .i64 0) := hB3.cell 0
      have j1 : wr.cell? ⟨w.heap.size, 1, none⟩ = some (.int .i64 0) := hB3.cell 1
      have j2 : wr.cell? ⟨w.heap.size, 2, none⟩ = some (.int .i64 0) := hB3.cell 2
      have j3 : wr.cell? ⟨w.heap.size, 3, none⟩ = some (.int .i64 0) := hB3.cell 3
      have f0 := hB3.frozen 0
      have f1 := hB3.frozen 1
      have f2 := hB3.frozen 2
      have f3 := hB3.frozen 3
      have HP := Lib.hid (pc_block hB3 (.int .i64 x0) (.int .i64 x1) (.int .i64 x2) (.int .i64 (r.length : Int)))
      have HR5 := Lib.hid ((((hb.setCell (p := ⟨w.heap.size, 0, none⟩) (Nat.le_refl _) (.int .i64 x0)).setCell (p := ⟨w.heap.size, 1, none⟩) (Nat.le_refl _) (.int .i64 x1)).setCell (p := ⟨w.heap.size, 2, none⟩) (Nat.le_refl _) (.int .i64 x2)).setCell (p := ⟨w.heap.size, 3, none⟩) (Nat.le_refl _) (.int .i64 (r.length : Int)))
      have HX := Lib.hid (And.intro h0 (And.intro h1 h2))
      clear hB3 hB4 hb h0 h1 h2
      go_wp2
      refine bodyPost_ret (pc_ret rfl _ _ w.heap.size x0 x1 x2 r.length rfl HP.out) rfl ⟨?_, HR5.out⟩
      rw [HX.out.1, HX.out.2.1, HX.out.2.2]
end Go.Proofs.Ytihgakbopkaemaa
namespace Go.Proofs.Ytihgakbopkaemaa
open Go.RowKit
def fit3 (x0 x1 x2 : Int) (m : List Int) : Bool := decide (x0 ≤ Bs.giZ m 0) && decide (x1 ≤ Bs.giZ m 1) && decide (x2 ≤ Bs.giZ m 2)
theorem fits_eq (g : List Bs.T) (m r : List Int) : Bs.fitsC g m r = fit3 (Bs.usedC g r 0) (Bs.usedC g r 1) (Bs.usedC g r 2) m := by
  unfold Bs.fitsC fit3
  simp [List.range_succ, Bool.and_assoc]
theorem idx3 (x0 x1 x2 : Int) (k : Nat) (hk : k < 3) (w : World) : (Instr.index 106 (.agg #[.int .i64 x0, .int .i64 x1, .int .i64 x2]) (.int .i64 (k : Int))).run Try.prog w = .ok (.int .i64 (if k = 0 then x0 else if k = 1 then x1 else x2)) w := by
  have hk3 : k = 0 ∨ k = 1 ∨ k = 2 := by omega
  rcases hk3 with rfl | rfl | rfl
  all_goals simp [Instr.index, run_underlying Try.underlying106, asIntOf, go_sem]
  all_goals rfl
theorem field_pc (a b c n : Value) (W : World) : (Instr.field 108 (.agg #[a, b, c, n]) 0).run Try.prog W = .ok (.agg #[a, b, c]) W := by
  simp [Instr.field, run_underlying Try.underlying108, asAgg, part, Sem.run_bind]
set_option maxHeartbeats 1600000 in
theorem fits_any (x0 x1 x2 n : Int) (A : Option Addr) (c : Nat) (m : List Int) (lo hi : Nat) (w : World) (h : RI w lo hi A m) (hh : hi ≤ w.heap.size) (h3 : m.length = 3) :
    Calls Try.prog 85 #[.agg #[.int .i64 x0, .int .i64 x1, .int .i64 x2, .int .i64 n], .slice A m.length c] w fun e w' => e = .returned (.bool (fit3 x0 x1 x2 m)) ∧ Below w.heap.size w w' := by
  have hb : Below w.heap.size w (w.alloc (.cells #[.int .i64 x0, .int .i64 x1, .int .i64 x2, .int .i64 n] 108)) := (Below.refl _ _).alloc (Nat.le_refl _) _
  have hr := h.below hb hh
  have b1 := Blk.new w 108 #[.int .i64 x0, .int .i64 x1, .int .i64 x2, .int .i64 n]
  obtain ⟨b, o, rfl, _, _, c0⟩ := hr.at_ (show 0 < m.length by omega)
  obtain ⟨b', o', e, _, _, c1⟩ := hr.at_ (show 1 < m.length by omega)
  cases e
  obtain ⟨b', o', e, _, _, c2⟩ := hr.at_ (show 2 < m.length by omega)
  cases e
  rw [← Bs.giZ_at] at c0 c1 c2
  simp only [Nat.add_zero] at c0
  have HF := Lib.hid (show fit3 x0 x1 x2 m = (decide (x0 ≤ Bs.giZ m 0) && decide (x1 ≤ Bs.giZ m 1) && decide (x2 ≤ Bs.giZ m 2)) from rfl)
  have HB := Lib.hid hb
  generalize Bs.giZ m 0 = m0 at *
  generalize Bs.giZ m 1 = m1 at *
  generalize Bs.giZ m 2 = m2 at *
  clear hr h hb
  have ix0 : ∀ W, (Instr.index 106 (.agg #[.int .i64 x0, .int .i64 x1, .int .i64 x2]) (.int .i64 0)).run Try.prog W = .ok (.int .i64 x0) W := fun W => idx3 x0 x1 x2 0 (by omega) W
  have ix1 : ∀ W, (Instr.index 106 (.agg #[.int .i64 x0, .int .i64 x1, .int .i64 x2]) (.int .i64 1)).run Try.prog W = .ok (.int .i64 x1) W := fun W => idx3 x0 x1 x2 1 (by omega) W
  have ix2 : ∀ W, (Instr.index 106 (.agg #[.int .i64 x0, .int .i64 x1, .int .i64 x2]) (.int .i64 2)).run Try.prog W = .ok (.int .i64 x2) W := fun W => idx3 x0 x1 x2 2 (by omega) W
  have l0 : (0 : Int) < (m.length : Int) := by omega
  have l1 : (1 : Int) < (m.length : Int) := by omega
  have l2 : (2 : Int) < (m.length : Int) := by omega
  go_enter Try.func85, Try.ntmps85
  go_wp2
  go_loop [9] (fun i => ∃ k : Nat, k ≤ 3 ∧ i = .int .i64 k ∧ (0 < k → x0 ≤ m0) ∧ (1 < k → x1 ≤ m1) ∧ (2 < k → x2 ≤ m2)) (fun i => 3 - (intOf i).toNat)
  case atStart => exact ⟨0, by omega, rfl, by omega, by omega, by omega⟩
  case round =>
    obtain ⟨k, hk, rfl, g0, g1, g2⟩ := hrel
    have hk4 : k = 0 ∨ k = 1 ∨ k = 2 ∨ k = 3 := by omega
    rcases hk4 with rfl | rfl | rfl | rfl
    · by_cases hc : x0 ≤ m0
      · have hd : decide (m0 < x0) = false := by simp; omega
        have hd2 : ¬ m0 < x0 := by omega
        go_wp2
        go_round
        case rel => exact ⟨1, by omega, rfl, by omega, by omega, by omega⟩
        case measure => simp [intOf]
      · go_wp2
        go_ret
        exact ⟨ret_bool (by rw [HF.out]; simp; omega), HB.out⟩
    · have g0 := g0 (by omega)
      by_cases hc : x1 ≤ m1
      · have hd : decide (m1 < x1) = false := by simp; omega
        have hd2 : ¬ m1 < x1 := by omega
        go_wp2
        go_round
        case rel => exact ⟨2, by omega, rfl, by omega, by omega, by omega⟩
        case measure => simp [intOf]
      · go_wp2
        go_ret
        exact ⟨ret_bool (by rw [HF.out]; simp; omega), HB.out⟩
    · have g0 := g0 (by omega)
      have g1 := g1 (by omega)
      by_cases hc : x2 ≤ m2
      · have hd : decide (m2 < x2) = false := by simp; omega
        have hd2 : ¬ m2 < x2 := by omega
        go_wp2
        go_round
        case rel => exact ⟨3, by omega, rfl, by omega, by omega, by omega⟩
        case measure => simp [intOf]
      · go_wp2
        go_ret
        exact ⟨ret_bool (by rw [HF.out]; simp; omega), HB.out⟩
    · have g0 := g0 (by omega)
      have g1 := g1 (by omega)
      have g2 := g2 (by omega)
      go_wp2
      go_ret
      exact ⟨ret_bool (by rw [HF.out]; simp; omega), HB.out⟩
theorem validPoolRoom_any (n : Int) (w : World) : Calls Try.prog 103 #[.int .i64 n] w fun e w' => e = .returned (.bool (decide (4 ≤ n ∧ n ≤ 8))) ∧ w = w' := by
  go_enter Try.func103, Try.ntmps103
  go_wp2
  all_goals go_ret
  all_goals exact ⟨ret_bool (by simp; try omega), rfl⟩
theorem validWorkers_any (n : Int) (w : World) : Calls Try.prog 83 #[.int .i64 n] w fun e w' => e = .returned (.bool (decide (1 ≤ n ∧ n ≤ 4))) ∧ w = w' := by
  go_enter Try.func83, Try.ntmps83
  go_wp2
  all_goals go_ret
  all_goals exact ⟨ret_bool (by simp; try omega), rfl⟩
set_option maxHeartbeats 1600000 in
theorem ValidRoom_same (A : Option Addr) (c : Nat) (r : List Int) (lo hi : Nat) (w : World) (h : RI w lo hi A r) (_hl : r.length ≤ 9223372036854775807) :
    Calls Try.prog 82 #[.slice A r.length c] w fun e w' => e = .returned (.bool (Bs.roomOk r)) ∧ w = w' := by
  by_cases h3 : r.length = 3
  · have HV := Lib.hid (show Bs.roomOk r = r.all fun x => decide (4 ≤ x ∧ x ≤ 8) from by unfold Bs.roomOk; rw [h3]; rfl)
    rw [h3]
    go_enter Try.func82, Try.ntmps82
    go_wp2
    go_loop [10] (fun i => ∃ k : Nat, k ≤ 3 ∧ i = .int .i64 k ∧ (r.take k).all (fun x => decide (4 ≤ x ∧ x ≤ 8)) = true) (fun i => 3 - (intOf i).toNat)
    case atStart => exact ⟨0, Nat.zero_le _, rfl, by simp⟩
    case round =>
      obtain ⟨k, hk, rfl, hall⟩ := hrel
      by_cases hlt : k < 3
      · have hlt' : k < r.length := by omega
        obtain ⟨b, o, rfl, _, _, hc⟩ := h.at_ hlt'
        have HT := Lib.hid (Bs.all_take r (fun x => decide (4 ≤ x ∧ x ≤ 8)) k hlt')
        have HFA := Lib.hid (fun h => Bs.all_false_at (p := fun x => decide (4 ≤ x ∧ x ≤ 8)) hlt' h)
        have HA := Lib.hid hall
        have c1 := fun W => validPoolRoom_any r[k] W
        have i1 : (k : Int) < 3 := by omega
        have H3 := Lib.hid h3
        clear hall h3
        cases hd : decide (4 ≤ r[k] ∧ r[k] ≤ 8)
        · rw [hd] at c1
          have C1 := Lib.hid c1
          have HF2 := Lib.hid (HFA.out hd)
          clear c1 hd
          go_wp2_with (go_at_call 103; refine (C1.out _).mono ?_; rintro e w' ⟨rfl, rfl⟩)
          go_ret
          exact ⟨ret_bool (by rw [HV.out, HF2.out]), rfl⟩
        · rw [hd] at c1
          have C1 := Lib.hid c1
          have HD := Lib.hid hd
          clear c1 hd
          go_wp2_with (go_at_call 103; refine (C1.out _).mono ?_; rintro e w' ⟨rfl, rfl⟩)
          go_round
          case rel => exact ⟨k + 1, by omega, by go_num, by rw [HT.out, HA.out, HD.out]; rfl⟩
          case measure => simp [intOf]; omega
      · obtain rfl : k = 3 := by omega
        rw [show r.take 3 = r from List.take_of_length_le (by omega)] at hall
        have HA := Lib.hid hall
        clear hall
        go_wp2
        go_ret
        exact ⟨ret_bool (by rw [HV.out, HA.out]), rfl⟩
  · have hq : ((r.length : Int) != 3) = true := by rw [bne_iff_ne]; omega
    have HV := Lib.hid (show Bs.roomOk r = false from by unfold Bs.roomOk; simp [h3])
    clear h3
    go_enter Try.func82, Try.ntmps82
    go_wp2
    go_ret
    exact ⟨ret_bool HV.out.symm, rfl⟩
theorem ValidRoom_any (A : Option Addr) (c : Nat) (r : List Int) (lo hi : Nat) (w : World) (h : RI w lo hi A r) (_hh : hi ≤ w.heap.size) (hl : r.length ≤ 9223372036854775807) :
    Calls Try.prog 82 #[.slice A r.length c] w fun e w' => e = .returned (.bool (Bs.roomOk r)) ∧ Below w.heap.size w w' :=
  (ValidRoom_same A c r lo hi w h hl).mono fun _ _ ⟨h1, h2⟩ => ⟨h1, by rw [← h2]; exact Below.refl _ _⟩
end Go.Proofs.Ytihgakbopkaemaa
namespace Go.Proofs.Ytihgakbopkaemaa
open Go.RowKit
theorem used_list (g : List Bs.T) (r : List Int) (h : Bs.valid g = true) (h2 : Bs.inG g r = true) : Bs.usedL g r = [Bs.usedC g r 0, Bs.usedC g r 1, Bs.usedC g r 2] := by
  unfold Bs.usedL
  rw [h, h2]
  simp [List.range_succ]
set_option maxHeartbeats 1600000 in
theorem RunsTogether_any (A : Option Addr) (c : Nat) (g : List Bs.T) (A1 : Option Addr) (c1 : Nat) (m : List Int) (A' : Option Addr) (c' : Nat) (r : List Int) (lo hi l1 h1 lo' hi' : Nat) (w : World) (h : RG w lo hi A g) (hh : hi ≤ w.heap.size) (hm : RI w l1 h1 A1 m) (hh1 : h1 ≤ w.heap.size) (h' : RI w lo' hi' A' r) (hh' : hi' ≤ w.heap.size) (hl : g.length ≤ 9223372036854775807) (hml : m.length ≤ 9223372036854775807) (hr : r.length ≤ 9223372036854775807) :
    Calls Try.prog 109 #[.slice A g.length c, .slice A1 m.length c1, .slice A' r.length c'] w fun e w' => e = .returned (.bool (Bs.runOk g m r)) ∧ Below w.heap.size w w' := by
  have q1 := ValidGraph_any A c g lo hi w h hh hl
  cases hv : Bs.valid g
  · rw [hv] at q1
    have C1 := Lib.hid q1
    have HV := Lib.hid (runOk_no1 (m := m) (r := r) hv)
    clear q1 hv h h' hm
    go_enter Try.func109, Try.ntmps109
    go_wp2_with fail
    refine (C1.out).mono ?_
    rintro e w1 ⟨rfl, hb⟩
    have HB := Lib.hid hb
    clear hb
    go_wp2
    go_ret
    exact ⟨ret_bool HV.out.symm, HB.out⟩
  · have hF := valid_fine hv
    have h8 := Bs.fine_len hF
    have q2 := fun W (hb : Below w.heap.size w W) => ValidRoom_same A1 c1 m l1 h1 W (hm.below hb hh1) hml
    have q3 := fun W (hb : Below w.heap.size w W) => ascendingTasks_any A g.length c A' c' r lo' hi' W (by omega) (h'.below hb hh') hr
    rw [asc_flip] at q3
    rw [hv] at q1
    have C1 := Lib.hid q1
    cases hok : Bs.roomOk m
    · rw [hok] at q2
      have C2 := Lib.hid q2
      have HV := Lib.hid (runOk_no2 (g := g) (r := r) hok)
      clear q1 q2 q3 hv h h' hm hok
      go_enter Try.func109, Try.ntmps109
      go_wp2_with fail
      refine (C1.out).mono ?_
      rintro e w1 ⟨rfl, hb⟩
      have HB := Lib.hid hb
      clear hb
      go_wp2_with fail
      refine (C2.out _ HB.out).mono ?_
      rintro e w2 ⟨rfl, rfl⟩
      go_wp2
      go_ret
      exact ⟨ret_bool HV.out.symm, HB.out⟩
    · rw [hok] at q2
      have C2 := Lib.hid q2
      cases ha : Bs.inG g r
      · rw [ha] at q3
        have C3 := Lib.hid q3
        have HV := Lib.hid (runOk_no3 (m := m) ha)
        clear q1 q2 q3 hv h h' hm hok ha
        go_enter Try.func109, Try.ntmps109
        go_wp2_with fail
        refine (C1.out).mono ?_
        rintro e w1 ⟨rfl, hb⟩
        have HB := Lib.hid hb
        clear hb
        go_wp2_with fail
        refine (C2.out _ HB.out).mono ?_
        rintro e w2 ⟨rfl, rfl⟩
        go_wp2_with fail
        refine (C3.out _ HB.out).mono ?_
        rintro e w2 ⟨rfl, rfl⟩
        go_wp2
        go_ret
        exact ⟨ret_bool HV.out.symm, HB.out⟩
      · rw [ha] at q3
        have C3 := Lib.hid q3
        have hrl := Bs.inG_len ha
        have hm3 := Bs.roomOk_len hok
        have q4 := fun W (hb : Below w.heap.size w W) => countUnits_any A c g A' c' r lo hi lo' hi' W (h.below hb hh) (Nat.le_trans hh hb.size) (h'.below hb hh') (Nat.le_trans hh' hb.size) hF (Bs.inG_mem ha) (by omega)
        have HV := Lib.hid (show Bs.runOk g m r = fit3 (Bs.usedC g r 0) (Bs.usedC g r 1) (Bs.usedC g r 2) m from by rw [runOk_at hv hok ha, fits_eq])
        have C5 := Lib.hid (fun (x0 x1 x2 n : Int) W (hb : Below w.heap.size w W) => fits_any x0 x1 x2 n A1 c1 m l1 h1 W (hm.below hb hh1) (Nat.le_trans hh1 hb.size) hm3)
        unfold pcV at q4
        have C4 := Lib.hid q4
        generalize Bs.usedC g r 0 = x0 at *
        generalize Bs.usedC g r 1 = x1 at *
        generalize Bs.usedC g r 2 = x2 at *
        clear q1 q2 q3 q4 hv h h' hm hok ha hF hm3
        go_enter Try.func109, Try.ntmps109
        go_wp2_with fail
        refine (C1.out).mono ?_
        rintro e w1 ⟨rfl, hb⟩
        have HB := Lib.hid hb
        clear hb
        go_wp2_with fail
        refine (C2.out _ HB.out).mono ?_
        rintro e w2 ⟨rfl, rfl⟩
        go_wp2_with fail
        refine (C3.out _ HB.out).mono ?_
        rintro e w2 ⟨rfl, rfl⟩
        go_wp2_with fail
        refine (C4.out _ HB.out).mono ?_
        rintro e w2 ⟨rfl, hb2⟩
        have HB2 := Lib.hid (HB.out.trans (hb2.mono HB.out.size))
        clear hb2
        go_wp2_with fail
        refine (C5.out _ _ _ _ _ HB2.out).mono ?_
        rintro e w3 ⟨rfl, hb3⟩
        have HB3 := Lib.hid (HB2.out.trans (hb3.mono HB2.out.size))
        clear hb3
        go_wp2
        go_ret
        exact ⟨ret_bool HV.out.symm, HB3.out⟩
end Go.Proofs.Ytihgakbopkaemaa
namespace Go.Proofs.Ytihgakbopkaemaa
open Go.RowKit
end Go.Proofs.Ytihgakbopkaemaa
namespace Go.Proofs.Ytihgakbopkaemaa
open Go.RowKit
theorem and_bits (a b : Bool) : (a && b) = (b && a) := Bool.and_comm a b
set_option maxHeartbeats 1600000 in
theorem idleTasks_any (A : Option Addr) (n c : Nat) (A1 : Option Addr) (c1 : Nat) (r : List Int) (A2 : Option Addr) (c2 : Nat) (l : List Int) (l1 h1 l2 h2 : Nat) (w : World) (hr : RI w l1 h1 A1 r) (hl : RI w l2 h2 A2 l) (hn : n ≤ 8) (hrr : ∀ x ∈ r, 0 ≤ x ∧ x < n) (hrl : r.length ≤ 100) (hll : l.length ≤ 9223372036854775807) :
    Calls Try.prog 110 #[.slice A n c, .slice A1 r.length c1, .slice A2 l.length c2] w fun e w' => e = .returned (.bool (Bs.allInB l 0 ((n : Int) - 1) && Bs.idleB r l l.length)) ∧ w = w' := by
  have C1 := Lib.hid (setOf_any A1 c1 r l1 h1 w hr (by omega) (fun x hx => by have := hrr x hx; omega))
  have HR := Lib.hid hrr
  clear hrr hr
  go_enter Try.func110, Try.ntmps110
  go_wp2_with fail
  refine (C1.out).mono ?_
  rintro e w1 ⟨rfl, rfl⟩
  go_wp2
  go_loop [7, 14] (fun s i => ∃ k : Nat, k ≤ l.length ∧ i = .int .i64 k ∧ s = .int .u64 (Bs.bits (r ++ l.take k) : Nat) ∧ Bs.idleB r l k = true ∧ (∀ x ∈ l.take k, 0 ≤ x ∧ x < n)) (fun _ i => l.length - (intOf i).toNat)
  case atStart => exact ⟨0, Nat.zero_le _, rfl, by simp, rfl, by simp⟩
  case round =>
    obtain ⟨k, hk, rfl, rfl, hid, hx⟩ := hrel
    have h8 : ∀ x ∈ r ++ l.take k, 0 ≤ x ∧ x < 8 := by
      intro x hx'
      rw [List.mem_append] at hx'
      rcases hx' with h | h
      · have := HR.out x h; omega
      · have := hx x h; omega
    by_cases hlt : k < l.length
    · obtain ⟨b, o, rfl, _, _, hc⟩ := hl.at_ hlt
      have c3 := fun W => isTask_any A n c l[k] W (by omega)
      have hgz := Bs.giZ_at hlt
      have HX := Lib.hid hx
      have H8 := Lib.hid h8
      have HI := Lib.hid hid
      have hs := Bs.bits_lt _ h8
      clear hx h8 hid
      cases ht : decide (0 ≤ l[k] ∧ l[k] < (n : Int))
      · rw [ht] at c3
        have C3 := Lib.hid c3
        have HF := Lib.hid (show Bs.allInB l 0 ((n : Int) - 1) = false from Bs.all_false_at hlt (by rw [decide_eq_false_iff_not] at ht ⊢; omega))
        clear c3 ht
        generalize Bs.bits (r ++ l.take k) = D at *
        go_wp2_with fail
        refine (C3.out _).mono ?_
        rintro e w2 ⟨rfl, rfl⟩
        go_wp2
        go_ret
        exact ⟨ret_bool (by rw [HF.out]; rfl), rfl⟩
      · rw [ht] at c3
        rw [decide_eq_true_eq] at ht
        obtain ⟨v, hv⟩ : ∃ v : Nat, l[k] = (v : Int) := ⟨l[k].toNat, by omega⟩
        rw [hv] at c3 hc hgz ht
        have hv8 : v < 8 := by omega
        have c4 := fun W => hasTask_any (Bs.bits (r ++ l.take k)) v W hs hv8
        have hb := Bs.bits_test (r ++ l.take k) (fun x hx => (H8.out x hx).1) v
        rw [hb] at c4
        have hS : Bs.bits (r ++ l.take (k + 1)) = Bs.bits (r ++ l.take k) ||| (1 <<< v) := by
          rw [List.take_succ_eq_append_getElem hlt, ← List.append_assoc, Bs.bits_snoc, hv, Int.toNat_natCast]
        have hor := or_pow (Bs.bits (r ++ l.take k)) v hs hv8
        have hct : (r ++ l.take k).contains (v : Int) = (r.contains (v : Int) || (l.take k).contains (v : Int)) := by
          rw [Bool.eq_iff_iff, Bool.or_eq_true]
          simp only [Bs.contains_iff', List.mem_append]
        have hsu := Bs.idleB_succ r l k
        have hno := fun h => Bs.idleB_no (r := r) (l := l) hlt h
        rw [hgz] at hsu hno
        have HXX := Lib.hid (show ∀ x ∈ l.take (k + 1), 0 ≤ x ∧ x < n from by
          intro x hx
          rw [List.take_succ_eq_append_getElem hlt, List.mem_append, List.mem_singleton] at hx
          rcases hx with hx | hx
          · exact HX.out x hx
          · rw [hx, hv]; omega)
        cases hq : (r ++ l.take k).contains (v : Int)
        · rw [hq] at c4
          have C3 := Lib.hid c3
          have C4 := Lib.hid c4
          have HQ := Lib.hid (show Bs.idleB r l (k + 1) = true from by
            rw [hsu, HI.out]
            rw [hq] at hct
            have h5 := hct.symm
            rw [Bool.or_eq_false_iff] at h5
            rw [h5.1, h5.2]
            rfl)
          have HS := Lib.hid hS
          have HO := Lib.hid hor
          clear c3 c4 hb hS hor hct hsu hno hq hgz hv
          generalize Bs.bits (r ++ l.take k) = D at *
          go_wp2_with fail
          refine (C3.out _).mono ?_
          rintro e w2 ⟨rfl, rfl⟩
          go_wp2_with fail
          refine (C4.out _).mono ?_
          rintro e w2 ⟨rfl, rfl⟩
          go_wp2
          go_round
          case rel => exact ⟨k + 1, by omega, by go_num, by rw [HS.out, ← HO.out], HQ.out, HXX.out⟩
          case measure => simp [intOf]; omega
        · rw [hq] at c4
          have C3 := Lib.hid c3
          have C4 := Lib.hid c4
          have HF := Lib.hid (show Bs.idleB r l l.length = false from hno (by
            rw [hq] at hct
            have h5 := hct.symm
            rw [Bool.or_eq_true] at h5
            rcases h5 with h5 | h5
            · rw [h5]; rfl
            · rw [h5]; simp))
          clear c3 c4 hb hS hor hct hsu hno hq hgz hv
          generalize Bs.bits (r ++ l.take k) = D at *
          go_wp2_with fail
          refine (C3.out _).mono ?_
          rintro e w2 ⟨rfl, rfl⟩
          go_wp2_with fail
          refine (C4.out _).mono ?_
          rintro e w2 ⟨rfl, rfl⟩
          go_wp2
          go_ret
          exact ⟨ret_bool (by rw [HF.out]; simp), rfl⟩
    · obtain rfl : k = l.length := by omega
      rw [List.take_length] at hx
      have HA := Lib.hid (show Bs.allInB l 0 ((n : Int) - 1) = true from by
        unfold Bs.allInB
        rw [List.all_eq_true]
        intro x hx'
        have := hx x hx'
        rw [decide_eq_true_eq]
        omega)
      have HI := Lib.hid hid
      clear hx hid h8
      go_wp2
      go_ret
      exact ⟨ret_bool (by rw [HA.out, HI.out]; rfl), rfl⟩
end Go.Proofs.Ytihgakbopkaemaa
namespace Go.Proofs.Ytihgakbopkaemaa
open Go.RowKit
theorem OI.far {w : World} {B : Nat} {A : Option Addr} {c : Nat} {l : List Int} (h : OI w B A c l) {p : Addr} (hp : p.block < B) (u : Value) : OI (w.setCell p u) B A c l := by
  refine ⟨h.1, ?_⟩
  rcases h.2 with hn | ⟨g, cap, cur, hv, h1, hg, rest⟩
  · exact .inl hn
  · exact .inr ⟨g, cap, cur, hv, h1, by rw [heap_setCell_other w p g u (by omega)]; exact hg, rest⟩
theorem adm_in {g : List Bs.T} {m r l : List Int} {wk : Int} (hr : ∀ x ∈ r, 0 ≤ x ∧ x < g.length) (hl : ∀ x ∈ l, 0 ≤ x ∧ x < g.length) (k : Nat) (hk : k ≤ l.length) : ∀ x ∈ r ++ Bs.admK g m r wk l k, 0 ≤ x ∧ x < g.length := by
  intro x hx
  rw [List.mem_append] at hx
  rcases hx with h | h
  · exact hr x h
  · exact hl x (List.mem_of_mem_take (Bs.adm_mem k hk x h))
theorem adm_units {g : List Bs.T} {m r l : List Int} {wk : Int} (hF : Bs.fine g = true) (hr : ∀ x ∈ r, 0 ≤ x ∧ x < g.length) (hl : ∀ x ∈ l, 0 ≤ x ∧ x < g.length) (hrl : r.length ≤ 8) (hll : l.length ≤ 8) (p : Int) (k : Nat) (hk : k ≤ l.length) : 0 ≤ Bs.usedC g (r ++ Bs.admK g m r wk l k) p ∧ Bs.usedC g (r ++ Bs.admK g m r wk l k) p ≤ 64 := by
  have h1 := used_bound hF (adm_in (m := m) (wk := wk) hr hl k hk) p _ (Nat.le_refl _)
  rw [List.take_length] at h1
  have h2 := Bs.admK_len g m r wk l k hk
  rw [List.length_append] at h1
  omega
theorem adm_next {g : List Bs.T} {r o : List Int} {v : Nat} (hv : v < g.length) (p : Int) : addIf g[v].pool p g[v].units (Bs.usedC g (r ++ o) p) = Bs.usedC g (r ++ (o ++ [(v : Int)])) p := by
  rw [unit_add hv, ← List.append_assoc, Bs.usedC_append g (r ++ o), Bs.usedC_one]
set_option maxHeartbeats 6400000 in
theorem AdmitTasks_loop (A : Option Addr) (c : Nat) (g : List Bs.T) (A1 : Option Addr) (c1 : Nat) (m : List Int) (A2 : Option Addr) (c2 : Nat) (r : List Int) (A3 : Option Addr) (c3 : Nat) (l : List Int) (wk : Int) (lo hi l1 h1 l2 h2 l3 h3 : Nat) (w : World) (h : RG w lo hi A g) (hh : hi ≤ w.heap.size) (hm : RI w l1 h1 A1 m) (hh1 : h1 ≤ w.heap.size) (h' : RI w l2 h2 A2 r) (hh2 : h2 ≤ w.heap.size) (h'' : RI w l3 h3 A3 l) (hh3 : h3 ≤ w.heap.size) (hl : g.length ≤ 9223372036854775807) (hml : m.length ≤ 9223372036854775807) (hr : r.length ≤ 9223372036854775807) (hll : l.length ≤ 9223372036854775807) (hok : Bs.admV g m r l wk = true) :
    Calls Try.prog 90 #[.slice A g.length c, .slice A1 m.length c1, .slice A2 r.length c2, .slice A3 l.length c3, .int .i64 wk] w (RetI w (Bs.admC g m r wk l)) := by
  obtain ⟨hrun, hwk, hin, hid⟩ := Bs.admV_iff.1 hok
  have hrun0 := hrun
  unfold Bs.runOk at hrun
  simp only [Bool.and_eq_true] at hrun
  obtain ⟨⟨⟨hv, hroom⟩, hig⟩, hfit⟩ := hrun
  have hF := valid_fine hv
  have h8 := Bs.fine_len hF
  have hrl := Bs.inG_len hig
  have hrr := Bs.inG_mem hig
  have hlr : ∀ x ∈ l, 0 ≤ x ∧ x < g.length := fun x hx => by have := Bs.allInB_mem hin hx; omega
  have hdist : Bs.Dist g.length l := ⟨by have := (Bs.idle_nodup l.length (Nat.le_refl _) hid).1; rwa [List.take_length] at this, hlr⟩
  have hl8 := hdist.le
  have hm3 := Bs.roomOk_len hroom
  have q1 := RunsTogether_any A c g A1 c1 m A2 c2 r lo hi l1 h1 l2 h2 w h hh hm hh1 h' hh2 hl hml hr
  rw [hrun0] at q1
  have q2 := fun W => validWorkers_any wk W
  rw [show decide (1 ≤ wk ∧ wk ≤ 4) = true from by simpa using hwk] at q2
  have q3 := fun W (hb : Below w.heap.size w W) => idleTasks_any A g.length c A2 c2 r A3 c3 l l2 h2 l3 h3 W (h'.below hb hh2) (h''.below hb hh3) h8 hrr (by omega) hll
  rw [hin, hid] at q3
  have q4 := fun W (hb : Below w.heap.size w W) => countUnits_any A c g A2 c2 r lo hi l2 h2 W (h.below hb hh) (Nat.le_trans hh hb.size) (h'.below hb hh2) (Nat.le_trans hh2 hb.size) hF hrr (by omega)
  unfold pcV at q4
  obtain ⟨z0, hz0⟩ : ∃ z, Bs.usedC g r 0 = z := ⟨_, rfl⟩
  obtain ⟨z1, hz1⟩ : ∃ z, Bs.usedC g r 1 = z := ⟨_, rfl⟩
  obtain ⟨z2, hz2⟩ : ∃ z, Bs.usedC g r 2 = z := ⟨_, rfl⟩
  rw [hz0, hz1, hz2] at q4
  have C1 := Lib.hid q1
  have C2 := Lib.hid q2
  have C3 := Lib.hid q3
  have C4 := Lib.hid q4
  have C5 := Lib.hid (fun (x0 x1 x2 n : Int) W (hb : Below w.heap.size w W) => fits_any x0 x1 x2 n A1 c1 m l1 h1 W (hm.below hb hh1) (Nat.le_trans hh1 hb.size) hm3)
  have HG := Lib.hid h
  have HL := Lib.hid h''
  have HLR := Lib.hid hlr
  have HT := Lib.hid (fun i hi => Bs.fine_task hF (i := i) hi)
  have HAU := Lib.hid (fun p k hk => adm_units (m := m) (wk := wk) hF hrr hlr (by omega) (by omega) p k hk)
  have HAL := Lib.hid (fun k hk => Bs.admK_len g m r wk l k hk)
  have HU0 := Lib.hid (show z0 = Bs.usedC g (r ++ Bs.admK g m r wk l 0) 0 from by rw [Bs.admK_zero, List.append_nil, hz0])
  have HU1 := Lib.hid (show z1 = Bs.usedC g (r ++ Bs.admK g m r wk l 0) 1 from by rw [Bs.admK_zero, List.append_nil, hz1])
  have HU2 := Lib.hid (show z2 = Bs.usedC g (r ++ Bs.admK g m r wk l 0) 2 from by rw [Bs.admK_zero, List.append_nil, hz2])
  clear hz0 hz1 hz2 hm3 q1 q2 q3 q4 hok hrun0 hin hid hv hroom hig hfit hF hrr hlr hdist h hm h' h''
  go_enter Try.func90, Try.ntmps90
  go_wp2_with fail
  with_reducible refine (C1.out).mono ?_
  rintro e w1 ⟨rfl, hb⟩
  have HB := Lib.hid hb
  have s1 := hb.size
  clear hb
  go_wp2_with fail
  with_reducible refine (C2.out _).mono ?_
  rintro e w2 ⟨rfl, rfl⟩
  go_wp2_with fail
  with_reducible refine (C3.out _ HB.out).mono ?_
  rintro e w2 ⟨rfl, rfl⟩
  go_wp2_with fail
  with_reducible refine (C4.out _ HB.out).mono ?_
  rintro e w2 ⟨rfl, hb2⟩
  have HB2 := Lib.hid (HB.out.trans (hb2.mono s1))
  have s2 := HB2.out.size
  have hB0 := Blk.new w2 108 #[.int .i64 z0, .int .i64 z1, .int .i64 z2, .int .i64 (r.length : Int)]
  have HB0 := Lib.hid (hB0.alloc (.cells #[] 3))
  have HO0 := Lib.hid (show OI ((w2.alloc (.cells #[.int .i64 z0, .int .i64 z1, .int .i64 z2, .int .i64 (r.length : Int)] 108)).alloc (.cells #[] 3)) (w2.heap.size + 1) (some ⟨w2.heap.size + 1, 0, none⟩) 0 [] from by
    have := OI.new (w2.alloc (.cells #[.int .i64 z0, .int .i64 z1, .int .i64 z2, .int .i64 (r.length : Int)] 108)) (w2.heap.size + 1) (by simp)
    simpa using this)
  have HBL0 := Lib.hid ((HB2.out.alloc s2 (.cells #[.int .i64 z0, .int .i64 z1, .int .i64 z2, .int .i64 (r.length : Int)] 108)).alloc (by simp; omega) (.cells #[] 3))
  clear hb2 C1 C2 C3 C4 hB0
  go_wp2
  go_loopw [12, 39] (fun v i wr => ∃ (k : Nat) (A4 : Option Addr) (c4 : Nat) (o : List Int) (x0 x1 x2 : Int), k ≤ l.length ∧ i = .int .i64 k ∧ o = Bs.admK g m r wk l k ∧ v = .slice A4 o.length c4 ∧ x0 = Bs.usedC g (r ++ o) 0 ∧ x1 = Bs.usedC g (r ++ o) 1 ∧ x2 = Bs.usedC g (r ++ o) 2 ∧ Blk wr w2.heap.size 108 #[.int .i64 x0, .int .i64 x1, .int .i64 x2, .int .i64 ((r.length : Int) + (o.length : Int))] ∧ OI wr (w2.heap.size + 1) A4 c4 o ∧ w2.heap.size + 1 ≤ wr.heap.size ∧ Below w.heap.size w wr) (fun _ i _ => l.length - (intOf i).toNat)
  case atStart => exact ⟨0, _, _, [], z0, z1, z2, Nat.zero_le _, rfl, rfl, rfl, HU0.out, HU1.out, HU2.out, by simpa using HB0.out, HO0.out, by simp, HBL0.out⟩
  case round =>
    obtain ⟨k, A4, c4, o, x0, x1, x2, hk, rfl, ho, rfl, h0, h1, h2, hB, hO, hsz, hb⟩ := hrel
    have g0 := HAU.out 0 k hk
    have g1 := HAU.out 1 k hk
    have g2 := HAU.out 2 k hk
    have gl := HAL.out k hk
    rw [← ho] at g0 g1 g2 gl
    rw [← h0] at g0
    rw [← h1] at g1
    rw [← h2] at g2
    have sr := hb.size
    have sb := hB.lt
    by_cases hlt : k < l.length
    · obtain ⟨b, ob, rfl, _, _, hc⟩ := (HL.out.below hb hh3).at_ hlt
      have hx := HLR.out _ (List.getElem_mem hlt)
      have HYES := Lib.hid (fun h => Bs.admK_yes (g := g) (m := m) (r := r) (wk := wk) hlt h)
      have HNO := Lib.hid (fun h => Bs.admK_no (g := g) (m := m) (r := r) (wk := wk) hlt h)
      obtain ⟨v, hv⟩ : ∃ v : Nat, l[k] = (v : Int) := ⟨l[k].toNat, by omega⟩
      rw [hv] at hc hx HYES HNO
      have hvl : v < g.length := by omega
      have t0 := adm_next (r := r) (o := o) hvl 0
      have t1 := adm_next (r := r) (o := o) hvl 1
      have t2 := adm_next (r := r) (o := o) hvl 2
      rw [← h0] at t0
      rw [← h1] at t1
      rw [← h2] at t2
      have hu := HT.out v hvl
      obtain ⟨bg, og, N, cN, rfl, _, hgh, q0, q1, q2, q3, hlN, hcN, hN⟩ := (HG.out.below hb hh) v hvl
      have c1 := fun W => pcWith_any x0 x1 x2 ((r.length : Int) + (o.length : Int)) g[v].time g[v].pool g[v].units N g[v].needs.length cN W hu.1 hu.2.1 (by omega) (by omega) (by omega) (by omega) (by omega)
      unfold pcV at c1
      have C1 := Lib.hid c1
      have k0 : wr.cell? ⟨w2.heap.size, 0, none⟩ = some (.int .i64 x0) := hB.cell 0
      have k1 : wr.cell? ⟨w2.heap.size, 1, none⟩ = some (.int .i64 x1) := hB.cell 1
      have k2 : wr.cell? ⟨w2.heap.size, 2, none⟩ = some (.int .i64 x2) := hB.cell 2
      have k3 : wr.cell? ⟨w2.heap.size, 3, none⟩ = some (.int .i64 ((r.length : Int) + (o.length : Int))) := hB.cell 3
      have H4 := Lib.hid hB
      have HO := Lib.hid hO
      have HB := Lib.hid hb
      have T0 := Lib.hid t0
      have T1 := Lib.hid t1
      have T2 := Lib.hid t2
      have HX := Lib.hid (And.intro ho (And.intro h0 (And.intro h1 h2)))
      have i0 : (0 : Int) ≤ (v : Int) := by omega
      have i1 : (v : Int) < (g.length : Int) := by omega
      have hbw : bg < wr.heap.size := by omega
      clear c1 hB hO hb t0 t1 t2 h0 h1 h2 ho hN hv
      generalize addIf g[v].pool 0 g[v].units x0 = y0 at *
      generalize addIf g[v].pool 1 g[v].units x1 = y1 at *
      generalize addIf g[v].pool 2 g[v].units x2 = y2 at *
      go_wp2_with fail
      go_region_law (go_simp; go_loud (go_at_call 104; (with_reducible refine (C1.out _).mono ?_); rintro e w5 ⟨rfl, hb5⟩; first
        | (have HB5 : Hid (Below wr.heap.size wr w5) := Lib.hid (((Below.refl _ wr).drewN 1).trans hb5); clear hb5)
        | (have HB5 : Hid (Below wr.heap.size wr w5) := Lib.hid ((((Below.refl _ wr).drewN 1).alloc (Nat.le_refl _) _).trans (hb5.mono (show wr.heap.size ≤ (wr.drew.alloc (.cells #[.int .i64 0, .int .i64 0, .int .i64 0, .int .i64 0] 108)).heap.size from by rw [World.size_alloc]; exact Nat.le_succ _)))
           have hN5 : Blk w5 wr.heap.size 108 #[.int .i64 0, .int .i64 0, .int .i64 0, .int .i64 0] := (Blk.new wr.drew 108 #[.int .i64 0, .int .i64 0, .int .i64 0, .int .i64 0]).below hb5 (show wr.heap.size < (wr.drew.alloc (.cells #[.int .i64 0, .int .i64 0, .int .i64 0, .int .i64 0] 108)).heap.size from by rw [World.size_alloc]; exact Nat.lt_succ_self _)
           have e0 : w5.cell? ⟨wr.heap.size, 0, none⟩ = some (.int .i64 0) := hN5.cell 0
           have e1 : w5.cell? ⟨wr.heap.size, 1, none⟩ = some (.int .i64 0) := hN5.cell 1
           have e2 : w5.cell? ⟨wr.heap.size, 2, none⟩ = some (.int .i64 0) := hN5.cell 2
           have e3 : w5.cell? ⟨wr.heap.size, 3, none⟩ = some (.int .i64 0) := hN5.cell 3
           have e4 : w5.frozen? ⟨wr.heap.size, 0, none⟩ = false := hN5.frozen 0
           have e5 : w5.frozen? ⟨wr.heap.size, 1, none⟩ = false := hN5.frozen 1
           have e6 : w5.frozen? ⟨wr.heap.size, 2, none⟩ = false := hN5.frozen 2
           have e7 : w5.frozen? ⟨wr.heap.size, 3, none⟩ = false := hN5.frozen 3
           have HN5 := Lib.hid hN5
           clear hb5 hN5)))
      all_goals first
        | (have hP := pc_block HN5.out (.int .i64 y0) (.int .i64 y1) (.int .i64 y2) (.int .i64 ((r.length : Int) + (o.length : Int) + 1))
           have hT := (((HB5.out.setCell (p := ⟨wr.heap.size, 0, none⟩) (Nat.le_refl _) (.int .i64 y0)).setCell (p := ⟨wr.heap.size, 1, none⟩) (Nat.le_refl _) (.int .i64 y1)).setCell (p := ⟨wr.heap.size, 2, none⟩) (Nat.le_refl _) (.int .i64 y2)).setCell (p := ⟨wr.heap.size, 3, none⟩) (Nat.le_refl _) (.int .i64 ((r.length : Int) + (o.length : Int) + 1))
           have hQ := H4.out.below hT sb
           have hR := HO.out.below hT (Nat.le_refl _)
           have hS := HB.out.trans (hT.mono sr)
           have hz := hT.size
           have hn := hsz
           have HP := Lib.hid hP
           have HQ := Lib.hid hQ
           have HR := Lib.hid hR
           have HS := Lib.hid hS
           clear e0 e1 e2 e3 e4 e5 e6 e7 k0 k1 k2 k3 q0 q1 q2 q3 hc HN5 HB5 HB H4 HO hP hQ hR hS hT
           generalize (((w5.setCell ⟨wr.heap.size, 0, none⟩ (.int .i64 y0)).setCell ⟨wr.heap.size, 1, none⟩ (.int .i64 y1)).setCell ⟨wr.heap.size, 2, none⟩ (.int .i64 y2)).setCell ⟨wr.heap.size, 3, none⟩ (.int .i64 ((r.length : Int) + (o.length : Int) + 1)) = W6 at *
           have hz : w2.heap.size + 1 ≤ W6.heap.size := Nat.le_trans hsz hz
           generalize wr.heap.size = nb at *)
        | (have hP := Blk.new w5 108 #[.int .i64 y0, .int .i64 y1, .int .i64 y2, .int .i64 ((r.length : Int) + (o.length : Int) + 1)]
           have hT := HB5.out.alloc HB5.out.size (.cells #[.int .i64 y0, .int .i64 y1, .int .i64 y2, .int .i64 ((r.length : Int) + (o.length : Int) + 1)] 108)
           have hQ := H4.out.below hT sb
           have hR := HO.out.below hT (Nat.le_refl _)
           have hS := HB.out.trans (hT.mono sr)
           have hz := hT.size
           have hn := Nat.le_trans hsz HB5.out.size
           have HP := Lib.hid hP
           have HQ := Lib.hid hQ
           have HR := Lib.hid hR
           have HS := Lib.hid hS
           clear k0 k1 k2 k3 q0 q1 q2 q3 hc HB5 HB H4 HO hP hQ hR hS hT
           generalize w5.alloc (.cells #[.int .i64 y0, .int .i64 y1, .int .i64 y2, .int .i64 ((r.length : Int) + (o.length : Int) + 1)] 108) = W6 at *
           have hz : w2.heap.size + 1 ≤ W6.heap.size := Nat.le_trans hsz hz
           generalize w5.heap.size = nb at *)
      all_goals
        have hok : Bs.admOk g m r wk o v = (decide ((r.length : Int) + (o.length : Int) < wk) && fit3 y0 y1 y2 m) := by
          unfold Bs.admOk
          rw [fits_eq, ← T0.out, ← T1.out, ← T2.out]
        have k0 : W6.cell? ⟨nb, 0, none⟩ = some (.int .i64 y0) := HP.out.cell 0
        have k1 : W6.cell? ⟨nb, 1, none⟩ = some (.int .i64 y1) := HP.out.cell 1
        have k2 : W6.cell? ⟨nb, 2, none⟩ = some (.int .i64 y2) := HP.out.cell 2
        have k3 : W6.cell? ⟨nb, 3, none⟩ = some (.int .i64 ((r.length : Int) + (o.length : Int) + 1)) := HP.out.cell 3
        by_cases hcnt : (r.length : Int) + (o.length : Int) + 1 ≤ wk
        · have C6 := Lib.hid (C5.out y0 y1 y2 ((r.length : Int) + (o.length : Int) + 1) W6 HS.out)
          rw [show decide ((r.length : Int) + (o.length : Int) < wk) = true from by simp; omega, Bool.true_and] at hok
          cases hfit : fit3 y0 y1 y2 m
          · rw [hfit] at C6 hok
            have hno := HNO.out (by rw [← HX.out.1]; exact hok)
            rw [← HX.out.1] at hno
            have HN := Lib.hid hno
            clear hok hfit hno
            go_wp2_with fail
            (with_reducible refine (C6.out).mono ?_)
            rintro e w7 ⟨rfl, hb7⟩
            have HB7 := Lib.hid hb7
            have s7 := hb7.size
            clear hb7 k0 k1 k2 k3
            go_wp2
            go_roundw
            case rel => exact ⟨k + 1, A4, c4, o, x0, x1, x2, by omega, by go_num, HN.out.symm, rfl, HX.out.2.1, HX.out.2.2.1, HX.out.2.2.2, HQ.out.below HB7.out (by omega), HR.out.below HB7.out (Nat.le_refl _), by omega, HS.out.trans (HB7.out.mono HS.out.size)⟩
            case measure => simp [intOf]; omega
          · rw [hfit] at C6 hok
            have hyes := HYES.out (by rw [← HX.out.1]; exact hok)
            rw [← HX.out.1] at hyes
            have HY := Lib.hid hyes
            clear hok hfit hyes
            go_wp2_with fail
            (with_reducible refine (C6.out).mono ?_)
            rintro e w7 ⟨rfl, hb7⟩
            have HB7 := Lib.hid hb7
            have s7 := hb7.size
            have hP7 := HP.out.below hb7 (by exact HP.out.lt)
            have hQ7 := HQ.out.below hb7 (by exact HQ.out.lt)
            have hR7 := HR.out.below hb7 (Nat.le_refl _)
            have hS7 := HS.out.trans (hb7.mono HS.out.size)
            have k0 : w7.cell? ⟨nb, 0, none⟩ = some (.int .i64 y0) := hP7.cell 0
            have k1 : w7.cell? ⟨nb, 1, none⟩ = some (.int .i64 y1) := hP7.cell 1
            have k2 : w7.cell? ⟨nb, 2, none⟩ = some (.int .i64 y2) := hP7.cell 2
            have k3 : w7.cell? ⟨nb, 3, none⟩ = some (.int .i64 ((r.length : Int) + (o.length : Int) + 1)) := hP7.cell 3
            have j0 : w7.cell? ⟨w2.heap.size, 0, none⟩ = some (.int .i64 x0) := hQ7.cell 0
            have j1 : w7.cell? ⟨w2.heap.size, 1, none⟩ = some (.int .i64 x1) := hQ7.cell 1
            have j2 : w7.cell? ⟨w2.heap.size, 2, none⟩ = some (.int .i64 x2) := hQ7.cell 2
            have j3 : w7.cell? ⟨w2.heap.size, 3, none⟩ = some (.int .i64 ((r.length : Int) + (o.length : Int))) := hQ7.cell 3
            have f0 := hQ7.frozen 0
            have f1 := hQ7.frozen 1
            have f2 := hQ7.frozen 2
            have f3 := hQ7.frozen 3
            have hP8 := pc_block hQ7 (.int .i64 y0) (.int .i64 y1) (.int .i64 y2) (.int .i64 ((r.length : Int) + (o.length : Int) + 1))
            have hR8 := (((hR7.far (p := ⟨w2.heap.size, 0, none⟩) (Nat.lt_succ_self _) (.int .i64 y0)).far (p := ⟨w2.heap.size, 1, none⟩) (Nat.lt_succ_self _) (.int .i64 y1)).far (p := ⟨w2.heap.size, 2, none⟩) (Nat.lt_succ_self _) (.int .i64 y2)).far (p := ⟨w2.heap.size, 3, none⟩) (Nat.lt_succ_self _) (.int .i64 ((r.length : Int) + (o.length : Int) + 1))
            have hS8 := (((hS7.setCell (p := ⟨w2.heap.size, 0, none⟩) (by exact s2) (.int .i64 y0)).setCell (p := ⟨w2.heap.size, 1, none⟩) (by exact s2) (.int .i64 y1)).setCell (p := ⟨w2.heap.size, 2, none⟩) (by exact s2) (.int .i64 y2)).setCell (p := ⟨w2.heap.size, 3, none⟩) (by exact s2) (.int .i64 ((r.length : Int) + (o.length : Int) + 1))
            have hsz8 : ((((w7.setCell ⟨w2.heap.size, 0, none⟩ (.int .i64 y0)).setCell ⟨w2.heap.size, 1, none⟩ (.int .i64 y1)).setCell ⟨w2.heap.size, 2, none⟩ (.int .i64 y2)).setCell ⟨w2.heap.size, 3, none⟩ (.int .i64 ((r.length : Int) + (o.length : Int) + 1))).heap.size = w7.heap.size := by simp [World.setCell]
            have HP8 := Lib.hid hP8
            have HR8 := Lib.hid hR8
            have HS8 := Lib.hid hS8
            have HSZ := Lib.hid hsz8
            clear hb7 hP7 hQ7 hR7 hS7 hP8 hR8 hS8 hsz8 C6
            go_wp2_with (at_builtin; go_loud (refine push_int rfl _ _ rfl (w2.heap.size + 1) A4 c4 o (v : Int) rfl (HR8.out.alloc _) w7.heap.size 1 rfl (by simp [go_sem]) (by omega) (by rw [World.size_alloc, HSZ.out]; omega) ?_; intro A5 c5 w8 ho8 hb8 _))
            have HO9 := Lib.hid ho8
            have HB9 := Lib.hid hb8
            have hsz9 : w2.heap.size + 1 ≤ w8.heap.size := by
              have := hb8.size
              rw [World.size_alloc, HSZ.out] at this
              omega
            clear ho8 hb8 k0 k1 k2 k3 j0 j1 j2 j3 f0 f1 f2 f3
            go_wp2
            go_roundw
            case rel =>
              refine ⟨k + 1, A5, c5, o ++ [(v : Int)], y0, y1, y2, by omega, by go_num, HY.out.symm, by rw [List.length_append]; rfl, T0.out, T1.out, T2.out, ?_, HO9.out, hsz9, (HS8.out.alloc (by rw [HSZ.out]; omega) _).trans (HB9.out.mono (by omega))⟩
              have h9 := (HP8.out.alloc (.cells #[.int .i64 (v : Int)] 3)).below HB9.out (Nat.lt_succ_self _)
              rw [List.length_append]
              simpa [Int.add_assoc] using h9
            case measure => simp [intOf]; omega
        · have hno := HNO.out (by rw [← HX.out.1, hok, show decide ((r.length : Int) + (o.length : Int) < wk) = false from by simp; omega]; rfl)
          rw [← HX.out.1] at hno
          have HN := Lib.hid hno
          clear hok hno
          go_wp2
          go_roundw
          case rel => exact ⟨k + 1, A4, c4, o, x0, x1, x2, by omega, by go_num, HN.out.symm, rfl, HX.out.2.1, HX.out.2.2.1, HX.out.2.2.2, HQ.out, HR.out, by omega, HS.out⟩
          case measure => simp [intOf]; omega
    · obtain rfl : k = l.length := by omega
      have HX := Lib.hid (show o = Bs.admC g m r wk l from ho)
      clear ho
      go_wp2
      go_ret
      rw [← HX.out]
      exact ⟨⟨A4, c4, rfl, hO.base (by omega)⟩, hb⟩
end Go.Proofs.Ytihgakbopkaemaa
