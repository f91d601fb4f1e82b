/-
  WALKS: units that tasks take, of the program.
-/
import Derived.Test.YtjahmejmkijkaaaW34
namespace Go.Proofs.Ytjahmejmkijkaaa
open Go.RowKit
theorem usedC_take (g : List Bs.T) (r : List Int) (p : Int) (k : Nat) (hk : k < r.length) : Bs.usedC g (r.take (k + 1)) p = Bs.usedC g (r.take k) p + Bs.unitF g p r[k] := Bs.sumZ_take r (Bs.unitF g p) k hk
theorem used_bound {g : List Bs.T} {r : List Int} (hF : Bs.fine g = true) (hr : ∀ x ∈ r, 0 ≤ x ∧ x < g.length) (p : Int) : ∀ k, k ≤ r.length → 0 ≤ Bs.usedC g (r.take k) p ∧ Bs.usedC g (r.take k) p ≤ 4 * k := by
  intro k
  induction k with
  | zero => intro _; simp [Bs.usedC, Bs.sumZ]
  | succ k ih =>
    intro hk
    have h1 := ih (by omega)
    have hx := hr _ (List.getElem_mem (show k < r.length by omega))
    rw [usedC_take g r p k (by omega)]
    have ht := Bs.fine_task hF (i := r[k].toNat) (by omega)
    have : 0 ≤ Bs.unitF g p r[k] ∧ Bs.unitF g p r[k] ≤ 4 := by
      unfold Bs.unitF
      rw [Bs.units_at (by omega)]
      split <;> omega
    omega
theorem unit_add {g : List Bs.T} {v : Nat} (hv : v < g.length) (k a : Int) : addIf g[v].pool k g[v].units a = a + Bs.unitF g k (v : Int) := by
  unfold addIf Bs.unitF
  rw [Int.toNat_natCast, Bs.pool_at hv, Bs.units_at hv]
set_option maxHeartbeats 3200000 in
theorem countUnits_any (A : Option Addr) (c : Nat) (g : List Bs.T) (A' : Option Addr) (c' : Nat) (r : List Int) (lo hi lo' hi' : Nat) (w : World) (h : RG w lo hi A g) (hh : hi ≤ w.heap.size) (h' : RI w lo' hi' A' r) (hh' : hi' ≤ w.heap.size) (hF : Bs.fine g = true) (hr : ∀ x ∈ r, 0 ≤ x ∧ x < g.length) (hl : r.length ≤ 100) :
    Calls Try.prog 94 #[.slice A g.length c, .slice A' r.length c'] w fun e w' => e = .returned (pcV (Bs.usedC g r 0) (Bs.usedC g r 1) (Bs.usedC g r 2) r.length) ∧ Below w.heap.size w w' := by
  have hgl := Bs.fine_len hF
  have b3 := Blk.new w 107 #[.int .i64 0, .int .i64 0, .int .i64 0, .int .i64 0]
  have b4 := Blk.new (w.alloc (.cells #[.int .i64 0, .int .i64 0, .int .i64 0, .int .i64 0] 107)) 107 #[.int .i64 0, .int .i64 0, .int .i64 0, .int .i64 0]
  have b3 := b3.alloc (.cells #[.int .i64 0, .int .i64 0, .int .i64 0, .int .i64 0] 107)
  rw [show (w.alloc (.cells #[.int .i64 0, .int .i64 0, .int .i64 0, .int .i64 0] 107)).heap.size = w.heap.size + 1 from by simp] at b4
  have hbl : Below w.heap.size w ((w.alloc (.cells #[.int .i64 0, .int .i64 0, .int .i64 0, .int .i64 0] 107)).alloc (.cells #[.int .i64 0, .int .i64 0, .int .i64 0, .int .i64 0] 107)) := ((Below.refl _ _).alloc (Nat.le_refl _) _).alloc (by simp) _
  have HT := Lib.hid (fun i hi => Bs.fine_task hF (i := i) hi)
  have HR := Lib.hid hr
  have HUB := Lib.hid (fun p k hk => used_bound hF hr p k hk)
  have HUT := Lib.hid (fun p k hk => usedC_take g r p k hk)
  have HBL := Lib.hid hbl
  have HB3 := Lib.hid b3
  have HB4 := Lib.hid b4
  have HG := Lib.hid h
  have HI := Lib.hid h'
  clear b3 b4 hbl hF hr h h'
  go_enter Try.func94, Try.ntmps94
  go_wp2
  go_loopw [11] (fun i wr => ∃ (k : Nat) (x0 x1 x2 : Int), k ≤ r.length ∧ i = .int .i64 k ∧ x0 = Bs.usedC g (r.take k) 0 ∧ x1 = Bs.usedC g (r.take k) 1 ∧ x2 = Bs.usedC g (r.take k) 2 ∧ Blk wr (w.heap.size + 1) 107 #[.int .i64 x0, .int .i64 x1, .int .i64 x2, .int .i64 (k : Int)] ∧ Blk wr w.heap.size 107 #[.int .i64 0, .int .i64 0, .int .i64 0, .int .i64 0] ∧ Below w.heap.size w wr) (fun i _ => r.length - (intOf i).toNat)
  case atStart => exact ⟨0, 0, 0, 0, Nat.zero_le _, rfl, by simp [Bs.usedC, Bs.sumZ], by simp [Bs.usedC, Bs.sumZ], by simp [Bs.usedC, Bs.sumZ], HB4.out, HB3.out, HBL.out⟩
  case round =>
    obtain ⟨k, x0, x1, x2, hk, rfl, h0, h1, h2, hB4, hB3, hb⟩ := hrel
    have g0 := HUB.out 0 k hk
    have g1 := HUB.out 1 k hk
    have g2 := HUB.out 2 k hk
    rw [← h0] at g0
    rw [← h1] at g1
    rw [← h2] at g2
    have sr := hb.size
    have sb := hB4.lt
    by_cases hlt : k < r.length
    · obtain ⟨b, o, rfl, _, _, hc⟩ := (HI.out.below hb hh').at_ hlt
      have hx := HR.out _ (List.getElem_mem hlt)
      have t0 := HUT.out 0 k hlt
      have t1 := HUT.out 1 k hlt
      have t2 := HUT.out 2 k hlt
      rw [← h0] at t0
      rw [← h1] at t1
      rw [← h2] at t2
      obtain ⟨v, hv⟩ : ∃ v : Nat, r[k] = (v : Int) := ⟨r[k].toNat, by omega⟩
      rw [hv] at hc hx t0 t1 t2
      have hvl : v < g.length := by omega
      rw [← unit_add hvl] at t0 t1 t2
      have hu := HT.out v hvl
      obtain ⟨bg, og, N, cN, rfl, _, hgh, q0, q1, q2, q3, hlN, hcN, hN⟩ := (HG.out.below hb hh) v hvl
      have c1 := fun W => pcWith_any x0 x1 x2 (k : Int) g[v].time g[v].pool g[v].units N g[v].needs.length cN W hu.1 hu.2.1 (by omega) (by omega) (by omega) (by omega) (by omega)
      unfold pcV at c1
      have C1 := Lib.hid c1
      have k0 : wr.cell? ⟨w.heap.size + 1, 0, none⟩ = some (.int .i64 x0) := hB4.cell 0
      have k1 : wr.cell? ⟨w.heap.size + 1, 1, none⟩ = some (.int .i64 x1) := hB4.cell 1
      have k2 : wr.cell? ⟨w.heap.size + 1, 2, none⟩ = some (.int .i64 x2) := hB4.cell 2
      have k3 : wr.cell? ⟨w.heap.size + 1, 3, none⟩ = some (.int .i64 (k : Int)) := hB4.cell 3
      have H4 := Lib.hid hB4
      have H3 := Lib.hid hB3
      have HB := Lib.hid hb
      have T0 := Lib.hid t0
      have T1 := Lib.hid t1
      have T2 := Lib.hid t2
      have HX := Lib.hid (And.intro h0 (And.intro h1 h2))
      have i0 : (0 : Int) ≤ (v : Int) := by omega
      have i1 : (v : Int) < (g.length : Int) := by omega
      clear c1 hB4 hB3 hb t0 t1 t2 h0 h1 h2 hN hv
      generalize addIf g[v].pool 0 g[v].units x0 = y0 at *
      generalize addIf g[v].pool 1 g[v].units x1 = y1 at *
      generalize addIf g[v].pool 2 g[v].units x2 = y2 at *
      go_wp2_with fail
      go_region_law (go_simp; go_loud (go_at_call 102; (with_reducible refine ((C1.out _)).mono ?_); rintro e w5 ⟨rfl, hb5⟩; have s5 : wr.heap.size ≤ w5.heap.size := hb5.size; have e0 := ((H4.out.drewN 1).below hb5 (show w.heap.size + 1 < wr.heap.size from sb)).cell 0; have e1 := ((H4.out.drewN 1).below hb5 (show w.heap.size + 1 < wr.heap.size from sb)).cell 1; have e2 := ((H4.out.drewN 1).below hb5 (show w.heap.size + 1 < wr.heap.size from sb)).cell 2; have e3 := ((H4.out.drewN 1).below hb5 (show w.heap.size + 1 < wr.heap.size from sb)).cell 3; have e4 := ((H4.out.drewN 1).below hb5 (show w.heap.size + 1 < wr.heap.size from sb)).frozen 0; have e5 := ((H4.out.drewN 1).below hb5 (show w.heap.size + 1 < wr.heap.size from sb)).frozen 1; have e6 := ((H4.out.drewN 1).below hb5 (show w.heap.size + 1 < wr.heap.size from sb)).frozen 2; have e7 := ((H4.out.drewN 1).below hb5 (show w.heap.size + 1 < wr.heap.size from sb)).frozen 3; have HB5 := Lib.hid hb5; clear hb5))
      all_goals
        have hB5 : Below w.heap.size w w5 := HB.out.trans ((((Below.refl _ wr).drewN 1).trans HB5.out).mono sr)
        have hP5 := pc_block (((H4.out.drewN 1).below HB5.out (show w.heap.size + 1 < wr.heap.size from sb))) (.int .i64 y0) (.int .i64 y1) (.int .i64 y2) (.int .i64 ((k : Int) + 1))
        have hQ5 := (((((H3.out.drewN 1).below HB5.out (show w.heap.size < wr.heap.size by omega)).far (p := ⟨w.heap.size + 1, 0, none⟩) (by show _ ≠ w.heap.size + 1; omega) (.int .i64 y0)).far (p := ⟨w.heap.size + 1, 1, none⟩) (by show _ ≠ w.heap.size + 1; omega) (.int .i64 y1)).far (p := ⟨w.heap.size + 1, 2, none⟩) (by show _ ≠ w.heap.size + 1; omega) (.int .i64 y2)).far (p := ⟨w.heap.size + 1, 3, none⟩) (by show _ ≠ w.heap.size + 1; omega) (.int .i64 ((k : Int) + 1))
        have hR5 := (((hB5.setCell (p := ⟨w.heap.size + 1, 0, none⟩) (by show _ ≤ w.heap.size + 1; omega) (.int .i64 y0)).setCell (p := ⟨w.heap.size + 1, 1, none⟩) (by show _ ≤ w.heap.size + 1; omega) (.int .i64 y1)).setCell (p := ⟨w.heap.size + 1, 2, none⟩) (by show _ ≤ w.heap.size + 1; omega) (.int .i64 y2)).setCell (p := ⟨w.heap.size + 1, 3, none⟩) (by show _ ≤ w.heap.size + 1; omega) (.int .i64 ((k : Int) + 1))
        have HP5 := Lib.hid hP5
        have HQ5 := Lib.hid hQ5
        have HR5 := Lib.hid hR5
        clear hB5 hP5 hQ5 hR5 e0 e1 e2 e3 e4 e5 e6 e7 k0 k1 k2 k3 q0 q1 q2 q3 hc
        go_wp2
        go_roundw
        case rel => exact ⟨k + 1, y0, y1, y2, by omega, by go_num, T0.out.symm, T1.out.symm, T2.out.symm, HP5.out, HQ5.out, HR5.out⟩
        case measure => simp [intOf]; omega
    · obtain rfl : k = r.length := by omega
      rw [List.take_length] at h0 h1 h2
      have k0 : wr.cell? ⟨w.heap.size + 1, 0, none⟩ = some (.int .i64 x0) := hB4.cell 0
      have k1 : wr.cell? ⟨w.heap.size + 1, 1, none⟩ = some (.int .i64 x1) := hB4.cell 1
      have k2 : wr.cell? ⟨w.heap.size + 1, 2, none⟩ = some (.int .i64 x2) := hB4.cell 2
      have k3 : wr.cell? ⟨w.heap.size + 1, 3, none⟩ = some (.int .i64 (r.length : Int)) := hB4.cell 3
      have j0 : wr.cell? ⟨w.heap.size, 0, none⟩ = some (.int .i64 0) := hB3.cell 0
      have j1 : wr.cell? ⟨w.heap.size, 1, none⟩ = some (.int .i64 0) := hB3.cell 1
      have j2 : wr.cell? ⟨w.heap.size, 2, none⟩ = some (.int .i64 0) := hB3.cell 2
      have j3 : wr.cell? ⟨w.heap.size, 3, none⟩ = some (.int .i64 0) := hB3.cell 3
      have f0 := hB3.frozen 0
      have f1 := hB3.frozen 1
      have f2 := hB3.frozen 2
      have f3 := hB3.frozen 3
      have HP := Lib.hid (pc_block hB3 (.int .i64 x0) (.int .i64 x1) (.int .i64 x2) (.int .i64 (r.length : Int)))
      have HR5 := Lib.hid ((((hb.setCell (p := ⟨w.heap.size, 0, none⟩) (Nat.le_refl _) (.int .i64 x0)).setCell (p := ⟨w.heap.size, 1, none⟩) (Nat.le_refl _) (.int .i64 x1)).setCell (p := ⟨w.heap.size, 2, none⟩) (Nat.le_refl _) (.int .i64 x2)).setCell (p := ⟨w.heap.size, 3, none⟩) (Nat.le_refl _) (.int .i64 (r.length : Int)))
      have HX := Lib.hid (And.intro h0 (And.intro h1 h2))
      clear hB3 hB4 hb h0 h1 h2
      go_wp2
      refine bodyPost_ret (pc_ret rfl _ _ w.heap.size x0 x1 x2 r.length rfl HP.out) rfl ⟨?_, HR5.out⟩
      rw [HX.out.1, HX.out.2.1, HX.out.2.2]
end Go.Proofs.Ytjahmejmkijkaaa
