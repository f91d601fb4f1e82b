/-
  WALKS: used units, what runs together, of the program.
-/
import Derived.Test.YtcddjgiclnnilabW36
namespace Go.Proofs.Ytcddjgiclnnilab
open Go.RowKit
theorem used_list (g : List Bs.T) (r : List Int) (h : Bs.valid g = true) (h2 : Bs.inG g r = true) : Bs.usedL g r = [Bs.usedC g r 0, Bs.usedC g r 1, Bs.usedC g r 2] := by
  unfold Bs.usedL
  rw [h, h2]
  simp [List.range_succ]
set_option maxHeartbeats 1600000 in
theorem UsedUnits_any (A : Option Addr) (c : Nat) (g : List Bs.T) (A' : Option Addr) (c' : Nat) (r : List Int) (lo hi lo' hi' : Nat) (w : World) (h : RG w lo hi A g) (hh : hi ≤ w.heap.size) (h' : RI w lo' hi' A' r) (hh' : hi' ≤ w.heap.size) (hl : g.length ≤ 9223372036854775807) (hr : r.length ≤ 9223372036854775807) :
    Calls Try.prog 40 #[.slice A g.length c, .slice A' r.length c'] w (RetI w (Bs.usedL g r)) := by
  have c1 := ValidGraph_any A c g lo hi w h hh hl
  cases hv : Bs.valid g
  · rw [hv] at c1
    have C1 := Lib.hid c1
    have HV := Lib.hid (usedL_no1 (r := r) hv)
    clear c1 hv h h'
    go_enter Try.func40, Try.ntmps40
    go_wp2_with fail
    refine (C1.out).mono ?_
    rintro e w1 ⟨rfl, hb⟩
    have HB := Lib.hid hb
    clear hb
    go_wp2
    go_ret
    exact RetI.nil HB.out HV.out
  · have hF := valid_fine hv
    have h8 := Bs.fine_len hF
    have c2 := fun W (hb : Below w.heap.size w W) => ascendingTasks_any A g.length c A' c' r lo' hi' W (by omega) (h'.below hb hh') hr
    rw [asc_flip] at c2
    rw [hv] at c1
    cases ha : Bs.inG g r
    · rw [ha] at c2
      have C1 := Lib.hid c1
      have C2 := Lib.hid c2
      have HV := Lib.hid (usedL_no2 ha)
      clear c1 c2 hv ha h h'
      go_enter Try.func40, Try.ntmps40
      go_wp2_with fail
      refine (C1.out).mono ?_
      rintro e w1 ⟨rfl, hb⟩
      have HB := Lib.hid hb
      clear hb
      go_wp2_with fail
      refine (C2.out _ HB.out).mono ?_
      rintro e w2 ⟨rfl, rfl⟩
      go_wp2
      go_ret
      exact RetI.nil HB.out HV.out
    · rw [ha] at c2
      have hrl := Bs.inG_len ha
      have c3 := fun W (hb : Below w.heap.size w W) => countUnits_any A c g A' c' r lo hi lo' hi' W (h.below hb hh) (Nat.le_trans hh hb.size) (h'.below hb hh') (Nat.le_trans hh' hb.size) hF (Bs.inG_mem ha) (by omega)
      have HV := Lib.hid (used_list g r hv ha)
      generalize Bs.usedC g r 0 = x0 at *
      generalize Bs.usedC g r 1 = x1 at *
      generalize Bs.usedC g r 2 = x2 at *
      unfold pcV at c3
      have C1 := Lib.hid c1
      have C2 := Lib.hid c2
      have C3 := Lib.hid c3
      have ix0 : ∀ W, (Instr.index 61 (.agg #[.int .i64 x0, .int .i64 x1, .int .i64 x2]) (.int .i64 0)).run Try.prog W = .ok (.int .i64 x0) W := fun W => idx3 x0 x1 x2 0 (by omega) W
      have ix1 : ∀ W, (Instr.index 61 (.agg #[.int .i64 x0, .int .i64 x1, .int .i64 x2]) (.int .i64 1)).run Try.prog W = .ok (.int .i64 x1) W := fun W => idx3 x0 x1 x2 1 (by omega) W
      have ix2 : ∀ W, (Instr.index 61 (.agg #[.int .i64 x0, .int .i64 x1, .int .i64 x2]) (.int .i64 2)).run Try.prog W = .ok (.int .i64 x2) W := fun W => idx3 x0 x1 x2 2 (by omega) W
      clear c1 c2 c3 hv ha hF h h'
      go_enter Try.func40, Try.ntmps40
      go_wp2_with fail
      refine (C1.out).mono ?_
      rintro e w1 ⟨rfl, hb⟩
      have HB := Lib.hid hb
      have s1 := hb.size
      clear hb
      go_wp2_with fail
      refine (C2.out _ HB.out).mono ?_
      rintro e w2 ⟨rfl, rfl⟩
      have HB1 := Lib.hid (HB.out.alloc s1 (.cells (intsA (List.replicate 3 0)) 3))
      have HA1 := Lib.hid (show Arr (w1.alloc (.cells (intsA (List.replicate 3 0)) 3)) w1.heap.size [0, 0, 0] from Blk.new w1 3 _)
      have hmk : (Instr.makeSlice 24 (.int .i64 3) (.int .i64 3)).run Try.prog w1 = .ok (.slice (some ⟨w1.heap.size, 0, none⟩) 3 3) (w1.alloc (.cells (intsA (List.replicate 3 0)) 3)) := make_ints 3 (by omega) w1
      generalize (.cells (intsA (List.replicate 3 0)) 3 : Obj) = ob at *
      go_wp2_with fail
      refine (C3.out _ HB1.out).mono ?_
      rintro e w2 ⟨rfl, hb2⟩
      have HB2 := Lib.hid (HB1.out.trans (hb2.mono HB1.out.size))
      have HA2 := Lib.hid (HA1.out.below hb2 (by simp))
      have hfl := fun W => field_pc (.int .i64 x0) (.int .i64 x1) (.int .i64 x2) (.int .i64 (r.length : Int)) W
      clear hb2 hmk C1 C2 C3
      go_wp2
      go_loopw [22] (fun i wr => ∃ k : Nat, k ≤ 3 ∧ i = .int .i64 k ∧ Arr wr w1.heap.size [if 0 < k then x0 else 0, if 1 < k then x1 else 0, if 2 < k then x2 else 0] ∧ Below w.heap.size w wr) (fun i _ => 3 - (intOf i).toNat)
      case atStart => exact ⟨0, by omega, rfl, HA2.out, HB2.out⟩
      case round =>
        obtain ⟨k, hk, rfl, hA, hb⟩ := hrel
        have hk4 : k = 0 ∨ k = 1 ∨ k = 2 ∨ k = 3 := by omega
        have HBr := Lib.hid hb
        have c0 := hA.cell (i := 0) (by simp)
        have c1 := hA.cell (i := 1) (by simp)
        have c2 := hA.cell (i := 2) (by simp)
        have f0 := hA.frozen 0
        have f1 := hA.frozen 1
        have f2 := hA.frozen 2
        have s0 := Lib.hid (hA.set_ 0 x0)
        have s1' := Lib.hid (hA.set_ 1 x1)
        have s2' := Lib.hid (hA.set_ 2 x2)
        have HA := Lib.hid hA
        clear hb hA
        rcases hk4 with rfl | rfl | rfl | rfl
        · go_wp2
          go_roundw
          case rel => exact ⟨1, by omega, rfl, s0.out, HBr.out.setCell (by exact s1) _⟩
          case measure => simp [intOf]
        · go_wp2
          go_roundw
          case rel => exact ⟨2, by omega, rfl, s1'.out, HBr.out.setCell (by exact s1) _⟩
          case measure => simp [intOf]
        · go_wp2
          go_roundw
          case rel => exact ⟨3, by omega, rfl, s2'.out, HBr.out.setCell (by exact s1) _⟩
          case measure => simp [intOf]
        · go_wp2
          go_ret
          rw [HV.out]
          exact ⟨⟨some ⟨w1.heap.size, 0, none⟩, 3, rfl, HA.out.oi s1 (by simp)⟩, HBr.out⟩
set_option maxHeartbeats 1600000 in
theorem RunsTogether_any (A : Option Addr) (c : Nat) (g : List Bs.T) (A1 : Option Addr) (c1 : Nat) (m : List Int) (A' : Option Addr) (c' : Nat) (r : List Int) (lo hi l1 h1 lo' hi' : Nat) (w : World) (h : RG w lo hi A g) (hh : hi ≤ w.heap.size) (hm : RI w l1 h1 A1 m) (hh1 : h1 ≤ w.heap.size) (h' : RI w lo' hi' A' r) (hh' : hi' ≤ w.heap.size) (hl : g.length ≤ 9223372036854775807) (hml : m.length ≤ 9223372036854775807) (hr : r.length ≤ 9223372036854775807) :
    Calls Try.prog 20 #[.slice A g.length c, .slice A1 m.length c1, .slice A' r.length c'] w fun e w' => e = .returned (.bool (Bs.runOk g m r)) ∧ Below w.heap.size w w' := by
  have q1 := ValidGraph_any A c g lo hi w h hh hl
  cases hv : Bs.valid g
  · rw [hv] at q1
    have C1 := Lib.hid q1
    have HV := Lib.hid (runOk_no1 (m := m) (r := r) hv)
    clear q1 hv h h' hm
    go_enter Try.func20, Try.ntmps20
    go_wp2_with fail
    refine (C1.out).mono ?_
    rintro e w1 ⟨rfl, hb⟩
    have HB := Lib.hid hb
    clear hb
    go_wp2
    go_ret
    exact ⟨ret_bool HV.out.symm, HB.out⟩
  · have hF := valid_fine hv
    have h8 := Bs.fine_len hF
    have q2 := fun W (hb : Below w.heap.size w W) => ValidRoom_same A1 c1 m l1 h1 W (hm.below hb hh1) hml
    have q3 := fun W (hb : Below w.heap.size w W) => ascendingTasks_any A g.length c A' c' r lo' hi' W (by omega) (h'.below hb hh') hr
    rw [asc_flip] at q3
    rw [hv] at q1
    have C1 := Lib.hid q1
    cases hok : Bs.roomOk m
    · rw [hok] at q2
      have C2 := Lib.hid q2
      have HV := Lib.hid (runOk_no2 (g := g) (r := r) hok)
      clear q1 q2 q3 hv h h' hm hok
      go_enter Try.func20, Try.ntmps20
      go_wp2_with fail
      refine (C1.out).mono ?_
      rintro e w1 ⟨rfl, hb⟩
      have HB := Lib.hid hb
      clear hb
      go_wp2_with fail
      refine (C2.out _ HB.out).mono ?_
      rintro e w2 ⟨rfl, rfl⟩
      go_wp2
      go_ret
      exact ⟨ret_bool HV.out.symm, HB.out⟩
    · rw [hok] at q2
      have C2 := Lib.hid q2
      cases ha : Bs.inG g r
      · rw [ha] at q3
        have C3 := Lib.hid q3
        have HV := Lib.hid (runOk_no3 (m := m) ha)
        clear q1 q2 q3 hv h h' hm hok ha
        go_enter Try.func20, Try.ntmps20
        go_wp2_with fail
        refine (C1.out).mono ?_
        rintro e w1 ⟨rfl, hb⟩
        have HB := Lib.hid hb
        clear hb
        go_wp2_with fail
        refine (C2.out _ HB.out).mono ?_
        rintro e w2 ⟨rfl, rfl⟩
        go_wp2_with fail
        refine (C3.out _ HB.out).mono ?_
        rintro e w2 ⟨rfl, rfl⟩
        go_wp2
        go_ret
        exact ⟨ret_bool HV.out.symm, HB.out⟩
      · rw [ha] at q3
        have C3 := Lib.hid q3
        have hrl := Bs.inG_len ha
        have hm3 := Bs.roomOk_len hok
        have q4 := fun W (hb : Below w.heap.size w W) => countUnits_any A c g A' c' r lo hi lo' hi' W (h.below hb hh) (Nat.le_trans hh hb.size) (h'.below hb hh') (Nat.le_trans hh' hb.size) hF (Bs.inG_mem ha) (by omega)
        have HV := Lib.hid (show Bs.runOk g m r = fit3 (Bs.usedC g r 0) (Bs.usedC g r 1) (Bs.usedC g r 2) m from by rw [runOk_at hv hok ha, fits_eq])
        have C5 := Lib.hid (fun (x0 x1 x2 n : Int) W (hb : Below w.heap.size w W) => fits_any x0 x1 x2 n A1 c1 m l1 h1 W (hm.below hb hh1) (Nat.le_trans hh1 hb.size) hm3)
        unfold pcV at q4
        have C4 := Lib.hid q4
        generalize Bs.usedC g r 0 = x0 at *
        generalize Bs.usedC g r 1 = x1 at *
        generalize Bs.usedC g r 2 = x2 at *
        clear q1 q2 q3 q4 hv h h' hm hok ha hF hm3
        go_enter Try.func20, Try.ntmps20
        go_wp2_with fail
        refine (C1.out).mono ?_
        rintro e w1 ⟨rfl, hb⟩
        have HB := Lib.hid hb
        clear hb
        go_wp2_with fail
        refine (C2.out _ HB.out).mono ?_
        rintro e w2 ⟨rfl, rfl⟩
        go_wp2_with fail
        refine (C3.out _ HB.out).mono ?_
        rintro e w2 ⟨rfl, rfl⟩
        go_wp2_with fail
        refine (C4.out _ HB.out).mono ?_
        rintro e w2 ⟨rfl, hb2⟩
        have HB2 := Lib.hid (HB.out.trans (hb2.mono HB.out.size))
        clear hb2
        go_wp2_with fail
        refine (C5.out _ _ _ _ _ HB2.out).mono ?_
        rintro e w3 ⟨rfl, hb3⟩
        have HB3 := Lib.hid (HB2.out.trans (hb3.mono HB2.out.size))
        clear hb3
        go_wp2
        go_ret
        exact ⟨ret_bool HV.out.symm, HB3.out⟩
end Go.Proofs.Ytcddjgiclnnilab
