/-
  WALKS: rooms, what fits, what runs together, of the program.
-/
import Derived.Test.YtjahmejmkijkaaaW35
namespace Go.Proofs.Ytjahmejmkijkaaa
open Go.RowKit
def fit3 (x0 x1 x2 : Int) (m : List Int) : Bool := decide (x0 ≤ Bs.giZ m 0) && decide (x1 ≤ Bs.giZ m 1) && decide (x2 ≤ Bs.giZ m 2)
theorem fits_eq (g : List Bs.T) (m r : List Int) : Bs.fitsC g m r = fit3 (Bs.usedC g r 0) (Bs.usedC g r 1) (Bs.usedC g r 2) m := by
  unfold Bs.fitsC fit3
  simp [List.range_succ, Bool.and_assoc]
theorem idx3 (x0 x1 x2 : Int) (k : Nat) (hk : k < 3) (w : World) : (Instr.index 105 (.agg #[.int .i64 x0, .int .i64 x1, .int .i64 x2]) (.int .i64 (k : Int))).run Try.prog w = .ok (.int .i64 (if k = 0 then x0 else if k = 1 then x1 else x2)) w := by
  have hk3 : k = 0 ∨ k = 1 ∨ k = 2 := by omega
  rcases hk3 with rfl | rfl | rfl
  all_goals simp [Instr.index, run_underlying Try.underlying105, asIntOf, go_sem]
  all_goals rfl
theorem field_pc (a b c n : Value) (W : World) : (Instr.field 107 (.agg #[a, b, c, n]) 0).run Try.prog W = .ok (.agg #[a, b, c]) W := by
  simp [Instr.field, run_underlying Try.underlying107, asAgg, part, Sem.run_bind]
set_option maxHeartbeats 1600000 in
theorem fits_any (x0 x1 x2 n : Int) (A : Option Addr) (c : Nat) (m : List Int) (lo hi : Nat) (w : World) (h : RI w lo hi A m) (hh : hi ≤ w.heap.size) (h3 : m.length = 3) :
    Calls Try.prog 95 #[.agg #[.int .i64 x0, .int .i64 x1, .int .i64 x2, .int .i64 n], .slice A m.length c] w fun e w' => e = .returned (.bool (fit3 x0 x1 x2 m)) ∧ Below w.heap.size w w' := by
  have hb : Below w.heap.size w (w.alloc (.cells #[.int .i64 x0, .int .i64 x1, .int .i64 x2, .int .i64 n] 107)) := (Below.refl _ _).alloc (Nat.le_refl _) _
  have hr := h.below hb hh
  have b1 := Blk.new w 107 #[.int .i64 x0, .int .i64 x1, .int .i64 x2, .int .i64 n]
  obtain ⟨b, o, rfl, _, _, c0⟩ := hr.at_ (show 0 < m.length by omega)
  obtain ⟨b', o', e, _, _, c1⟩ := hr.at_ (show 1 < m.length by omega)
  cases e
  obtain ⟨b', o', e, _, _, c2⟩ := hr.at_ (show 2 < m.length by omega)
  cases e
  rw [← Bs.giZ_at] at c0 c1 c2
  simp only [Nat.add_zero] at c0
  have HF := Lib.hid (show fit3 x0 x1 x2 m = (decide (x0 ≤ Bs.giZ m 0) && decide (x1 ≤ Bs.giZ m 1) && decide (x2 ≤ Bs.giZ m 2)) from rfl)
  have HB := Lib.hid hb
  generalize Bs.giZ m 0 = m0 at *
  generalize Bs.giZ m 1 = m1 at *
  generalize Bs.giZ m 2 = m2 at *
  clear hr h hb
  have ix0 : ∀ W, (Instr.index 105 (.agg #[.int .i64 x0, .int .i64 x1, .int .i64 x2]) (.int .i64 0)).run Try.prog W = .ok (.int .i64 x0) W := fun W => idx3 x0 x1 x2 0 (by omega) W
  have ix1 : ∀ W, (Instr.index 105 (.agg #[.int .i64 x0, .int .i64 x1, .int .i64 x2]) (.int .i64 1)).run Try.prog W = .ok (.int .i64 x1) W := fun W => idx3 x0 x1 x2 1 (by omega) W
  have ix2 : ∀ W, (Instr.index 105 (.agg #[.int .i64 x0, .int .i64 x1, .int .i64 x2]) (.int .i64 2)).run Try.prog W = .ok (.int .i64 x2) W := fun W => idx3 x0 x1 x2 2 (by omega) W
  have l0 : (0 : Int) < (m.length : Int) := by omega
  have l1 : (1 : Int) < (m.length : Int) := by omega
  have l2 : (2 : Int) < (m.length : Int) := by omega
  go_enter Try.func95, Try.ntmps95
  go_wp2
  go_loop [9] (fun i => ∃ k : Nat, k ≤ 3 ∧ i = .int .i64 k ∧ (0 < k → x0 ≤ m0) ∧ (1 < k → x1 ≤ m1) ∧ (2 < k → x2 ≤ m2)) (fun i => 3 - (intOf i).toNat)
  case atStart => exact ⟨0, by omega, rfl, by omega, by omega, by omega⟩
  case round =>
    obtain ⟨k, hk, rfl, g0, g1, g2⟩ := hrel
    have hk4 : k = 0 ∨ k = 1 ∨ k = 2 ∨ k = 3 := by omega
    rcases hk4 with rfl | rfl | rfl | rfl
    · by_cases hc : x0 ≤ m0
      · have hd : decide (m0 < x0) = false := by simp; omega
        have hd2 : ¬ m0 < x0 := by omega
        go_wp2
        go_round
        case rel => exact ⟨1, by omega, rfl, by omega, by omega, by omega⟩
        case measure => simp [intOf]
      · go_wp2
        go_ret
        exact ⟨ret_bool (by rw [HF.out]; simp; omega), HB.out⟩
    · have g0 := g0 (by omega)
      by_cases hc : x1 ≤ m1
      · have hd : decide (m1 < x1) = false := by simp; omega
        have hd2 : ¬ m1 < x1 := by omega
        go_wp2
        go_round
        case rel => exact ⟨2, by omega, rfl, by omega, by omega, by omega⟩
        case measure => simp [intOf]
      · go_wp2
        go_ret
        exact ⟨ret_bool (by rw [HF.out]; simp; omega), HB.out⟩
    · have g0 := g0 (by omega)
      have g1 := g1 (by omega)
      by_cases hc : x2 ≤ m2
      · have hd : decide (m2 < x2) = false := by simp; omega
        have hd2 : ¬ m2 < x2 := by omega
        go_wp2
        go_round
        case rel => exact ⟨3, by omega, rfl, by omega, by omega, by omega⟩
        case measure => simp [intOf]
      · go_wp2
        go_ret
        exact ⟨ret_bool (by rw [HF.out]; simp; omega), HB.out⟩
    · have g0 := g0 (by omega)
      have g1 := g1 (by omega)
      have g2 := g2 (by omega)
      go_wp2
      go_ret
      exact ⟨ret_bool (by rw [HF.out]; simp; omega), HB.out⟩
theorem validPoolRoom_any (n : Int) (w : World) : Calls Try.prog 82 #[.int .i64 n] w fun e w' => e = .returned (.bool (decide (4 ≤ n ∧ n ≤ 8))) ∧ w = w' := by
  go_enter Try.func82, Try.ntmps82
  go_wp2
  all_goals go_ret
  all_goals exact ⟨ret_bool (by simp; try omega), rfl⟩
theorem validWorkers_any (n : Int) (w : World) : Calls Try.prog 75 #[.int .i64 n] w fun e w' => e = .returned (.bool (decide (1 ≤ n ∧ n ≤ 4))) ∧ w = w' := by
  go_enter Try.func75, Try.ntmps75
  go_wp2
  all_goals go_ret
  all_goals exact ⟨ret_bool (by simp; try omega), rfl⟩
set_option maxHeartbeats 1600000 in
theorem ValidRoom_same (A : Option Addr) (c : Nat) (r : List Int) (lo hi : Nat) (w : World) (h : RI w lo hi A r) (_hl : r.length ≤ 9223372036854775807) :
    Calls Try.prog 74 #[.slice A r.length c] w fun e w' => e = .returned (.bool (Bs.roomOk r)) ∧ w = w' := by
  by_cases h3 : r.length = 3
  · have HV := Lib.hid (show Bs.roomOk r = r.all fun x => decide (4 ≤ x ∧ x ≤ 8) from by unfold Bs.roomOk; rw [h3]; rfl)
    rw [h3]
    go_enter Try.func74, Try.ntmps74
    go_wp2
    go_loop [10] (fun i => ∃ k : Nat, k ≤ 3 ∧ i = .int .i64 k ∧ (r.take k).all (fun x => decide (4 ≤ x ∧ x ≤ 8)) = true) (fun i => 3 - (intOf i).toNat)
    case atStart => exact ⟨0, Nat.zero_le _, rfl, by simp⟩
    case round =>
      obtain ⟨k, hk, rfl, hall⟩ := hrel
      by_cases hlt : k < 3
      · have hlt' : k < r.length := by omega
        obtain ⟨b, o, rfl, _, _, hc⟩ := h.at_ hlt'
        have HT := Lib.hid (Bs.all_take r (fun x => decide (4 ≤ x ∧ x ≤ 8)) k hlt')
        have HFA := Lib.hid (fun h => Bs.all_false_at (p := fun x => decide (4 ≤ x ∧ x ≤ 8)) hlt' h)
        have HA := Lib.hid hall
        have c1 := fun W => validPoolRoom_any r[k] W
        have i1 : (k : Int) < 3 := by omega
        have H3 := Lib.hid h3
        clear hall h3
        cases hd : decide (4 ≤ r[k] ∧ r[k] ≤ 8)
        · rw [hd] at c1
          have C1 := Lib.hid c1
          have HF2 := Lib.hid (HFA.out hd)
          clear c1 hd
          go_wp2_with (go_at_call 82; refine (C1.out _).mono ?_; rintro e w' ⟨rfl, rfl⟩)
          go_ret
          exact ⟨ret_bool (by rw [HV.out, HF2.out]), rfl⟩
        · rw [hd] at c1
          have C1 := Lib.hid c1
          have HD := Lib.hid hd
          clear c1 hd
          go_wp2_with (go_at_call 82; refine (C1.out _).mono ?_; rintro e w' ⟨rfl, rfl⟩)
          go_round
          case rel => exact ⟨k + 1, by omega, by go_num, by rw [HT.out, HA.out, HD.out]; rfl⟩
          case measure => simp [intOf]; omega
      · obtain rfl : k = 3 := by omega
        rw [show r.take 3 = r from List.take_of_length_le (by omega)] at hall
        have HA := Lib.hid hall
        clear hall
        go_wp2
        go_ret
        exact ⟨ret_bool (by rw [HV.out, HA.out]), rfl⟩
  · have hq : ((r.length : Int) != 3) = true := by rw [bne_iff_ne]; omega
    have HV := Lib.hid (show Bs.roomOk r = false from by unfold Bs.roomOk; simp [h3])
    clear h3
    go_enter Try.func74, Try.ntmps74
    go_wp2
    go_ret
    exact ⟨ret_bool HV.out.symm, rfl⟩
theorem ValidRoom_any (A : Option Addr) (c : Nat) (r : List Int) (lo hi : Nat) (w : World) (h : RI w lo hi A r) (_hh : hi ≤ w.heap.size) (hl : r.length ≤ 9223372036854775807) :
    Calls Try.prog 74 #[.slice A r.length c] w fun e w' => e = .returned (.bool (Bs.roomOk r)) ∧ Below w.heap.size w w' :=
  (ValidRoom_same A c r lo hi w h hl).mono fun _ _ ⟨h1, h2⟩ => ⟨h1, by rw [← h2]; exact Below.refl _ _⟩
end Go.Proofs.Ytjahmejmkijkaaa
