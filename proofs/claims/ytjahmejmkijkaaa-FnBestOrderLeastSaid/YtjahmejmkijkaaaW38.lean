/-
  WALKS: the time that a pool needs, of the program.
-/
import Derived.Test.YtjahmejmkijkaaaW36
import Derived.Test.YtjahmejmkijkaaaK4
namespace Go.Proofs.Ytjahmejmkijkaaa
open Go.RowKit
set_option maxRecDepth 20000 in
set_option maxHeartbeats 1600000 in
theorem PoolTime_any (A : Option Addr) (c : Nat) (g : List Bs.T) (p r : Int) (lo hi : Nat) (w : World) (h : RG w lo hi A g) (hh : hi ≤ w.heap.size) (hl : g.length ≤ 9223372036854775807) :
    Calls Try.prog 49 #[.slice A g.length c, .int .i64 p, .int .i64 r] w fun e w' => e = .returned (.int .i64 (Bs.poolT g p r)) ∧ Below w.heap.size w w' := by
  have q1 := ValidGraph_any A c g lo hi w h hh hl
  have q3 := fun W => validPoolRoom_any r W
  cases hv : Bs.valid g
  · rw [hv] at q1
    have C1 := Lib.hid q1
    have HV := Lib.hid (Bs.poolT_no1 (p := p) (r := r) hv)
    clear q1 q3 hv h
    go_enter Try.func49, Try.ntmps49
    go_wp2_with fail
    refine (C1.out).mono ?_
    rintro e w1 ⟨rfl, hb⟩
    have HB := Lib.hid hb
    clear hb
    go_wp2
    go_ret
    exact ⟨ret_int HV.out.symm, HB.out⟩
  · have hF := valid_fine hv
    have h8 := Bs.fine_len hF
    rw [hv] at q1
    have C1 := Lib.hid q1
    by_cases hp0 : p < 0
    · have HV := Lib.hid (Bs.poolT_no2 (g := g) (r := r) (p := p) (by simp; omega))
      clear q1 q3 hv h hF
      go_enter Try.func49, Try.ntmps49
      go_wp2_with fail
      refine (C1.out).mono ?_
      rintro e w1 ⟨rfl, hb⟩
      have HB := Lib.hid hb
      clear hb
      go_wp2
      go_ret
      exact ⟨ret_int HV.out.symm, HB.out⟩
    by_cases hp3 : 3 ≤ p
    · have HV := Lib.hid (Bs.poolT_no2 (g := g) (r := r) (p := p) (by simp; omega))
      clear q1 q3 hv h hF
      go_enter Try.func49, Try.ntmps49
      go_wp2_with fail
      refine (C1.out).mono ?_
      rintro e w1 ⟨rfl, hb⟩
      have HB := Lib.hid hb
      clear hb
      go_wp2
      go_ret
      exact ⟨ret_int HV.out.symm, HB.out⟩
    have hp : decide (0 ≤ p ∧ p ≤ 2) = true := by simp; omega
    cases hr : decide (4 ≤ r ∧ r ≤ 8)
    · rw [hr] at q3
      have C3 := Lib.hid q3
      have HV := Lib.hid (Bs.poolT_no3 (g := g) (p := p) hr)
      clear q1 q3 hv h hF hp hr
      go_enter Try.func49, Try.ntmps49
      go_wp2_with fail
      refine (C1.out).mono ?_
      rintro e w1 ⟨rfl, hb⟩
      have HB := Lib.hid hb
      clear hb
      go_wp2_with fail
      refine (C3.out _).mono ?_
      rintro e w3 ⟨rfl, rfl⟩
      go_wp2
      go_ret
      exact ⟨ret_int HV.out.symm, HB.out⟩
    · rw [hr] at q3
      have C3 := Lib.hid q3
      have HV := Lib.hid (Bs.poolT_yes hv hp hr)
      rw [decide_eq_true_eq] at hr
      have HT := Lib.hid (fun i (hi : i < g.length) => And.intro (Bs.fine_time' hF hi) (Bs.fine_task hF hi))
      have HS := Lib.hid (fun k hk => Bs.sumZ_takeT g (Bs.workF p) k hk)
      have HG := Lib.hid h
      clear q1 q3 hv h hF hp
      go_enter Try.func49, Try.ntmps49
      go_wp2_with fail
      refine (C1.out).mono ?_
      rintro e w1 ⟨rfl, hb⟩
      have HB := Lib.hid hb
      clear hb
      go_wp2_with fail
      refine (C3.out _).mono ?_
      rintro e w3 ⟨rfl, rfl⟩
      clear C1 C3
      go_wp2
      go_loopw [7, 28] (fun s i wr => ∃ k : Nat, k ≤ g.length ∧ i = .int .i64 k ∧ (∃ t : Int, s = .int .i64 t ∧ t = Bs.sumZ ((g.take k).map (Bs.workF p)) ∧ 0 ≤ t ∧ t ≤ 80 * k) ∧ Below w.heap.size w wr) (fun _ i _ => g.length - (intOf i).toNat)
      case atStart => exact ⟨0, Nat.zero_le _, rfl, ⟨0, rfl, by simp [Bs.sumZ], by omega, by omega⟩, HB.out⟩
      case round =>
        obtain ⟨k, hk, rfl, ⟨t, rfl, ht, ht0, ht1⟩, hb⟩ := hrel
        have sr := hb.size
        by_cases hlt : k < g.length
        · obtain ⟨bg, og, N, cN, rfl, _, _, k0, k1, k2, k3, hnc, hcN, hN⟩ := (HG.out.below hb hh) k hlt
          obtain ⟨⟨u0, u1⟩, _, _, u2, u3⟩ := HT.out k hlt
          have hst := HS.out k hlt
          rw [← ht] at hst
          have hff : Bs.workF p g[k] = if g[k].pool == p then g[k].time * g[k].units else 0 := rfl
          obtain ⟨b0, b1⟩ := Bs.work_b u0 u1 u2 u3
          have d1 : (k : Int) < (g.length : Int) := by omega
          have HB1 := Lib.hid hb
          clear hN hnc ht hb
          generalize g[k].pool = pv at *
          generalize g[k].time = tv at *
          generalize g[k].units = uv at *
          by_cases hpv : pv = p
          · have hq : (pv == p) = true := by simp [hpv]
            rw [hff, hq] at hst
            simp only [if_true] at hst
            have H1 := Lib.hid hst
            generalize hm : tv * uv = m at *
            have hw1 : IntKind.i64.wrap (tv * uv) = tv * uv := IntWalk.i64_in _ ⟨by omega, by omega⟩
            have hw2 : IntKind.i64.wrap (t + m) = t + m := IntWalk.i64_in _ ⟨by omega, by omega⟩
            clear hst hff hpv u0 u1 u2 u3
            go_wp2
            go_roundw
            case rel => exact ⟨k + 1, by omega, by go_num, ⟨t + m, by first | rfl | rw [hm], H1.out.symm, by omega, by omega⟩, HB1.out.alloc sr _⟩
            case measure => simp [intOf]; omega
          · have hq : (pv == p) = false := by simp [hpv]
            rw [hff, hq] at hst
            simp only [Bool.false_eq_true, if_false, Int.add_zero] at hst
            have H1 := Lib.hid hst
            clear hst hff hpv b0 b1
            go_wp2
            go_roundw
            case rel => exact ⟨k + 1, by omega, by go_num, ⟨t, rfl, H1.out.symm, by omega, by omega⟩, HB1.out.alloc sr _⟩
            case measure => simp [intOf]; omega
        · have e : g.take k = g := List.take_of_length_le (by omega)
          rw [e] at ht
          have HVT := Lib.hid (show Bs.poolT g p r = (t + r - 1) / r from by rw [HV.out, ht]; rfl)
          have hq : (r == 0) = false := by rw [beq_eq_false_iff_ne]; omega
          have hw1 : IntKind.i64.wrap (t + r) = t + r := IntWalk.i64_in _ ⟨by omega, by omega⟩
          have hw2 : IntKind.i64.wrap (t + r - 1) = t + r - 1 := IntWalk.i64_in _ ⟨by omega, by omega⟩
          clear ht e
          go_wp2
          go_ret
          exact ⟨ret_int HVT.out.symm, hb⟩
end Go.Proofs.Ytjahmejmkijkaaa
