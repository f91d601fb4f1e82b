/-
  WALKS: tries, of the model.
-/
import Derived.Test.YtoggbndpjcfmiaaBo
import Derived.Test.YtoggbndpjcfmiaaMath62
namespace Go.Proofs.Ytoggbndpjcfmiaa
open Go.RowKit
theorem delayS_any (m : Nat) (w : World) (hm : m ≤ 1000) : Calls Try.prog 34 #[.int .i64 ((m : Int) + 1)] w fun e w' => e = .returned (.int .i64 (Bs.delayN m)) ∧ w = w' := by
  have HS := Lib.hid (fun k => show min (2 * Bs.delayN k) 20 = Bs.delayN (k + 1) from rfl)
  go_enter Try.func34, Try.ntmps34
  go_wp2
  go_loop [3, 4] (fun s i => ∃ k : Nat, k ≤ m ∧ s = .int .i64 (Bs.delayN k) ∧ i = .int .i64 ((k : Int) + 1)) (fun _ i => m + 1 - (intOf i).toNat)
  case atStart => exact ⟨0, Nat.zero_le _, rfl, rfl⟩
  case round =>
    obtain ⟨k, hk, rfl, rfl⟩ := hrel
    have hd := Bs.delayN_b k
    have hs := Lib.hid (HS.out k)
    clear HS
    by_cases hlt : k < m
    · generalize Bs.delayN k = d at *
      have hw : IntKind.i64.wrap (2 * d) = 2 * d := IntWalk.i64_in _ ⟨by omega, by omega⟩
      have hw2 : IntKind.i64.wrap ((k : Int) + 1 + 1) = (k : Int) + 1 + 1 := IntWalk.i64_in _ ⟨by omega, by omega⟩
      go_wp2
      all_goals go_round
      all_goals first
        | (case rel => exact ⟨k + 1, by omega, by first | rw [hs.out] | (congr 1; have := hs.out; omega) | (congr 1; have := hs.out; split <;> omega), by go_num⟩)
        | skip
      all_goals first
        | (case measure => simp [intOf]; omega)
        | skip
    · obtain rfl : k = m := by omega
      go_wp2
      go_ret
      exact ⟨rfl, rfl⟩
theorem DelayOfS_any (t : Int) (w : World) : Calls Try.prog 14 #[.int .i64 t] w fun e w' => e = .returned (.int .i64 (Bs.delayL t)) ∧ w = w' := by
  have c1 := fun W => inRange_any t 1 5 W
  cases ht : decide (1 ≤ t ∧ t ≤ 5)
  · rw [ht] at c1
    have C1 := Lib.hid c1
    have HV := Lib.hid (Bs.delayL_no (by simpa using ht))
    clear c1 ht
    go_enter Try.func14, Try.ntmps14
    go_wp2_with fail
    with_reducible refine (C1.out _).mono ?_
    rintro e w1 ⟨rfl, rfl⟩
    go_wp2
    go_ret
    exact ⟨ret_int HV.out.symm, rfl⟩
  · rw [ht] at c1
    rw [decide_eq_true_eq] at ht
    obtain ⟨m, rfl, hm⟩ : ∃ m : Nat, t = (m : Int) + 1 ∧ m ≤ 4 := ⟨(t - 1).toNat, by omega, by omega⟩
    have C1 := Lib.hid c1
    have C2 := Lib.hid (fun W => delayS_any m W (by omega))
    have HV := Lib.hid (Bs.delayL_yes hm)
    clear c1 ht
    go_enter Try.func14, Try.ntmps14
    go_wp2_with fail
    with_reducible refine (C1.out _).mono ?_
    rintro e w1 ⟨rfl, rfl⟩
    go_wp2_with fail
    with_reducible refine (C2.out _).mono ?_
    rintro e w1 ⟨rfl, rfl⟩
    go_wp2
    go_ret
    exact ⟨ret_int HV.out.symm, rfl⟩
theorem validOutcome_any (A : Option Addr) (c : Nat) (l : List Bool) (t : Int) (w : World) (_hl : l.length ≤ 9223372036854775807) :
    Calls Try.prog 38 #[.slice A l.length c, .int .i64 t] w fun e w' => e = .returned (.bool (Bs.canT l t)) ∧ w = w' := by
  have HE := Lib.hid (show Bs.canT l t = (decide (1 ≤ l.length ∧ l.length ≤ 6) && decide (0 ≤ t ∧ t ≤ 5)) from rfl)
  have c1 := fun W => inRange_any (l.length : Int) 1 6 W
  have c2 := fun W => inRange_any t 0 5 W
  have e1 : decide ((1 : Int) ≤ (l.length : Int) ∧ (l.length : Int) ≤ 6) = decide (1 ≤ l.length ∧ l.length ≤ 6) := by
    rw [decide_eq_decide]; omega
  rw [e1] at c1
  clear e1
  generalize decide (1 ≤ l.length ∧ l.length ≤ 6) = b1 at *
  generalize decide (0 ≤ t ∧ t ≤ 5) = b2 at *
  have C1 := Lib.hid c1
  have C2 := Lib.hid c2
  clear c1 c2
  cases b1
  · go_enter Try.func38, Try.ntmps38
    go_wp2_with fail
    with_reducible refine (C1.out _).mono ?_
    rintro e w1 ⟨rfl, rfl⟩
    go_wp2
    go_ret
    exact ⟨ret_bool (by rw [HE.out]; rfl), rfl⟩
  · go_enter Try.func38, Try.ntmps38
    go_wp2_with fail
    with_reducible refine (C1.out _).mono ?_
    rintro e w1 ⟨rfl, rfl⟩
    go_wp2_with fail
    with_reducible refine (C2.out _).mono ?_
    rintro e w1 ⟨rfl, rfl⟩
    go_wp2
    go_ret
    exact ⟨ret_bool (by rw [HE.out]; rfl), rfl⟩
set_option maxHeartbeats 800000 in
theorem runs_any (A : Option Addr) (c : Nat) (l : List Bool) (t : Int) (lo hi : Nat) (w : World) (h : RL w lo hi A l) (hc : Bs.canT l t = true) :
    Calls Try.prog 39 #[.slice A l.length c, .int .i64 t] w fun e w' => e = .returned (.tuple #[.int .i64 (Bs.runN l t), .bool (Bs.okR l t)]) ∧ w = w' := by
  obtain ⟨g1, g2, g3, g4⟩ := Bs.canT_iff.1 hc
  have HU := Lib.hid (fun k (hk : Bs.IsRun l t k) => Bs.runN_eq g2 hk)
  have HK := Lib.hid (show Bs.okR l t = Bs.gb l (Bs.runN l t - 1) from rfl)
  have HGB := Lib.hid (fun i (hi : i < l.length) => Bs.gb_at (l := l) hi)
  have HR := Lib.hid h
  clear hc h
  go_enter Try.func39, Try.ntmps39
  go_wp2
  go_loop [6] (fun i => ∃ j : Nat, j ≤ l.length ∧ (j : Int) ≤ t + 1 ∧ i = .int .i64 (j : Int) ∧ ∀ x, x < j → Bs.gb l x = false) (fun i => l.length + 1 - (intOf i).toNat)
  case atStart => exact ⟨0, by omega, by omega, rfl, by intro x h1; omega⟩
  case round =>
    obtain ⟨j, hj, hjt, rfl, hno⟩ := hrel
    have HNO := Lib.hid hno
    clear hno
    by_cases h1 : (j : Int) < (l.length : Int)
    · by_cases h2 : (j : Int) ≤ t
      · have hjl : j < l.length := by omega
        obtain ⟨b, o, rfl, _, _, hcell⟩ := (HR.out).at_ hjl
        have HJ := Lib.hid (HGB.out j hjl)
        have i0 : (0 : Int) ≤ (j : Int) := by omega
        generalize hbb : l[j] = bj at *
        clear hbb
        cases bj
        · clear HU HGB
          go_wp2
          go_round
          case rel =>
            refine ⟨j + 1, by omega, by omega, by go_num, ?_⟩
            intro x hx
            by_cases e : x = j
            · subst e; exact HJ.out
            · exact HNO.out x (by omega)
          case measure => simp [intOf]; omega
        · have e := HU.out (j + 1) ⟨by omega, Bs.stopR_yes.2 (.inl (by rw [Nat.add_sub_cancel]; exact HJ.out)), by
            intro x hx hxk
            exact Bs.stopR_no.2 ⟨HNO.out (x - 1) (by omega), by omega, by omega⟩⟩
          have HX := Lib.hid (show (Ending.returned (.tuple #[.int .i64 ((j : Int) + 1), .bool true])) = .returned (.tuple #[.int .i64 (Bs.runN l t), .bool (Bs.okR l t)]) from by
            rw [HK.out, ← e, Nat.add_sub_cancel, HJ.out]
            rfl)
          clear e HU HGB
          go_wp2
          go_ret2
          exact ⟨HX.out, rfl⟩
      · have hjj : (j : Int) = t + 1 := by omega
        have e := HU.out j ⟨by omega, Bs.stopR_yes.2 (.inr (.inl (by omega))), by
            intro x hx hxk
            exact Bs.stopR_no.2 ⟨HNO.out (x - 1) (by omega), by omega, by omega⟩⟩
        have HX := Lib.hid (show (Ending.returned (.tuple #[.int .i64 (t + 1), .bool false])) = .returned (.tuple #[.int .i64 (Bs.runN l t), .bool (Bs.okR l t)]) from by
            rw [HK.out, ← e, HNO.out (j - 1) (by omega), hjj])
        have hm : min (l.length : Int) (t + 1) = t + 1 := by omega
        clear e HU HGB
        go_wp2
        all_goals first
          | (exfalso; omega)
          | (go_ret2; exact ⟨HX.out, rfl⟩)
          | (go_ret2; exact ⟨by rw [hm]; exact HX.out, rfl⟩)
    · have hjj : j = l.length := by omega
      have e := HU.out j ⟨by omega, Bs.stopR_yes.2 (.inr (.inr (by omega))), by
            intro x hx hxk
            exact Bs.stopR_no.2 ⟨HNO.out (x - 1) (by omega), by omega, by omega⟩⟩
      have HX := Lib.hid (show (Ending.returned (.tuple #[.int .i64 (l.length : Int), .bool false])) = .returned (.tuple #[.int .i64 (Bs.runN l t), .bool (Bs.okR l t)]) from by
            rw [HK.out, ← e, HNO.out (j - 1) (by omega), hjj])
      have hm : min (l.length : Int) (t + 1) = (l.length : Int) := by omega
      clear e HU HGB
      go_wp2
      all_goals first
        | (exfalso; omega)
        | (go_ret2; exact ⟨HX.out, rfl⟩)
        | (go_ret2; exact ⟨by rw [hm]; exact HX.out, rfl⟩)
theorem TryTaskS_any (A : Option Addr) (c : Nat) (l : List Bool) (t : Int) (lo hi : Nat) (w : World) (h : RL w lo hi A l) (_hh : hi ≤ w.heap.size) (hl : l.length ≤ 9223372036854775807) :
    Calls Try.prog 17 #[.slice A l.length c, .int .i64 t] w fun e w' => e = .returned (.tuple #[.int .i64 (Bs.tryN l t), .bool (Bs.tryB l t)]) ∧ w = w' := by
  have c1 := validOutcome_any A c l t w hl
  cases hc : Bs.canT l t
  · rw [hc] at c1
    have C1 := Lib.hid c1
    have HN := Lib.hid (Bs.tryN_no hc)
    have HT := Lib.hid (Bs.tryB_no hc)
    clear c1 hc h
    go_enter Try.func17, Try.ntmps17
    go_wp2_with fail
    with_reducible refine (C1.out).mono ?_
    rintro e w1 ⟨rfl, rfl⟩
    go_wp2
    go_ret2
    exact ⟨by rw [HN.out, HT.out]; rfl, rfl⟩
  · rw [hc] at c1
    have C1 := Lib.hid c1
    have C2 := Lib.hid (runs_any A c l t lo hi w h hc)
    have HN := Lib.hid (Bs.tryN_yes hc)
    have HT := Lib.hid (Bs.tryB_yes hc)
    clear c1 hc h
    go_enter Try.func17, Try.ntmps17
    go_wp2_with fail
    with_reducible refine (C1.out).mono ?_
    rintro e w1 ⟨rfl, rfl⟩
    go_wp2_with fail
    with_reducible refine (C2.out).mono ?_
    rintro e w1 ⟨rfl, rfl⟩
    go_wp2
    go_ret2
    exact ⟨by rw [HN.out, HT.out]; rfl, rfl⟩
theorem IsFlakyS_any (A : Option Addr) (c : Nat) (l : List Bool) (t : Int) (lo hi : Nat) (w : World) (h : RL w lo hi A l) (_hh : hi ≤ w.heap.size) (hl : l.length ≤ 9223372036854775807) :
    Calls Try.prog 23 #[.slice A l.length c, .int .i64 t] w fun e w' => e = .returned (.bool (Bs.flakB l t)) ∧ w = w' := by
  have c1 := validOutcome_any A c l t w hl
  have HV := Lib.hid (show Bs.flakB l t = (Bs.tryB l t && decide (1 < Bs.tryN l t)) from rfl)
  cases hc : Bs.canT l t
  · rw [hc] at c1
    have C1 := Lib.hid c1
    have HT := Lib.hid (Bs.tryB_no hc)
    clear c1 hc h
    go_enter Try.func23, Try.ntmps23
    go_wp2_with fail
    with_reducible refine (C1.out).mono ?_
    rintro e w1 ⟨rfl, rfl⟩
    go_wp2
    go_ret
    exact ⟨ret_bool (by rw [HV.out, HT.out]; rfl), rfl⟩
  · rw [hc] at c1
    have C1 := Lib.hid c1
    have c2 := runs_any A c l t lo hi w h hc
    have hn := Bs.tryN_yes hc
    have ht := Bs.tryB_yes hc
    rw [← hn, ← ht] at c2
    have C2 := Lib.hid c2
    clear c1 c2 hc h hn ht
    generalize Bs.tryB l t = tb at *
    generalize Bs.tryN l t = n at *
    go_enter Try.func23, Try.ntmps23
    go_wp2_with fail
    with_reducible refine (C1.out).mono ?_
    rintro e w1 ⟨rfl, rfl⟩
    go_wp2_with fail
    with_reducible refine (C2.out).mono ?_
    rintro e w1 ⟨rfl, rfl⟩
    cases tb
    · go_wp2
      go_ret
      exact ⟨ret_bool (by rw [HV.out]; rfl), rfl⟩
    · go_wp2
      go_ret
      exact ⟨ret_bool (by rw [HV.out]; simp), rfl⟩
set_option maxHeartbeats 800000 in
theorem TryTimeS_any (A : Option Addr) (c : Nat) (l : List Bool) (t z : Int) (lo hi : Nat) (w : World) (h : RL w lo hi A l) (_hh : hi ≤ w.heap.size) (hl : l.length ≤ 9223372036854775807) :
    Calls Try.prog 20 #[.slice A l.length c, .int .i64 t, .int .i64 z] w fun e w' => e = .returned (.int .i64 (Bs.tryT l t z)) ∧ w = w' := by
  have c1 := validOutcome_any A c l t w hl
  have c2 := fun W => inRange_any z 1 20 W
  cases hc : Bs.canT l t
  · rw [hc] at c1
    have C1 := Lib.hid c1
    have HV := Lib.hid (Bs.tryT_no1 (z := z) hc)
    clear c1 c2 hc h
    go_enter Try.func20, Try.ntmps20
    go_wp2_with fail
    with_reducible refine (C1.out).mono ?_
    rintro e w1 ⟨rfl, rfl⟩
    go_wp2
    go_ret
    exact ⟨ret_int HV.out.symm, rfl⟩
  · cases hz : decide (1 ≤ z ∧ z ≤ 20)
    · rw [hc] at c1
      rw [hz] at c2
      have C1 := Lib.hid c1
      have C2 := Lib.hid c2
      have HV := Lib.hid (Bs.tryT_no2 (l := l) (t := t) hz)
      clear c1 c2 hc hz h
      go_enter Try.func20, Try.ntmps20
      go_wp2_with fail
      with_reducible refine (C1.out).mono ?_
      rintro e w1 ⟨rfl, rfl⟩
      go_wp2_with fail
      with_reducible refine (C2.out _).mono ?_
      rintro e w1 ⟨rfl, rfl⟩
      go_wp2
      go_ret
      exact ⟨ret_int HV.out.symm, rfl⟩
    · rw [hc] at c1
      rw [hz] at c2
      have C1 := Lib.hid c1
      have C2 := Lib.hid c2
      have C3 := Lib.hid (runs_any A c l t lo hi w h hc)
      have hb := Bs.runN_b hc
      have h6 := (Bs.canT_iff.1 hc).2.1
      have hv := Bs.tryT_yes hc hz
      rw [Bs.timeR_sum, show ((Bs.runN l t - 1 : Nat) : Int) + 1 = (Bs.runN l t : Int) from by omega] at hv
      have HV := Lib.hid hv
      rw [decide_eq_true_eq] at hz
      have HSB := Lib.hid (fun k => Bs.sumD_b k)
      have HDB := Lib.hid (fun k => Bs.delayN_b k)
      have HSS := Lib.hid (fun k => show Bs.sumD (k + 1) = Bs.sumD k + Bs.delayN k from rfl)
      have C4 := Lib.hid (fun k (hk : k ≤ 1000) W => delayS_any k W hk)
      clear c1 c2 hc h hv
      generalize Bs.okR l t = tb at *
      generalize Bs.runN l t = n at *
      have hnz : 0 ≤ (n : Int) * z ∧ (n : Int) * z ≤ 120 := by
        have : n = 1 ∨ n = 2 ∨ n = 3 ∨ n = 4 ∨ n = 5 ∨ n = 6 := by omega
        rcases this with rfl | rfl | rfl | rfl | rfl | rfl <;> omega
      have hw : IntKind.i64.wrap ((n : Int) * z) = (n : Int) * z := IntWalk.i64_in _ ⟨by omega, by omega⟩
      go_enter Try.func20, Try.ntmps20
      go_wp2_with fail
      with_reducible refine (C1.out).mono ?_
      rintro e w1 ⟨rfl, rfl⟩
      go_wp2_with fail
      with_reducible refine (C2.out _).mono ?_
      rintro e w1 ⟨rfl, rfl⟩
      go_wp2_with fail
      with_reducible refine (C3.out).mono ?_
      rintro e w1 ⟨rfl, rfl⟩
      clear C1 C2 C3
      go_wp2
      generalize (n : Int) * z = nz at *
      go_loop [9, 10] (fun s i => ∃ k : Nat, k + 1 ≤ n ∧ s = .int .i64 (nz + Bs.sumD k) ∧ i = .int .i64 ((k : Int) + 1)) (fun _ i => n + 1 - (intOf i).toNat)
      case atStart => exact ⟨0, by omega, by simp [Bs.sumD], rfl⟩
      case round =>
        obtain ⟨k, hk, rfl, rfl⟩ := hrel
        have b1 := HSB.out k
        have b2 := HDB.out k
        have hss := Lib.hid (HSS.out k)
        by_cases hlt : k + 1 < n
        · have C5 := Lib.hid (C4.out k (by omega))
          have d1 : (k : Int) + 1 < (n : Int) := by omega
          clear HSB HDB HSS C4
          generalize Bs.sumD k = sk at *
          generalize Bs.delayN k = d at *
          have hw2 : IntKind.i64.wrap (nz + sk + d) = nz + sk + d := IntWalk.i64_in _ ⟨by omega, by omega⟩
          go_wp2_with fail
          with_reducible refine (C5.out _).mono ?_
          rintro e w1 ⟨rfl, rfl⟩
          go_wp2
          go_round
          case rel => exact ⟨k + 1, by omega, by congr 1; have := hss.out; omega, by go_num⟩
          case measure => simp [intOf]; omega
        · have d1 : ¬ (k : Int) + 1 < (n : Int) := by omega
          have HT := Lib.hid (show nz + Bs.sumD k = Bs.tryT l t z from by rw [HV.out, show n - 1 = k from by omega])
          clear HSB HDB HSS C4 hss
          go_wp2
          go_ret
          exact ⟨ret_int HT.out, rfl⟩
end Go.Proofs.Ytoggbndpjcfmiaa
