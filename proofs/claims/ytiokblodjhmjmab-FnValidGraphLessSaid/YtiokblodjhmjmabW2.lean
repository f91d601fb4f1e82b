/-
  WALKS: valid tasks and valid graphs, of the model and of the program.
-/
import Derived.Test.YtiokblodjhmjmabW1
namespace Go.Proofs.Ytiokblodjhmjmab
open Go.RowKit

theorem validTaskS_any (t : Bs.T) (N : Option Addr) (c : Nat) (n : Int) (lo hi : Nat) (w : World) (h : RI w lo hi N t.needs) (hh : hi ≤ w.heap.size) (hl : t.needs.length ≤ 9223372036854775807) (hn : 0 ≤ n) (hn' : n ≤ 9223372036854775807) :
    Calls Try.prog 74 #[.agg #[.int .i64 t.time, .slice N t.needs.length c, .int .i64 t.pool, .int .i64 t.units], .int .i64 n] w fun e w' => e = .returned (.bool (Bs.validT n t)) ∧ Below w.heap.size w w' := by
  have hA : ∀ o, RI (w.alloc o) lo hi N t.needs := fun o => h.keep fun p _ hp => World.cell?_alloc_lt w o p (by omega)
  go_enter Try.func74, Try.ntmps74
  have c1 := fun w => inRange_any t.time 1 20 w
  generalize hb1 : decide (1 ≤ t.time ∧ t.time ≤ 20) = b1 at c1
  have c2 := fun w => inRange_any t.pool 0 2 w
  generalize hb2 : decide (0 ≤ t.pool ∧ t.pool ≤ 2) = b2 at c2
  have c3 := fun w => inRange_any t.units 1 4 w
  generalize hb3 : decide (1 ≤ t.units ∧ t.units ≤ 4) = b3 at c3
  have c4 := fun o => allIn_any N c t.needs 0 (n - 1) lo hi (w.alloc o) (hA o) hl
  generalize hb4 : Bs.allInB t.needs 0 (n - 1) = b4 at c4
  have c5 := fun o => ascends_any N c t.needs lo hi (w.alloc o) (hA o) hl
  generalize hb5 : Bs.asc t.needs = b5 at c5
  have B1 := Lib.hid hb1
  have B2 := Lib.hid hb2
  have B3 := Lib.hid hb3
  have B4 := Lib.hid hb4
  have B5 := Lib.hid hb5
  have C1 := Lib.hid c1
  have C2 := Lib.hid c2
  have C3 := Lib.hid c3
  have C4 := Lib.hid c4
  have C5 := Lib.hid c5
  clear hb1 hb2 hb3 hb4 hb5 c1 c2 c3 c4 c5
  have hv : Bs.validT n t = (b1 && b2 && b3 && b4 && b5) := by unfold Bs.validT; rw [B1.out, B2.out, B3.out, B4.out, B5.out]
  have HV := Lib.hid hv
  clear hv
  go_wp2_with fail
  refine (C1.out _).mono ?_; rintro e w' ⟨rfl, rfl⟩
  go_wp2_with fail
  · refine (C2.out _).mono ?_; rintro e w' ⟨rfl, rfl⟩
    go_wp2_with fail
    · refine (C3.out _).mono ?_; rintro e w' ⟨rfl, rfl⟩
      go_wp2_with fail
      · refine (C4.out _).mono ?_; rintro e w' ⟨rfl, rfl⟩
        go_wp2_with fail
        · refine (C5.out _).mono ?_; rintro e w' ⟨rfl, n, rfl⟩
          go_wp2_with fail
          go_ret
          exact ⟨ret_bool (by rw [HV.out]; simp [*]), by exact ((Below.refl _ _).alloc (Nat.le_refl _) _).drewN _⟩
        · go_ret
          exact ⟨ret_bool (by rw [HV.out]; simp [*]), by exact (Below.refl _ _).alloc (Nat.le_refl _) _⟩
      · go_ret
        exact ⟨ret_bool (by rw [HV.out]; simp [*]), by exact (Below.refl _ _).alloc (Nat.le_refl _) _⟩
    · go_ret
      exact ⟨ret_bool (by rw [HV.out]; simp [*]), by exact (Below.refl _ _).alloc (Nat.le_refl _) _⟩
  · go_ret
    exact ⟨ret_bool (by rw [HV.out]; simp [*]), by exact (Below.refl _ _).alloc (Nat.le_refl _) _⟩

theorem validTaskI_any (A0 : Option Addr) (n c0 : Nat) (t : Bs.T) (N : Option Addr) (c : Nat) (lo hi : Nat) (w : World) (h : RI w lo hi N t.needs) (hh : hi ≤ w.heap.size) (hl : t.needs.length ≤ 9223372036854775807) (hn' : n ≤ 9223372036854775807) :
    Calls Try.prog 71 #[.slice A0 n c0, .agg #[.int .i64 t.time, .slice N t.needs.length c, .int .i64 t.pool, .int .i64 t.units]] w fun e w' => e = .returned (.bool (Bs.validT n t)) ∧ Below w.heap.size w w' := by
  have hA : ∀ o, RI (w.alloc o) lo hi N t.needs := fun o => h.keep fun p _ hp => World.cell?_alloc_lt w o p (by omega)
  have c4 := fun o => ascendingTasks_any A0 n c0 N c t.needs lo hi (w.alloc o) hn' (hA o) hl
  generalize hb4 : (Bs.allInB t.needs 0 (n - 1) && Bs.asc t.needs) = b4 at c4
  have C4 := Lib.hid c4
  have HV := Lib.hid (Bs.validT_iff n t)
  rw [hb4] at HV
  clear c4 hb4
  go_enter Try.func71, Try.ntmps71
  go_wp2_with (go_at_call 77; refine (C4.out _).mono ?_; rintro e w' ⟨rfl, rfl⟩)
  all_goals go_ret
  all_goals refine ⟨ret_bool ?_, by exact (Below.refl _ _).alloc (Nat.le_refl _) _⟩
  all_goals
    have HW := HV.out
    clear HV C4 hA
    cases hv : Bs.validT n t
    · first
      | rfl
      | (rw [hv] at HW
         cases b4
         · rfl
         · exfalso
           have := HW.2 ⟨by omega, by omega, by omega, by omega, by omega, by omega, rfl⟩
           simp at this)
    · have := HW.1 hv
      first
      | omega
      | exact this.2.2.2.2.2.2.symm
      | exact this.2.2.2.2.2.2


theorem tasksFine_any (A : Option Addr) (c : Nat) (g : List Bs.T) (lo hi : Nat) (w : World) (h : RG w lo hi A g) (hh : hi ≤ w.heap.size) (hl : g.length ≤ 9223372036854775807) :
    Calls Try.prog 62 #[.slice A g.length c] w fun e w' => e = .returned (.bool (Bs.fine g)) ∧ Below w.heap.size w w' := by
  go_enter Try.func62, Try.ntmps62
  go_wp2
  go_loopw [3] (fun i wr => ∃ k : Nat, k ≤ g.length ∧ i = .int .i64 k ∧ (∀ j (hj : j < g.length), j < k → Bs.validT g.length g[j] = true) ∧ Below w.heap.size w wr) (fun i _ => g.length - (intOf i).toNat)
  case atStart => exact ⟨0, Nat.zero_le _, rfl, by intro j _ h; omega, Below.refl _ _⟩
  case round =>
    obtain ⟨k, hk, rfl, hn, hb⟩ := hrel
    have Hn := Lib.hid hn
    clear hn
    have hsz := hb.size
    by_cases hlt : k < g.length
    · have hr := h.below hb hh
      obtain ⟨b, o, N, cN, rfl, h1, h2, q0, q1, q2, q3, hlN, hcN, hN⟩ := hr k hlt
      clear hr
      have c1 := validTaskS_any g[k] N cN g.length lo hi wr hN (by omega) (by omega) (by omega) (by omega)
      generalize hv : Bs.validT g.length g[k] = bv at c1
      have HV := Lib.hid hv
      have C1 := Lib.hid c1
      clear hv c1
      cases bv
      · go_wp2_with (go_at_call 74; refine (C1.out).mono ?_; rintro e w' ⟨rfl, hb'⟩)
        go_ret
        refine ⟨ret_bool ?_, by exact hb.trans (hb'.mono (by omega))⟩
        symm
        rw [Bool.eq_false_iff]
        intro hx
        simp only [Bs.fine, Bool.and_eq_true, List.all_eq_true] at hx
        have := hx.1 _ (List.getElem_mem hlt)
        rw [HV.out] at this
        exact absurd this (by simp)
      · go_wp2_with (go_at_call 74; refine (C1.out).mono ?_; rintro e w' ⟨rfl, hb'⟩)
        go_roundw
        case rel =>
          refine ⟨k + 1, by omega, by go_num, ?_, hb.trans (hb'.mono (by omega))⟩
          intro j hj hjk
          by_cases e : j < k
          · exact Hn.out j hj e
          · have : j = k := by omega
            subst this
            exact HV.out
        case measure => simp [intOf]; omega
    · go_wp2
      go_ret
      refine ⟨ret_bool ?_, by exact hb⟩
      have hall : (g.all (Bs.validT g.length)) = true := by
        rw [List.all_eq_true]
        intro x hx
        obtain ⟨j, hj, rfl⟩ := List.mem_iff_getElem.1 hx
        exact Hn.out j hj (by omega)
      unfold Bs.fine
      rw [hall]
      simp
      omega

theorem validTasks_any (A : Option Addr) (c : Nat) (g : List Bs.T) (lo hi : Nat) (w : World) (h : RG w lo hi A g) (hh : hi ≤ w.heap.size) (hl : g.length ≤ 9223372036854775807) :
    Calls Try.prog 54 #[.slice A g.length c] w fun e w' => e = .returned (.bool (Bs.fine g)) ∧ Below w.heap.size w w' := by
  by_cases h8 : 8 < g.length
  · go_enter Try.func54, Try.ntmps54
    go_wp2
    go_ret
    refine ⟨ret_bool ?_, Below.refl _ _⟩
    unfold Bs.fine
    rw [show decide (g.length ≤ 8) = false from by simpa using h8]
    simp
  · go_enter Try.func54, Try.ntmps54
    go_wp2
    go_loopw [10] (fun i wr => ∃ k : Nat, k ≤ g.length ∧ i = .int .i64 k ∧ (∀ j (hj : j < g.length), j < k → Bs.validT g.length g[j] = true) ∧ Below w.heap.size w wr) (fun i _ => g.length - (intOf i).toNat)
    case atStart => exact ⟨0, Nat.zero_le _, rfl, by intro j _ h; omega, Below.refl _ _⟩
    case round =>
      obtain ⟨k, hk, rfl, hn, hb⟩ := hrel
      have Hn := Lib.hid hn
      clear hn
      have hsz := hb.size
      by_cases hlt : k < g.length
      · have hr := h.below hb hh
        obtain ⟨b, o, N, cN, rfl, h1, h2, q0, q1, q2, q3, hlN, hcN, hN⟩ := hr k hlt
        clear hr
        have hA : ∀ ob, RI (wr.alloc ob) lo hi N g[k].needs := fun ob => hN.keep fun p _ hp => World.cell?_alloc_lt wr ob p (by omega)
        have c1 := fun ob => validTaskI_any (some ⟨b, o, none⟩) g.length c g[k] N cN lo hi (wr.alloc ob) (hA ob) (by simp; omega) (by omega) (by omega)
        generalize hv : Bs.validT g.length g[k] = bv at c1
        have HV := Lib.hid hv
        have C1 := Lib.hid c1
        clear hv c1 hA
        cases bv
        · go_wp2_with (go_at_call 71; refine (C1.out _).mono ?_; rintro e w' ⟨rfl, hb'⟩)
          go_ret
          refine ⟨ret_bool ?_, by exact (hb.alloc hsz _).trans (hb'.mono (by simp; omega))⟩
          symm
          rw [Bool.eq_false_iff]
          intro hx
          simp only [Bs.fine, Bool.and_eq_true, List.all_eq_true] at hx
          have := hx.1 _ (List.getElem_mem hlt)
          rw [HV.out] at this
          exact absurd this (by simp)
        · go_wp2_with (go_at_call 71; refine (C1.out _).mono ?_; rintro e w' ⟨rfl, hb'⟩)
          go_roundw
          case rel =>
            refine ⟨k + 1, by omega, by go_num, ?_, (hb.alloc hsz _).trans (hb'.mono (by simp; omega))⟩
            intro j hj hjk
            by_cases e : j < k
            · exact Hn.out j hj e
            · have : j = k := by omega
              subst this
              exact HV.out
          case measure => simp [intOf]; omega
      · go_wp2
        go_ret
        refine ⟨ret_bool ?_, by exact hb⟩
        have hall : (g.all (Bs.validT g.length)) = true := by
          rw [List.all_eq_true]
          intro x hx
          obtain ⟨j, hj, rfl⟩ := List.mem_iff_getElem.1 hx
          exact Hn.out j hj (by omega)
        unfold Bs.fine
        rw [hall]
        simp
        omega
end Go.Proofs.Ytiokblodjhmjmab
