/-
  WALKS: what is admitted, of the program.
-/
import Derived.Test.YtjahmejmkijkaaaW37
import Derived.Test.YtjahmejmkijkaaaK11
namespace Go.Proofs.Ytjahmejmkijkaaa
open Go.RowKit
theorem and_bits (a b : Bool) : (a && b) = (b && a) := Bool.and_comm a b
set_option maxHeartbeats 1600000 in
theorem idleTasks_any (A : Option Addr) (n c : Nat) (A1 : Option Addr) (c1 : Nat) (r : List Int) (A2 : Option Addr) (c2 : Nat) (l : List Int) (l1 h1 l2 h2 : Nat) (w : World) (hr : RI w l1 h1 A1 r) (hl : RI w l2 h2 A2 l) (hn : n ≤ 8) (hrr : ∀ x ∈ r, 0 ≤ x ∧ x < n) (hrl : r.length ≤ 100) (hll : l.length ≤ 9223372036854775807) :
    Calls Try.prog 101 #[.slice A n c, .slice A1 r.length c1, .slice A2 l.length c2] w fun e w' => e = .returned (.bool (Bs.allInB l 0 ((n : Int) - 1) && Bs.idleB r l l.length)) ∧ w = w' := by
  have C1 := Lib.hid (setOf_any A1 c1 r l1 h1 w hr (by omega) (fun x hx => by have := hrr x hx; omega))
  have HR := Lib.hid hrr
  clear hrr hr
  go_enter Try.func101, Try.ntmps101
  go_wp2_with fail
  refine (C1.out).mono ?_
  rintro e w1 ⟨rfl, rfl⟩
  go_wp2
  go_loop [7, 14] (fun s i => ∃ k : Nat, k ≤ l.length ∧ i = .int .i64 k ∧ s = .int .u64 (Bs.bits (r ++ l.take k) : Nat) ∧ Bs.idleB r l k = true ∧ (∀ x ∈ l.take k, 0 ≤ x ∧ x < n)) (fun _ i => l.length - (intOf i).toNat)
  case atStart => exact ⟨0, Nat.zero_le _, rfl, by simp, rfl, by simp⟩
  case round =>
    obtain ⟨k, hk, rfl, rfl, hid, hx⟩ := hrel
    have h8 : ∀ x ∈ r ++ l.take k, 0 ≤ x ∧ x < 8 := by
      intro x hx'
      rw [List.mem_append] at hx'
      rcases hx' with h | h
      · have := HR.out x h; omega
      · have := hx x h; omega
    by_cases hlt : k < l.length
    · obtain ⟨b, o, rfl, _, _, hc⟩ := hl.at_ hlt
      have c3 := fun W => isTask_any A n c l[k] W (by omega)
      have hgz := Bs.giZ_at hlt
      have HX := Lib.hid hx
      have H8 := Lib.hid h8
      have HI := Lib.hid hid
      have hs := Bs.bits_lt _ h8
      clear hx h8 hid
      cases ht : decide (0 ≤ l[k] ∧ l[k] < (n : Int))
      · rw [ht] at c3
        have C3 := Lib.hid c3
        have HF := Lib.hid (show Bs.allInB l 0 ((n : Int) - 1) = false from Bs.all_false_at hlt (by rw [decide_eq_false_iff_not] at ht ⊢; omega))
        clear c3 ht
        generalize Bs.bits (r ++ l.take k) = D at *
        go_wp2_with fail
        refine (C3.out _).mono ?_
        rintro e w2 ⟨rfl, rfl⟩
        go_wp2
        go_ret
        exact ⟨ret_bool (by rw [HF.out]; rfl), rfl⟩
      · rw [ht] at c3
        rw [decide_eq_true_eq] at ht
        obtain ⟨v, hv⟩ : ∃ v : Nat, l[k] = (v : Int) := ⟨l[k].toNat, by omega⟩
        rw [hv] at c3 hc hgz ht
        have hv8 : v < 8 := by omega
        have c4 := fun W => hasTask_any (Bs.bits (r ++ l.take k)) v W hs hv8
        have hb := Bs.bits_test (r ++ l.take k) (fun x hx => (H8.out x hx).1) v
        rw [hb] at c4
        have hS : Bs.bits (r ++ l.take (k + 1)) = Bs.bits (r ++ l.take k) ||| (1 <<< v) := by
          rw [List.take_succ_eq_append_getElem hlt, ← List.append_assoc, Bs.bits_snoc, hv, Int.toNat_natCast]
        have hor := or_pow (Bs.bits (r ++ l.take k)) v hs hv8
        have hct : (r ++ l.take k).contains (v : Int) = (r.contains (v : Int) || (l.take k).contains (v : Int)) := by
          rw [Bool.eq_iff_iff, Bool.or_eq_true]
          simp only [Bs.contains_iff', List.mem_append]
        have hsu := Bs.idleB_succ r l k
        have hno := fun h => Bs.idleB_no (r := r) (l := l) hlt h
        rw [hgz] at hsu hno
        have HXX := Lib.hid (show ∀ x ∈ l.take (k + 1), 0 ≤ x ∧ x < n from by
          intro x hx
          rw [List.take_succ_eq_append_getElem hlt, List.mem_append, List.mem_singleton] at hx
          rcases hx with hx | hx
          · exact HX.out x hx
          · rw [hx, hv]; omega)
        cases hq : (r ++ l.take k).contains (v : Int)
        · rw [hq] at c4
          have C3 := Lib.hid c3
          have C4 := Lib.hid c4
          have HQ := Lib.hid (show Bs.idleB r l (k + 1) = true from by
            rw [hsu, HI.out]
            rw [hq] at hct
            have h5 := hct.symm
            rw [Bool.or_eq_false_iff] at h5
            rw [h5.1, h5.2]
            rfl)
          have HS := Lib.hid hS
          have HO := Lib.hid hor
          clear c3 c4 hb hS hor hct hsu hno hq hgz hv
          generalize Bs.bits (r ++ l.take k) = D at *
          go_wp2_with fail
          refine (C3.out _).mono ?_
          rintro e w2 ⟨rfl, rfl⟩
          go_wp2_with fail
          refine (C4.out _).mono ?_
          rintro e w2 ⟨rfl, rfl⟩
          go_wp2
          go_round
          case rel => exact ⟨k + 1, by omega, by go_num, by rw [HS.out, ← HO.out], HQ.out, HXX.out⟩
          case measure => simp [intOf]; omega
        · rw [hq] at c4
          have C3 := Lib.hid c3
          have C4 := Lib.hid c4
          have HF := Lib.hid (show Bs.idleB r l l.length = false from hno (by
            rw [hq] at hct
            have h5 := hct.symm
            rw [Bool.or_eq_true] at h5
            rcases h5 with h5 | h5
            · rw [h5]; rfl
            · rw [h5]; simp))
          clear c3 c4 hb hS hor hct hsu hno hq hgz hv
          generalize Bs.bits (r ++ l.take k) = D at *
          go_wp2_with fail
          refine (C3.out _).mono ?_
          rintro e w2 ⟨rfl, rfl⟩
          go_wp2_with fail
          refine (C4.out _).mono ?_
          rintro e w2 ⟨rfl, rfl⟩
          go_wp2
          go_ret
          exact ⟨ret_bool (by rw [HF.out]; simp), rfl⟩
    · obtain rfl : k = l.length := by omega
      rw [List.take_length] at hx
      have HA := Lib.hid (show Bs.allInB l 0 ((n : Int) - 1) = true from by
        unfold Bs.allInB
        rw [List.all_eq_true]
        intro x hx'
        have := hx x hx'
        rw [decide_eq_true_eq]
        omega)
      have HI := Lib.hid hid
      clear hx hid h8
      go_wp2
      go_ret
      exact ⟨ret_bool (by rw [HA.out, HI.out]; rfl), rfl⟩
end Go.Proofs.Ytjahmejmkijkaaa
