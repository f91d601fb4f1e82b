/-
  WALKS: stages of the program: the next one.
-/
import Derived.Test.YtoaakidapgbhhaaMath130
import Derived.Test.YtoaakidapgbhhaaK7
import Derived.Test.YtoaakidapgbhhaaK11
namespace Go.Proofs.Ytoaakidapgbhhaa
open Go.RowKit
theorem Bs.okNext_open {g : List Bs.T} {d : List Int} {k : Nat} (hk : k < g.length) : Bs.okNext g d k = ((Bs.gi (Bs.openC g d) k == 0) && !d.contains (k : Int)) := by
  rw [Bs.openC_at hk, Bs.missC_all]
  unfold Bs.okNext
  rw [Bool.and_comm]
set_option maxHeartbeats 800000 in
theorem nextStage_any (A : Option Addr) (c : Nat) (g : List Bs.T) (d : List Int) (lo hi : Nat) (w : World) (h : RG w lo hi A g) (hh : hi ≤ w.heap.size) (hF : Bs.fine g = true) (hd : ∀ x ∈ d, 0 ≤ x ∧ x < 8) :
    Calls Try.prog 42 #[.slice A g.length c, .int .u64 (Bs.bits d : Nat)] w fun e w' => e = .returned (.int .u64 (Bs.bits (Bs.readyC g d) : Nat)) ∧ Below w.heap.size w w' := by
  have hgl := Bs.fine_len hF
  have C1 := Lib.hid (openNeeds_any A c g d lo hi w h hh hF hd)
  have hdl := Bs.bits_lt d hd
  have HT := Lib.hid (fun (k : Nat) (hk : k < 8) W => show Calls Try.prog 47 #[.int .u64 (Bs.bits d : Nat), .int .i64 k] W fun e w' => e = .returned (.bool (d.contains (k : Int))) ∧ W = w' from by
    have q := hasTask_any (Bs.bits d) k W hdl hk
    rw [Bs.bits_test d (fun x hx => (hd x hx).1) k] at q
    exact q)
  have HOL := Lib.hid (Bs.openC_len g d)
  have HOK := Lib.hid (fun k (hk : k < g.length) => Bs.okNext_open (d := d) hk)
  have HE := Lib.hid (show Bs.readyC g d = Bs.pick g.length (Bs.okNext g d) from rfl)
  have HOR := Lib.hid (fun (k : Nat) (hk : k < 8) => or_pow (Bs.bits (Bs.pick k (Bs.okNext g d))) k (Bs.bits_lt _ (fun x hx => by obtain ⟨j, hj, _, rfl⟩ := (Bs.mem_pick _ _ _).1 hx; omega)) hk)
  have HSN := Lib.hid (fun k => Bs.bits_snoc (Bs.pick k (Bs.okNext g d)) (k : Int))
  clear h hF hd hdl
  generalize Bs.openC g d = L at *
  generalize Bs.bits d = D at *
  go_enter Try.func42, Try.ntmps42
  go_wp2_with fail
  with_reducible refine (C1.out).mono ?_
  rintro e w1 ⟨⟨A1, c1, rfl, ho⟩, hb⟩
  have HB := Lib.hid hb
  have HR := Lib.hid ho.ri
  clear ho hb C1
  go_wp2
  go_loopw [5, 12] (fun v i wr => ∃ (k : Nat), k ≤ g.length ∧ i = .int .i64 k ∧ v = .int .u64 (Bs.bits (Bs.pick k (Bs.okNext g d)) : Nat) ∧ wr = w1) (fun _ i _ => g.length - (intOf i).toNat)
  case atStart => exact ⟨0, Nat.zero_le _, rfl, rfl, rfl⟩
  case round =>
    obtain ⟨k, hk, rfl, rfl, rfl⟩ := hrel
    have hol := HOL.out
    by_cases hlt : k < g.length
    · obtain ⟨b, o, rfl, _, _, hc⟩ := HR.out.at_ (k := k) (by omega)
      rw [show L[k] = Bs.gi L k from (gi_at (by omega)).symm] at hc
      have hok := HOK.out k hlt
      have hps := Bs.pick_succ k (Bs.okNext g d)
      rw [hok] at hps
      have c2 := HT.out k (by omega)
      have HORk := Lib.hid (HOR.out k (by omega))
      have hsn := HSN.out k
      rw [Int.toNat_natCast] at hsn
      have i0 : (0 : Int) ≤ (k : Int) := by omega
      have i1 : (k : Int) < (g.length : Int) := by omega
      have i2 : (k : Int) < (L.length : Int) := by omega
      clear hol hok HT HOK HOR HSN
      generalize Bs.gi L k = y at *
      cases hy : (y == 0)
      · rw [hy] at hps
        simp only [Bool.false_and, Bool.false_eq_true, if_false] at hps
        have HP := Lib.hid hps
        clear hps c2 hsn HORk
        go_wp2
        go_roundw
        case rel => exact ⟨k + 1, by omega, by go_num, by rw [HP.out], trivial⟩
        case measure => simp [intOf]; omega
      · cases hdc : d.contains (k : Int)
        · rw [hy, hdc] at hps
          rw [hdc] at c2
          simp only [Bool.not_false, Bool.and_self, if_true] at hps
          rw [← hps] at hsn
          have HP := Lib.hid hsn
          have C2 := Lib.hid c2
          clear hps c2 hsn hdc
          generalize Bs.bits (Bs.pick k (Bs.okNext g d)) = sb at *
          go_wp2_with fail
          with_reducible refine (C2.out _).mono ?_
          rintro e _ ⟨rfl, rfl⟩
          go_wp2
          rw [HORk.out]
          go_roundw
          case rel => exact ⟨k + 1, by omega, by go_num, by rw [HP.out], trivial⟩
          case measure => simp [intOf]; omega
        · rw [hy, hdc] at hps
          rw [hdc] at c2
          simp only [Bool.not_true, Bool.and_false, Bool.false_eq_true, if_false] at hps
          have HP := Lib.hid hps
          have C2 := Lib.hid c2
          clear hps c2 hsn hdc HORk
          go_wp2_with fail
          with_reducible refine (C2.out _).mono ?_
          rintro e _ ⟨rfl, rfl⟩
          go_wp2
          go_roundw
          case rel => exact ⟨k + 1, by omega, by go_num, by rw [HP.out], trivial⟩
          case measure => simp [intOf]; omega
    · obtain rfl : k = g.length := by omega
      have hnl : ¬ ((g.length : Int) < (L.length : Int)) := by omega
      clear hol
      go_wp2
      go_ret
      exact ⟨by rw [HE.out]; rfl, HB.out⟩
end Go.Proofs.Ytoaakidapgbhhaa
