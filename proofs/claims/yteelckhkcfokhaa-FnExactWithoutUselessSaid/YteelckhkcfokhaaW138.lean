/-
  WALKS: the exact laws' held marks of tasks.
-/
import Derived.Test.YteelckhkcfokhaaW137
namespace Go.Proofs.Yteelckhkcfokhaa
open Go.RowKit
set_option maxHeartbeats 1600000 in
theorem heldTaskS_any (A : Option Addr) (c : Nat) (g : List Bs.T) (lo hi : Nat) (w : World) (h : HeldT w lo hi A g) (hn : g.length ≤ 1000) (hm : ∀ t ∈ g, t.needs.length ≤ 1000) :
    Calls Try.prog 27 #[.slice A g.length c, .int .i64 1] w fun e w' => e = .returned (.int .i64 (1 + (preT g g.length : Int))) ∧ w = w' := by
  have HPL := Lib.hid (preT_le hm)
  have HPS := Lib.hid (fun k (hk : k < g.length) => preT_succ hk)
  have HML := Lib.hid (fun k (hk : k < g.length) => hm _ (List.getElem_mem hk))
  have HH := Lib.hid h
  have hz : preT g 0 = 0 := rfl
  have HZ := Lib.hid hz
  clear hm hz h
  go_enter Try.func27, Try.ntmps27
  go_wp2
  go_loop [1, 5] (fun s i => ∃ k : Nat, k ≤ g.length ∧ i = .int .i64 k ∧ s = .int .i64 (1 + (preT g k : Int))) (fun _ i => g.length - (intOf i).toNat)
  case atStart => exact ⟨0, Nat.zero_le _, rfl, by rw [HZ.out]; rfl⟩
  case round =>
    obtain ⟨k, hk, rfl, rfl⟩ := hrel
    have hpk := HPL.out k hk
    by_cases hlt : k < g.length
    · obtain ⟨b, o, N, cN, rfl, h1, h2, c0, c1, c2, c3, hN⟩ := HH.out k hlt
      have hml := HML.out k hlt
      have C1 := Lib.hid (heldIntS_any N g[k].needs.length cN (1 + (preT g k : Int) + 1) lo hi w hN (by omega) (by omega) (by omega))
      have HPSk := Lib.hid (show (1 : Int) + (preT g k : Int) + 1 + (g[k].needs.length : Int) + 1 + 1 = 1 + (preT g (k + 1) : Int) from by rw [HPS.out k hlt]; omega)
      have i0 : (0 : Int) ≤ (k : Int) := by omega
      have i1 : (k : Int) < (g.length : Int) := by omega
      have hp0 : (0 : Int) ≤ (preT g k : Int) := by omega
      have hp1 : (preT g k : Int) ≤ 2000000 := by omega
      clear hN
      generalize (preT g k : Int) = p at *
      generalize hn : g[k].needs.length = n at *
      clear hn
      have e0 : ((1 + p) != (1 + p)) = false := by simp
      have e1 : ((1 + p + 1 + (n : Int)) != (1 + p + 1 + (n : Int))) = false := by simp
      have e2 : ((1 + p + 1 + (n : Int) + 1) != (1 + p + 1 + (n : Int) + 1)) = false := by simp
      have hneg : decide ((1 : Int) + p + 1 + (n : Int) < 0) = false := decide_eq_false (by omega)
      go_wp2_with fail
      with_reducible refine (C1.out).mono ?_
      rintro e w' ⟨rfl, rfl⟩
      go_wp2
      go_round
      case rel => exact ⟨k + 1, by omega, by go_num, by rw [← HPSk.out]⟩
      case measure => simp [intOf]; omega
    · obtain rfl : k = g.length := by omega
      go_wp2
      go_ret
      exact ⟨rfl, rfl⟩
end Go.Proofs.Yteelckhkcfokhaa
