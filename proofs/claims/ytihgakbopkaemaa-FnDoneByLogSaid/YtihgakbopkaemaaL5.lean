/-
  WALKS: the laws' helper: the sum of all times.
-/
import Derived.Test.YtihgakbopkaemaaW56
namespace Go.Proofs.Ytihgakbopkaemaa
open Go.RowKit
set_option maxHeartbeats 800000 in
theorem allTime_any (A : Option Addr) (c : Nat) (g : List Bs.T) (lo hi : Nat) (w : World) (h : RG w lo hi A g) (hF : Bs.fine g = true) :
    Calls Try.prog 28 #[.slice A g.length c] w fun e w' => e = .returned (.int .i64 (Bs.sumT g)) ∧ w = w' := by
  have h8 := Bs.fine_len hF
  have HS := Lib.hid (fun k hk => Bs.sumZ_takeT g Bs.T.time k hk)
  have HB := Lib.hid (fun k hk => Bs.sumT_b hF k hk)
  have HT := Lib.hid (fun i (hi : i < g.length) => Bs.fine_time' hF hi)
  have HG := Lib.hid h
  clear h hF
  go_enter Try.func28, Try.ntmps28
  go_wp2
  go_loop [3, 4] (fun s i => ∃ (k : Nat) (t : Int), k ≤ g.length ∧ s = .int .i64 t ∧ i = .int .i64 k ∧ t = Bs.sumZ ((g.take k).map Bs.T.time)) (fun _ i => g.length - (intOf i).toNat)
  case atStart => exact ⟨0, 0, Nat.zero_le _, rfl, rfl, rfl⟩
  case round =>
    obtain ⟨k, t, hk, rfl, rfl, ht⟩ := hrel
    by_cases hlt : k < g.length
    · obtain ⟨bg, og, N, cN, rfl, _, _, k0, k1, k2, k3, hnc, hcN, hN⟩ := HG.out k hlt
      have hst := HS.out k hlt
      rw [← ht] at hst
      have htb := HB.out k hk
      rw [← ht] at htb
      have htt := HT.out k hlt
      have H1 := Lib.hid hst
      have d1 : (k : Int) < (g.length : Int) := by omega
      have d0 : (0 : Int) ≤ (k : Int) := by omega
      clear hN hnc ht hst k1 k2 k3
      generalize g[k].time = tv at *
      have hw1 : IntKind.i64.wrap (t + tv) = t + tv := IntWalk.i64_in _ ⟨by omega, by omega⟩
      go_wp2
      go_round
      case rel => exact ⟨k + 1, t + tv, by omega, by first | rfl | rw [hw1], by go_num, H1.out.symm⟩
      case measure => simp [intOf]; omega
    · have e : g.take k = g := List.take_of_length_le (by omega)
      rw [e] at ht
      have HVT := Lib.hid (show t = Bs.sumT g from ht)
      clear ht e
      go_wp2
      go_ret
      exact ⟨ret_int HVT.out, rfl⟩
end Go.Proofs.Ytihgakbopkaemaa
