/-
  WALKS: the laws' helper: all of the time.
-/
import Derived.Test.YtggekdohcancbaaL1
import Derived.Test.YtggekdohcancbaaK11
namespace Go.Proofs.Ytggekdohcancbaa
open Go.RowKit
theorem allTime_any (A : Option Addr) (c : Nat) (g : List Bs.T) (lo hi : Nat) (w : World) (h : RG w lo hi A g) (hl : g.length ≤ 8) (ht : ∀ i (hi : i < g.length), 0 ≤ g[i].time ∧ g[i].time ≤ 20) :
    Calls Try.prog 32 #[.slice A g.length c] w fun e w' => e = .returned (.int .i64 (Bs.sumL (g.map Bs.T.time))) ∧ w = w' := by
  have HT := Lib.hid ht
  clear ht
  go_enter Try.func32, Try.ntmps32
  go_wp2
  go_loop [3, 4] (fun s i => ∃ k : Nat, k ≤ g.length ∧ i = .int .i64 k ∧ ∃ t : Int, s = .int .i64 t ∧ t = Bs.sumL ((g.take k).map Bs.T.time) ∧ 0 ≤ t ∧ t ≤ 20 * k) (fun _ i => g.length - (intOf i).toNat)
  case atStart => exact ⟨0, Nat.zero_le _, rfl, 0, rfl, by simp [Bs.sumL], by omega, by omega⟩
  case round =>
    obtain ⟨k, hk, rfl, t, rfl, ht, ht0, ht1⟩ := hrel
    by_cases hlt : k < g.length
    · obtain ⟨b1, o1, N, cN, rfl, _, _, k0, k1, k2, k3, hnc, hcN, hN⟩ := h k hlt
      have hs := Bs.sum_take hlt
      rw [← ht] at hs
      have HS := Lib.hid hs
      obtain ⟨u0, u1⟩ := HT.out k hlt
      clear ht hs k1 k2 k3 hN
      generalize g[k].time = x at *
      have hw : IntKind.i64.wrap (t + x) = t + x := IntWalk.i64_in _ ⟨by omega, by omega⟩
      go_wp2
      go_round
      case rel => exact ⟨k + 1, by omega, by go_num, t + x, rfl, HS.out.symm, by omega, by omega⟩
      case measure => simp [intOf]; omega
    · have e : g.take k = g := List.take_of_length_le (by omega)
      rw [e] at ht
      subst ht
      clear e
      go_wp2
      go_ret
      exact ⟨rfl, rfl⟩
end Go.Proofs.Ytggekdohcancbaa
