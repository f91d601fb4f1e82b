/-
  WHAT THE LAWS OF STALE TASKS AND KEYS WANT: facts on the answers, ready for the walks. No condition.
-/
import Derived.Test.YtggekdohcancbaaW91
namespace Go.Proofs.Ytggekdohcancbaa
open Go.RowKit
theorem StaleTasks_len100 (g : List Bs.T) (F : List Int) (_hg : g.length ≤ 100) (_hd : F.length ≤ 100) : (Bs.staleL g F).length ≤ 1000 := staleL_len1000 g F
theorem TaskKeys_len100 (g : List Bs.T) (F : List Int) (_hg : g.length ≤ 100) (_hd : F.length ≤ 100) : (Bs.keysL g F).length ≤ 1000 := keysL_len1000 g F
theorem sta_can {g : List Bs.T} {F L : List Int} (hL : L = Bs.staleL g F) (h0 : ¬ L.length = 0) : Bs.staOk g F = true := by
  cases h : Bs.staOk g F
  · rw [Bs.staleL_no h] at hL; rw [hL] at h0; exact absurd rfl h0
  · rfl
theorem sta_is {g : List Bs.T} {F L : List Int} (hL : L = Bs.staleL g F) (h : Bs.staOk g F = true) : L = Bs.staleC g F := by rw [hL, Bs.staleL_yes h]
theorem key_can {g : List Bs.T} {F L : List Int} (hL : L = Bs.keysL g F) (h0 : ¬ L.length = 0) : Bs.inpOk g F = true := by
  cases h : Bs.inpOk g F
  · rw [Bs.keysL_no h] at hL; rw [hL] at h0; exact absurd rfl h0
  · rfl
theorem key_is {g : List Bs.T} {F L : List Int} (hL : L = Bs.keysL g F) (h : Bs.inpOk g F = true) : L = Bs.keysC g F := by rw [hL, Bs.keysL_yes h]
theorem users_test {g : List Bs.T} (hv : Bs.valid g = true) {x : Int} (hx : 0 ≤ x ∧ x < g.length) {i : Nat} (hi : i < g.length) : (Bs.usersA g x).contains (i : Int) = Bs.reachB g i x.toNat := by
  have e : x = ((x.toNat : Nat) : Int) := by omega
  rw [e, usersA_yes hv (by omega), Bool.eq_iff_iff, Bs.contains_iff', Bs.mem_pick_nat, Int.toNat_natCast]
  exact ⟨fun h => h.2, fun h => ⟨hi, h⟩⟩
theorem users_len {g : List Bs.T} (hv : Bs.valid g = true) {x : Int} (hx : 0 ≤ x ∧ x < g.length) : (Bs.usersA g x).length ≤ 8 := by
  have e : x = ((x.toNat : Nat) : Int) := by omega
  rw [e, usersA_yes hv (by omega)]
  have := Bs.pick_len g.length (fun j => Bs.reachB g j x.toNat)
  have := Bs.fine_len (valid_fine hv)
  omega
theorem any_tk2 {F : List Int} {p : Int → Bool} {k : Nat} (hk : k < F.length) : (F.take (k + 1)).any p = ((F.take k).any p || p F[k]) := by
  rw [List.take_succ_eq_append_getElem hk, List.any_append]
  simp
end Go.Proofs.Ytggekdohcancbaa
