/-
  WALKS: the laws' sum of a list.
-/
import Derived.Test.YtlanlcdbcblfjaaL1
import Derived.Test.YtlanlcdbcblfjaaK2
namespace Go.Proofs.Ytlanlcdbcblfjaa
open Go.RowKit
theorem sum_bd {l : List Int} (hb : ∀ x ∈ l, 0 ≤ x ∧ x ≤ 100) : ∀ k, k ≤ l.length → 0 ≤ Bs.sumZ (l.take k) ∧ Bs.sumZ (l.take k) ≤ 100 * k := by
  intro k
  induction k with
  | zero => intro _; simp [Bs.sumZ]
  | succ k ih =>
    intro hk
    have h1 := ih (by omega)
    have h2 := hb l[k] (List.getElem_mem (by omega))
    rw [List.take_succ_eq_append_getElem (by omega), Bs.sumZ_append]
    simp only [Bs.sumZ]
    omega
theorem lsum_any (A : Option Addr) (c : Nat) (l : List Int) (lo hi : Nat) (w : World) (h : RI w lo hi A l) (hl : l.length ≤ 1000) (hb : ∀ x ∈ l, 0 ≤ x ∧ x ≤ 100) :
    Calls Try.prog 20 #[.slice A l.length c] w fun e w' => e = .returned (.int .i64 (Bs.sumZ l)) ∧ w = w' := by
  have HX := Lib.hid (sum_bd hb)
  have HY := Lib.hid hb
  clear hb
  go_enter Try.func20, Try.ntmps20
  go_wp2
  go_loop [3, 4] (fun s i => ∃ k : Nat, k ≤ l.length ∧ i = .int .i64 k ∧ ∃ a : Int, s = .int .i64 a ∧ a = Bs.sumZ (l.take k)) (fun _ i => l.length - (intOf i).toNat)
  case atStart => exact ⟨0, Nat.zero_le _, rfl, 0, rfl, by simp [Bs.sumZ]⟩
  case round =>
    obtain ⟨k, hk, rfl, a, rfl, ha⟩ := hrel
    by_cases hlt : k < l.length
    · obtain ⟨b, o, rfl, _, _, hc⟩ := h.at_ hlt
      have h2 := HY.out l[k] (List.getElem_mem hlt)
      have h3 := HX.out k hk
      rw [← ha] at h3
      have hs : Bs.sumZ (l.take (k + 1)) = a + l[k] := by rw [List.take_succ_eq_append_getElem hlt, Bs.sumZ_append, ← ha]; simp [Bs.sumZ]
      have HS := Lib.hid hs
      clear hs ha
      generalize l[k] = x at *
      have hw : IntKind.i64.wrap (a + x) = a + x := IntWalk.i64_in _ ⟨by omega, by omega⟩
      go_wp2
      go_round
      case rel => exact ⟨k + 1, by omega, by go_num, a + x, rfl, HS.out.symm⟩
      case measure => simp [intOf]; omega
    · have e : l.take k = l := List.take_of_length_le (by omega)
      rw [e] at ha
      have Hn := Lib.hid ha
      clear ha e
      go_wp2
      go_ret
      first | exact ⟨ret_int Hn.out, rfl⟩ | exact ⟨ret_int Hn.out.symm, rfl⟩
theorem lsum_quiet (A : Option Addr) (c : Nat) (l : List Int) (lo hi : Nat) (w : World) (h : RI w lo hi A l) (hl : l.length ≤ 1000) (hb : ∀ x ∈ l, 0 ≤ x ∧ x ≤ 100) (m n : Nat) :
    Calls Try.prog 20 #[.slice A l.length c] (w.drewN (m + n)) fun e w'' => e = .returned (.int .i64 (Bs.sumZ l)) ∧ ∃ k, w'' = w.drewN (m + k) :=
  (lsum_any A c l lo hi (w.drewN (m + n)) h hl hb).mono fun _ _ ⟨h1, h2⟩ => ⟨h1, n, h2.symm⟩
end Go.Proofs.Ytlanlcdbcblfjaa
