/-
  WALKS: the laws' comparison of two lists of users that are the same.
-/
import Derived.Test.YtcoipkogfgcdeaaMath85
import Derived.Test.YtcoipkogfgcdeaaW106
namespace Go.Proofs.Ytcoipkogfgcdeaa
open Go.RowKit
theorem equalUsers_same (A : Option Addr) (c : Nat) (A' : Option Addr) (c' : Nat) (l : List Bs.U) (lo hi lo' hi' : Nat) (w : World) (h : RU w lo hi A l) (h' : RU w lo' hi' A' l) (hl : l.length ≤ 1000) :
    Calls Try.prog 26 #[.slice A l.length c, .slice A' l.length c'] w fun e w' => e = .returned (.bool true) ∧ ∃ n, w' = w.drewN n := by
  have hb0 : ((l.length : Int) != (l.length : Int)) = false := by simp
  have H1 := Lib.hid h
  have H2 := Lib.hid h'
  clear h h'
  go_enter Try.func26, Try.ntmps26
  go_wp2
  go_loopw [5] (fun i wr => ∃ k : Nat, k ≤ l.length ∧ i = .int .i64 (k : Int) ∧ ∃ q, wr = w.drewN q) (fun i _ => l.length + 1 - (intOf i).toNat)
  case atStart => exact ⟨0, Nat.zero_le _, rfl, 0, rfl⟩
  case round =>
    obtain ⟨k, hk, rfl, q, rfl⟩ := hrel
    by_cases hlt : k < l.length
    · obtain ⟨b, o, rfl, _, _, q0, q1, q2⟩ := H1.out.at_ hlt
      obtain ⟨b', o', rfl, _, _, r0, r1, r2⟩ := H2.out.at_ hlt
      generalize Bs.gu l k = u at *
      obtain ⟨s, x, y⟩ := u
      have i0 : (0 : Int) ≤ (k : Int) := by omega
      have i1 : (k : Int) < (l.length : Int) := by omega
      go_wp2
      go_quiet (fail)
      go_wp2
      go_roundw
      case rel => exact ⟨k + 1, by omega, by go_num, _, by first | rfl | rw [World.drewN_drewN]⟩
      case measure => simp [intOf]; omega
    · have d1 : ¬ (k : Int) < (l.length : Int) := by omega
      go_wp2
      go_ret
      exact ⟨rfl, _, rfl⟩
theorem seok_next {g : List Bs.U} {a : Int} (ha : 1 ≤ a ∧ a ≤ 20) : Bs.seOk g a = decide (0 ≤ Bs.nextL g) := by
  unfold Bs.seOk Bs.srvOk Bs.nextL
  cases hu : Bs.usersOk g
  · simp
  · simp [ha]
end Go.Proofs.Ytcoipkogfgcdeaa
