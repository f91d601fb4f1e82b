/-
  WALKS: the laws' comparison of two lists of events that are the same.
-/
import Derived.Test.YtihgakbopkaemaaMath94
import Derived.Test.YtihgakbopkaemaaK17
import Derived.Test.YtihgakbopkaemaaL1
import Derived.Test.YtihgakbopkaemaaMem11
namespace Go.Proofs.Ytihgakbopkaemaa
open Go.RowKit
theorem equalEvents_same (A : Option Addr) (c : Nat) (A' : Option Addr) (c' : Nat) (l : List Bs.E) (lo hi lo' hi' : Nat) (w : World) (h : RE w lo hi A l) (h' : RE w lo' hi' A' l) (hl : l.length ≤ 4000) :
    Calls Try.prog 12 #[.slice A l.length c, .slice A' l.length c'] w fun e w' => e = .returned (.bool true) ∧ ∃ n, w' = w.drewN n := by
  have hb0 : ((l.length : Int) != (l.length : Int)) = false := by simp
  have H1 := Lib.hid h
  have H2 := Lib.hid h'
  clear h h'
  go_enter Try.func12, Try.ntmps12
  go_wp2
  go_loopw [5] (fun i wr => ∃ k : Nat, k ≤ l.length ∧ i = .int .i64 (k : Int) ∧ ∃ q, wr = w.drewN q) (fun i _ => l.length + 1 - (intOf i).toNat)
  case atStart => exact ⟨0, Nat.zero_le _, rfl, 0, rfl⟩
  case round =>
    obtain ⟨k, hk, rfl, q, rfl⟩ := hrel
    by_cases hlt : k < l.length
    · obtain ⟨b, o, rfl, _, _, q0, q1, q2⟩ := H1.out.at_ hlt
      obtain ⟨b', o', rfl, _, _, r0, r1, r2⟩ := H2.out.at_ hlt
      generalize Bs.ge l k = u at *
      obtain ⟨s, x, y⟩ := u
      have i0 : (0 : Int) ≤ (k : Int) := by omega
      have i1 : (k : Int) < (l.length : Int) := by omega
      go_wp2
      go_quiet (fail)
      go_wp2
      go_roundw
      case rel => exact ⟨k + 1, by omega, by go_num, _, by first | rfl | rw [World.drewN_drewN]⟩
      case measure => simp [intOf]; omega
    · have d1 : ¬ (k : Int) < (l.length : Int) := by omega
      go_wp2
      go_ret
      exact ⟨rfl, _, rfl⟩
theorem DrawLogOf_any (A : Option Addr) (c : Nat) (l : List Int) (w : World) (hb : RB w 0 w.heap.size A l) (hl : l.length ≤ c) (hc : c ≤ maxLen) :
    Calls Try.prog 10 #[.slice A l.length c] w (DrawGLNL w) := by
  have C1 := Lib.hid (DrawValidStarts_any A c l w hb hl hc)
  clear hb
  go_enter Try.func10, Try.ntmps10
  go_wp2_with fail
  with_reducible refine (C1.out).mono ?_
  rintro e w4 ⟨⟨A2, c2, g, A3, c3, m, x, A4, c4, S, rfl, hg, hg16, hgc, hcm, hm, hm100, hmc, hmm, hS, hS100, hSc, hSm⟩, hb4⟩
  have HG4 := Lib.hid hg
  have HM4 := Lib.hid hm
  have HS4 := Lib.hid hS
  have HB4 := Lib.hid hb4
  clear hg hm hS hb4
  go_wp2
  refine bodyPost_ret (results_four rfl _ _ _) rfl ?_
  exact ⟨⟨A2, c2, g, A3, c3, m, x, A4, c4, S, rfl, HG4.out, hg16, hgc, hcm, HM4.out, hm100, hmc, hmm, HS4.out, hS100, hSc, hSm⟩, HB4.out⟩
end Go.Proofs.Ytihgakbopkaemaa
