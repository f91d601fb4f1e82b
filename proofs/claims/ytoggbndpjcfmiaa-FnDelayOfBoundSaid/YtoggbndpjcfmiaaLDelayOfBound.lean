/-
  THE WALK OF laws.FnDelayOfBound.
-/
import Derived.Test.YtoggbndpjcfmiaaX10
import Derived.Test.YtoggbndpjcfmiaaW71
import Derived.Test.YtoggbndpjcfmiaaR40
namespace Go.Proofs.Ytoggbndpjcfmiaa
open Go.RowKit
set_option linter.unusedVariables false
set_option maxRecDepth 20000 in
set_option maxHeartbeats 3200000 in
theorem fnDelayOfBound_walk (A : Option Addr) (c : Nat) (l : List Int) (w : World) (hb : RB w 0 w.heap.size A l) (hlc : l.length ≤ c ∧ c ≤ maxLen) :
    Calls Try.prog 8 #[.slice A l.length c] w fun e w' => e = .returned (.bool true) ∧ Below w.heap.size w w' := by
  have hl63 : l.length ≤ 9223372036854775807 := by have := hlc.2; unfold maxLen at this; omega
  by_cases hbig : 1048576 < l.length
  · go_enter Try.func8, Try.ntmps8
    go_wp2
    go_ret
    exact ⟨rfl, Below.refl _ _⟩
  · have C1 := Lib.hid (DrawDelayOf_any A c l w hb hlc.1 hlc.2)
    clear hb
    have D := Lib.hid (fun (t v : Int) (h : Bs.delayL t = v) W => show Calls Try.prog 13 #[.int .i64 t] W (fun e w' => e = .returned (.int .i64 v) ∧ Below W.heap.size W w') from by rw [← h]; exact DelayOf_any t W)
    have DS := Lib.hid (fun (t v : Int) (h : Bs.delayL t = v) W => show Calls Try.prog 14 #[.int .i64 t] W (fun e w' => e = .returned (.int .i64 v) ∧ W = w') from by rw [← h]; exact DelayOfS_any t W)
    go_enter Try.func8, Try.ntmps8
    go_wp2_with fail
    refine (C1.out).mono ?_
    rintro e w1 ⟨⟨k, hk, rfl⟩, hb1⟩
    have HB1 := Lib.hid hb1
    have s1 := hb1.size
    obtain ⟨t, ht, hk'⟩ : ∃ t : Int, (k : Int) - 1 = t ∧ (t = -1 ∨ t = 0 ∨ t = 1 ∨ t = 2 ∨ t = 3 ∨ t = 4 ∨ t = 5 ∨ t = 6) := ⟨_, rfl, by omega⟩
    rw [ht]
    clear ht hk hb1 C1
    rcases hk' with rfl | rfl | rfl | rfl | rfl | rfl | rfl | rfl
    · go_wp2_with fail
      refine (D.out (-1) (-1) (by decide) _).mono ?_
      rintro e w2 ⟨rfl, hb2⟩
      have HB2 := Lib.hid (HB1.out.trans (hb2.mono s1))
      have s2 := HB2.out.size
      clear hb2
      go_wp2_with fail
      refine (DS.out (-1) (-1) (by decide) _).mono ?_
      rintro e _ ⟨rfl, rfl⟩
      go_wp2_with fail
      refine (DS.out (-1) (-1) (by decide) _).mono ?_
      rintro e _ ⟨rfl, rfl⟩
      go_wp2
      go_ret
      exact ⟨rfl, HB2.out⟩
    · go_wp2_with fail
      refine (D.out (0) (-1) (by decide) _).mono ?_
      rintro e w2 ⟨rfl, hb2⟩
      have HB2 := Lib.hid (HB1.out.trans (hb2.mono s1))
      have s2 := HB2.out.size
      clear hb2
      go_wp2_with fail
      refine (DS.out (0) (-1) (by decide) _).mono ?_
      rintro e _ ⟨rfl, rfl⟩
      go_wp2_with fail
      refine (DS.out (0) (-1) (by decide) _).mono ?_
      rintro e _ ⟨rfl, rfl⟩
      go_wp2
      go_ret
      exact ⟨rfl, HB2.out⟩
    · go_wp2_with fail
      refine (D.out (1) (2) (by decide) _).mono ?_
      rintro e w2 ⟨rfl, hb2⟩
      have HB2 := Lib.hid (HB1.out.trans (hb2.mono s1))
      have s2 := HB2.out.size
      clear hb2
      go_wp2_with fail
      refine (DS.out (1) (2) (by decide) _).mono ?_
      rintro e _ ⟨rfl, rfl⟩
      go_wp2
      go_ret
      exact ⟨rfl, HB2.out⟩
    · go_wp2_with fail
      refine (D.out (2) (4) (by decide) _).mono ?_
      rintro e w2 ⟨rfl, hb2⟩
      have HB2 := Lib.hid (HB1.out.trans (hb2.mono s1))
      have s2 := HB2.out.size
      clear hb2
      go_wp2_with fail
      refine (DS.out (2) (4) (by decide) _).mono ?_
      rintro e _ ⟨rfl, rfl⟩
      go_wp2
      go_ret
      exact ⟨rfl, HB2.out⟩
    · go_wp2_with fail
      refine (D.out (3) (8) (by decide) _).mono ?_
      rintro e w2 ⟨rfl, hb2⟩
      have HB2 := Lib.hid (HB1.out.trans (hb2.mono s1))
      have s2 := HB2.out.size
      clear hb2
      go_wp2_with fail
      refine (DS.out (3) (8) (by decide) _).mono ?_
      rintro e _ ⟨rfl, rfl⟩
      go_wp2
      go_ret
      exact ⟨rfl, HB2.out⟩
    · go_wp2_with fail
      refine (D.out (4) (16) (by decide) _).mono ?_
      rintro e w2 ⟨rfl, hb2⟩
      have HB2 := Lib.hid (HB1.out.trans (hb2.mono s1))
      have s2 := HB2.out.size
      clear hb2
      go_wp2_with fail
      refine (DS.out (4) (16) (by decide) _).mono ?_
      rintro e _ ⟨rfl, rfl⟩
      go_wp2
      go_ret
      exact ⟨rfl, HB2.out⟩
    · go_wp2_with fail
      refine (D.out (5) (20) (by decide) _).mono ?_
      rintro e w2 ⟨rfl, hb2⟩
      have HB2 := Lib.hid (HB1.out.trans (hb2.mono s1))
      have s2 := HB2.out.size
      clear hb2
      go_wp2_with fail
      refine (DS.out (5) (20) (by decide) _).mono ?_
      rintro e _ ⟨rfl, rfl⟩
      go_wp2
      go_ret
      exact ⟨rfl, HB2.out⟩
    · go_wp2_with fail
      refine (D.out (6) (-1) (by decide) _).mono ?_
      rintro e w2 ⟨rfl, hb2⟩
      have HB2 := Lib.hid (HB1.out.trans (hb2.mono s1))
      have s2 := HB2.out.size
      clear hb2
      go_wp2_with fail
      refine (DS.out (6) (-1) (by decide) _).mono ?_
      rintro e _ ⟨rfl, rfl⟩
      go_wp2_with fail
      refine (DS.out (6) (-1) (by decide) _).mono ?_
      rintro e _ ⟨rfl, rfl⟩
      go_wp2
      go_ret
      exact ⟨rfl, HB2.out⟩
end Go.Proofs.Ytoggbndpjcfmiaa
