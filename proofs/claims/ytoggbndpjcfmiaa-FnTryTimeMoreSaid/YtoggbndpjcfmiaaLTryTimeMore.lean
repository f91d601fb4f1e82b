/-
  THE WALK OF laws.FnTryTimeMore.
-/
import Derived.Test.YtoggbndpjcfmiaaX10
import Derived.Test.YtoggbndpjcfmiaaW71
import Derived.Test.YtoggbndpjcfmiaaR40
namespace Go.Proofs.Ytoggbndpjcfmiaa
open Go.RowKit
set_option linter.unusedVariables false
set_option maxRecDepth 20000 in
set_option maxHeartbeats 3200000 in
theorem fnTryTimeMore_walk (A : Option Addr) (c : Nat) (l : List Int) (w : World) (hb : RB w 0 w.heap.size A l) (hlc : l.length ≤ c ∧ c ≤ maxLen) :
    Calls Try.prog 10 #[.slice A l.length c] w fun e w' => e = .returned (.bool true) ∧ Below w.heap.size w w' := by
  have hl63 : l.length ≤ 9223372036854775807 := by have := hlc.2; unfold maxLen at this; omega
  by_cases hbig : 1048576 < l.length
  · go_enter Try.func10, Try.ntmps10
    go_wp2
    go_ret
    exact ⟨rfl, Below.refl _ _⟩
  · have C1 := Lib.hid (DrawTryTime_any A c l w hb hlc.1 hlc.2)
    clear hb
    go_enter Try.func10, Try.ntmps10
    go_wp2_with fail
    refine (C1.out).mono ?_
    rintro e w1 ⟨⟨A1, c1, m, t, z, rfl, hm, hm7⟩, hb1⟩
    have HB1 := Lib.hid hb1
    have HM := Lib.hid hm
    have s1 := hb1.size
    have hm9 : m.length ≤ 9223372036854775807 := by omega
    have CF := Lib.hid (fun (t : Int) (W : World) (hb : Below w1.heap.size w1 W) => TryTime_any A1 c1 m t z w.heap.size w1.heap.size W (HM.out.below hb (Nat.le_refl _)) hb.size hm9)
    have CFS := Lib.hid (fun (W : World) (hb : Below w1.heap.size w1 W) => TryTimeS_any A1 c1 m t z w.heap.size w1.heap.size W (HM.out.below hb (Nat.le_refl _)) hb.size hm9)
    have HLAW := Lib.hid (fun h => Bs.tryT_law (l := m) (t := t) (z := z) h)
    have C2 := Lib.hid (CF.out t w1 (Below.refl _ _))
    have C4 := Lib.hid (fun W hb => CF.out (t + 1) W hb)
    have C5 := Lib.hid (fun W hb => CF.out 0 W hb)
    clear hb1 hm C1 CF
    generalize Bs.tryT m t z = V at *
    generalize Bs.tryT m (t + 1) z = V1 at *
    generalize Bs.tryT m 0 z = V0 at *
    have hne : (V != V) = false := by simp
    have heq : (V == V) = true := by simp
    go_wp2_with fail
    with_reducible refine (C2.out).mono ?_
    rintro e w2 ⟨rfl, hb2⟩
    have HB12 := Lib.hid hb2
    have HB2 := Lib.hid (HB1.out.trans (hb2.mono s1))
    have s2 := HB12.out.size
    have C3 := Lib.hid (CFS.out w2 HB12.out)
    clear hb2 C2 CFS
    go_wp2_with fail
    with_reducible refine (C3.out).mono ?_
    rintro e _ ⟨rfl, rfl⟩
    by_cases hV : V < 0
    · go_wp2_with fail
      with_reducible refine (C3.out).mono ?_
      rintro e _ ⟨rfl, rfl⟩
      go_wp2
      go_ret
      exact ⟨rfl, HB2.out⟩
    by_cases h5 : t = 5
    · subst h5
      go_wp2_with fail
      with_reducible refine (C3.out).mono ?_
      rintro e _ ⟨rfl, rfl⟩
      go_wp2
      go_ret
      exact ⟨rfl, HB2.out⟩
    · obtain ⟨hc, z1, z2, hVe, hVz, e0, e1⟩ := HLAW.out (by omega)
      have d6 := e1 h5
      subst e0
      have h4 := (Bs.canT_iff.1 hc).2.2
      replace C4 := Lib.hid (C4.out w2 HB12.out)
      have d5 : (t == 5) = false := by rw [beq_eq_false_iff_ne]; exact h5
      have hwt : IntKind.i64.wrap (t + 1) = t + 1 := IntWalk.i64_in _ ⟨by omega, by omega⟩
      clear h5 hc hVe HLAW e1 C3
      go_wp2_with fail
      with_reducible refine (C4.out).mono ?_
      rintro e w4 ⟨rfl, hb4⟩
      have HB14 := Lib.hid (HB12.out.trans (hb4.mono s2))
      have HB4 := Lib.hid (HB2.out.trans (hb4.mono (Nat.le_trans s1 s2)))
      have s4 := HB14.out.size
      replace C5 := Lib.hid (C5.out w4 HB14.out)
      clear hb4 C4
      go_wp2_with fail
      with_reducible refine (C5.out).mono ?_
      rintro e w5 ⟨rfl, hb5⟩
      have HB5 := Lib.hid (HB4.out.trans (hb5.mono (Nat.le_trans s1 s4)))
      clear hb5 C5
      go_wp2
      go_ret
      exact ⟨rfl, HB5.out⟩
end Go.Proofs.Ytoggbndpjcfmiaa
