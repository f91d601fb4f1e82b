/-
  THE WALK OF laws.FnIsFlaky.
-/
import Derived.Test.YtoggbndpjcfmiaaX10
import Derived.Test.YtoggbndpjcfmiaaW71
import Derived.Test.YtoggbndpjcfmiaaR40
namespace Go.Proofs.Ytoggbndpjcfmiaa
open Go.RowKit
set_option linter.unusedVariables false
set_option maxRecDepth 20000 in
set_option maxHeartbeats 3200000 in
theorem fnIsFlaky_walk (A : Option Addr) (c : Nat) (l : List Int) (w : World) (hb : RB w 0 w.heap.size A l) (hlc : l.length ≤ c ∧ c ≤ maxLen) :
    Calls Try.prog 7 #[.slice A l.length c] w fun e w' => e = .returned (.bool true) ∧ Below w.heap.size w w' := by
  have hl63 : l.length ≤ 9223372036854775807 := by have := hlc.2; unfold maxLen at this; omega
  by_cases hbig : 1048576 < l.length
  · go_enter Try.func7, Try.ntmps7
    go_wp2
    go_ret
    exact ⟨rfl, Below.refl _ _⟩
  · have C1 := Lib.hid (DrawIsFlaky_any A c l w hb hlc.1 hlc.2)
    clear hb
    go_enter Try.func7, Try.ntmps7
    go_wp2_with fail
    refine (C1.out).mono ?_
    rintro e w1 ⟨⟨A1, c1, m, t, rfl, hm, hm7⟩, hb1⟩
    have HB1 := Lib.hid hb1
    have HM := Lib.hid hm
    have s1 := hb1.size
    have hm9 : m.length ≤ 9223372036854775807 := by omega
    have CF := Lib.hid (fun (W : World) (hb : Below w1.heap.size w1 W) => IsFlaky_any A1 c1 m t w.heap.size w1.heap.size W (HM.out.below hb (Nat.le_refl _)) hb.size hm9)
    have CT := Lib.hid (fun (t : Int) (W : World) (hb : Below w1.heap.size w1 W) => TryTask_any A1 c1 m t w.heap.size w1.heap.size W (HM.out.below hb (Nat.le_refl _)) hb.size hm9)
    have CFS := Lib.hid (fun (W : World) (hb : Below w1.heap.size w1 W) => IsFlakyS_any A1 c1 m t w.heap.size w1.heap.size W (HM.out.below hb (Nat.le_refl _)) hb.size hm9)
    have HFL := Lib.hid (fun h => Bs.flak_law (l := m) (t := t) h)
    have HFD := Lib.hid (show Bs.flakB m t = (Bs.tryB m t && decide (1 < Bs.tryN m t)) from rfl)
    have hn1 : Bs.canT m t = false → Bs.tryN m t = 0 ∧ Bs.tryB m t = false := fun h => ⟨Bs.tryN_no h, Bs.tryB_no h⟩
    have hn2 : Bs.canT m t = true → 1 ≤ Bs.tryN m t := fun h => by rw [Bs.tryN_yes h]; have := Bs.runN_b h; omega
    have CT0 := Lib.hid (fun W hb => CT.out 0 W hb)
    replace CT := Lib.hid (fun W hb => CT.out t W hb)
    clear hb1 hm C1
    generalize Bs.flakB m t = fl at *
    generalize Bs.tryN m t = n at *
    generalize Bs.tryB m t = ok at *
    generalize Bs.tryN m 0 = n0 at *
    generalize Bs.tryB m 0 = ok0 at *
    have hne : (fl != fl) = false := by simp
    have heq : (fl == fl) = true := by simp
    have HN1 := Lib.hid hn1
    have HN2 := Lib.hid hn2
    have C2 := Lib.hid (CF.out w1 (Below.refl _ _))
    clear hn1 hn2 CF
    go_wp2_with fail
    with_reducible refine (C2.out).mono ?_
    rintro e w2 ⟨rfl, hb2⟩
    have HB12 := Lib.hid hb2
    have HB2 := Lib.hid (HB1.out.trans (hb2.mono s1))
    have s2 := HB12.out.size
    have C3 := Lib.hid (CT.out w2 HB12.out)
    clear hb2 C2 CT
    go_wp2_with fail
    with_reducible refine (C3.out).mono ?_
    rintro e w3 ⟨rfl, hb3⟩
    have HB13 := Lib.hid (HB12.out.trans (hb3.mono s2))
    have HB3 := Lib.hid (HB2.out.trans (hb3.mono (Nat.le_trans s1 s2)))
    have s3 := HB13.out.size
    have C4 := Lib.hid (CFS.out w3 HB13.out)
    clear hb3 C3 CFS
    go_wp2_with fail
    with_reducible refine (C4.out).mono ?_
    rintro e _ ⟨rfl, rfl⟩
    cases hc : Bs.canT m t
    · obtain ⟨rfl, rfl⟩ := HN1.out hc
      clear hc HFL HFD
      go_wp2_with fail
      with_reducible refine (C4.out).mono ?_
      rintro e _ ⟨rfl, rfl⟩
      go_wp2
      go_ret
      exact ⟨rfl, HB3.out⟩
    · have h1 := HN2.out hc
      have HX := Lib.hid (HFL.out hc)
      have d1 : ¬ n < 1 := by omega
      have C5 := Lib.hid (CT0.out w3 HB13.out)
      clear hc HFL HFD C4 CT0
      go_wp2_with fail
      with_reducible refine (C5.out).mono ?_
      rintro e w5 ⟨rfl, hb5⟩
      have HB5 := Lib.hid (HB3.out.trans (hb5.mono (Nat.le_trans s1 s3)))
      clear hb5 C5
      have hx := HX.out
      subst hx
      clear hne heq HX
      cases ok <;> cases ok0
      all_goals
        go_wp2
        go_ret
        exact ⟨rfl, HB5.out⟩
end Go.Proofs.Ytoggbndpjcfmiaa
