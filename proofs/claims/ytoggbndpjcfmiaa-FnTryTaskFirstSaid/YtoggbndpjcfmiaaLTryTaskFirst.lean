/-
  THE WALK OF laws.FnTryTaskFirst.
-/
import Derived.Test.YtoggbndpjcfmiaaX10
import Derived.Test.YtoggbndpjcfmiaaW71
import Derived.Test.YtoggbndpjcfmiaaR40
namespace Go.Proofs.Ytoggbndpjcfmiaa
open Go.RowKit
set_option linter.unusedVariables false
set_option maxRecDepth 20000 in
set_option maxHeartbeats 3200000 in
theorem fnTryTaskFirst_walk (A : Option Addr) (c : Nat) (l : List Int) (w : World) (hb : RB w 0 w.heap.size A l) (hlc : l.length ≤ c ∧ c ≤ maxLen) :
    Calls Try.prog 9 #[.slice A l.length c] w fun e w' => e = .returned (.bool true) ∧ Below w.heap.size w w' := by
  have hl63 : l.length ≤ 9223372036854775807 := by have := hlc.2; unfold maxLen at this; omega
  by_cases hbig : 1048576 < l.length
  · go_enter Try.func9, Try.ntmps9
    go_wp2
    go_ret
    exact ⟨rfl, Below.refl _ _⟩
  · have C1 := Lib.hid (DrawTryTask_any A c l w hb hlc.1 hlc.2)
    clear hb
    go_enter Try.func9, Try.ntmps9
    go_wp2_with fail
    refine (C1.out).mono ?_
    rintro e w1 ⟨⟨A1, c1, m, t, rfl, hm, hm7⟩, hb1⟩
    have HB1 := Lib.hid hb1
    have HM := Lib.hid hm
    have s1 := hb1.size
    have hm9 : m.length ≤ 9223372036854775807 := by omega
    have CT := Lib.hid (fun (t : Int) (W : World) (hb : Below w1.heap.size w1 W) => TryTask_any A1 c1 m t w.heap.size w1.heap.size W (HM.out.below hb (Nat.le_refl _)) hb.size hm9)
    have CTS := Lib.hid (fun (W : World) (hb : Below w1.heap.size w1 W) => TryTaskS_any A1 c1 m t w.heap.size w1.heap.size W (HM.out.below hb (Nat.le_refl _)) hb.size hm9)
    clear hb1 hm C1
    cases hc : Bs.canT m t
    · have e1 := Bs.tryN_no hc
      have e2 := Bs.tryB_no hc
      have C2 := Lib.hid (CT.out t w1 (Below.refl _ _))
      rw [e1, e2] at C2
      go_wp2_with fail
      with_reducible refine (C2.out).mono ?_
      rintro e w2 ⟨rfl, hb2⟩
      have C3 := Lib.hid (CTS.out w2 hb2)
      rw [e1, e2] at C3
      have HB2 := Lib.hid (HB1.out.trans (hb2.mono s1))
      clear hb2 C2 e1 e2 CT CTS
      go_wp2_with fail
      with_reducible refine (C3.out).mono ?_
      rintro e _ ⟨rfl, rfl⟩
      go_wp2
      go_ret
      exact ⟨rfl, HB2.out⟩
    · have e1 := Bs.tryN_yes hc
      have e2 := Bs.tryB_yes hc
      obtain ⟨g1, g2, g3, g4⟩ := Bs.canT_iff.1 hc
      have hbn := Bs.runN_b hc
      have C2 := Lib.hid (CT.out t w1 (Below.refl _ _))
      have C3 := Lib.hid (fun W hb => CTS.out W hb)
      rw [e1, e2] at C2
      simp only [e1, e2] at C3
      obtain ⟨o1, o2, o3, o4⟩ := Bs.try_once hc
      have q1 := Bs.tryN_yes o1
      have q2 := Bs.tryB_yes o1
      have C4 := Lib.hid (fun W hb => CT.out 0 W hb)
      simp only [q1, q2, o2, o3] at C4
      have hm0 : 0 < m.length := by omega
      have HM2 := Lib.hid (fun W (hb : Below w1.heap.size w1 W) => show ∃ b o, A1 = some ⟨b, o, none⟩ ∧ W.cell? ⟨b, o, none⟩ = some (.bool (Bs.gb m 0)) from by
        obtain ⟨b, o, e, _, _, hcell⟩ := (HM.out.below hb (Nat.le_refl _)).at_ hm0
        exact ⟨b, o, e, by rw [Nat.add_zero] at hcell; rw [hcell, Bs.gb_at hm0]⟩)
      have HO4 := Lib.hid o4
      clear e1 e2 CT CTS hc o1 o2 o3 o4 q1 q2
      generalize Bs.runN m t = n at *
      generalize Bs.okR m t = ok at *
      generalize Bs.gb m 0 = g0 at *
      have hne : (ok != ok) = false := by simp
      have heq : (ok == ok) = true := by simp
      have d1 : ¬ (n : Int) < 1 := by omega
      have d2 : ((m.length : Int) == 0) = false := by rw [beq_eq_false_iff_ne]; omega
      have d2' : (m.length == 0) = false := by rw [beq_eq_false_iff_ne]; omega
      go_wp2_with fail
      with_reducible refine (C2.out).mono ?_
      rintro e w2 ⟨rfl, hb2⟩
      have HB2 := Lib.hid hb2
      have s2 := hb2.size
      replace C3 := Lib.hid (C3.out w2 hb2)
      have HB02 := Lib.hid (HB1.out.trans (hb2.mono s1))
      clear hb2 C2
      go_wp2_with fail
      with_reducible refine (C3.out).mono ?_
      rintro e _ ⟨rfl, rfl⟩
      clear C3
      replace C4 := Lib.hid (C4.out w2 HB2.out)
      go_wp2_with fail
      with_reducible refine (C4.out).mono ?_
      rintro e w4 ⟨rfl, hb4⟩
      have HB24 := Lib.hid (HB2.out.trans (hb4.mono s2))
      have HB4 := Lib.hid (HB02.out.trans (hb4.mono (Nat.le_trans s1 s2)))
      obtain ⟨b, o, rfl, hcell⟩ := HM2.out w4 HB24.out
      have i1 : (0 : Int) < (m.length : Int) := by omega
      clear hb4 C4 HM2
      cases g0
      · go_wp2
        go_ret
        exact ⟨rfl, HB4.out⟩
      · obtain ⟨e1, e2⟩ := HO4.out rfl
        subst e2
        subst e1
        go_wp2
        go_ret
        exact ⟨rfl, HB4.out⟩
end Go.Proofs.Ytoggbndpjcfmiaa
