/-
  THE WALK OF laws.FnTryTask.
-/
import Derived.Test.YtoggbndpjcfmiaaX10
import Derived.Test.YtoggbndpjcfmiaaW71
import Derived.Test.YtoggbndpjcfmiaaR40
namespace Go.Proofs.Ytoggbndpjcfmiaa
open Go.RowKit
set_option linter.unusedVariables false
set_option maxRecDepth 20000 in
set_option maxHeartbeats 3200000 in
theorem fnTryTask_walk (A : Option Addr) (c : Nat) (l : List Int) (w : World) (hb : RB w 0 w.heap.size A l) (hlc : l.length ≤ c ∧ c ≤ maxLen) :
    Calls Try.prog 4 #[.slice A l.length c] w fun e w' => e = .returned (.bool true) ∧ Below w.heap.size w w' := by
  have hl63 : l.length ≤ 9223372036854775807 := by have := hlc.2; unfold maxLen at this; omega
  by_cases hbig : 1048576 < l.length
  · go_enter Try.func4, Try.ntmps4
    go_wp2
    go_ret
    exact ⟨rfl, Below.refl _ _⟩
  · have C1 := Lib.hid (DrawTryTask_any A c l w hb hlc.1 hlc.2)
    clear hb
    go_enter Try.func4, Try.ntmps4
    go_wp2_with fail
    refine (C1.out).mono ?_
    rintro e w1 ⟨⟨A1, c1, m, t, rfl, hm, hm7⟩, hb1⟩
    have HB1 := Lib.hid hb1
    have HM := Lib.hid hm
    have s1 := hb1.size
    have hm9 : m.length ≤ 9223372036854775807 := by omega
    have CT := Lib.hid (fun (t : Int) (W : World) (hb : Below w1.heap.size w1 W) => TryTask_any A1 c1 m t w.heap.size w1.heap.size W (HM.out.below hb (Nat.le_refl _)) hb.size hm9)
    have CTS := Lib.hid (fun (W : World) (hb : Below w1.heap.size w1 W) => TryTaskS_any A1 c1 m t w.heap.size w1.heap.size W (HM.out.below hb (Nat.le_refl _)) hb.size hm9)
    clear hb1 hm C1
    cases hc : Bs.canT m t
    · have e1 := Bs.tryN_no hc
      have e2 := Bs.tryB_no hc
      have C2 := Lib.hid (CT.out t w1 (Below.refl _ _))
      rw [e1, e2] at C2
      go_wp2_with fail
      with_reducible refine (C2.out).mono ?_
      rintro e w2 ⟨rfl, hb2⟩
      have C3 := Lib.hid (CTS.out w2 hb2)
      rw [e1, e2] at C3
      have HB2 := Lib.hid (HB1.out.trans (hb2.mono s1))
      clear hb2 C2 e1 e2 CT CTS
      go_wp2_with fail
      with_reducible refine (C3.out).mono ?_
      rintro e _ ⟨rfl, rfl⟩
      go_wp2
      go_ret
      exact ⟨rfl, HB2.out⟩
    · have e1 := Bs.tryN_yes hc
      have e2 := Bs.tryB_yes hc
      obtain ⟨g1, g2, g3, g4⟩ := Bs.canT_iff.1 hc
      have hbn := Bs.runN_b hc
      have C2 := Lib.hid (CT.out t w1 (Below.refl _ _))
      have C3 := Lib.hid (fun W hb => CTS.out W hb)
      rw [e1, e2] at C2
      simp only [e1, e2] at C3
      obtain ⟨l1, l2⟩ := Bs.try_law hc
      have hk : Bs.okR m t = Bs.gb m (Bs.runN m t - 1) := rfl
      have HM2 := Lib.hid (fun W (hb : Below w1.heap.size w1 W) i (hi : i < m.length) => show ∃ b o, A1 = some ⟨b, o, none⟩ ∧ W.cell? ⟨b, o + i, none⟩ = some (.bool (Bs.gb m i)) from by
        obtain ⟨b, o, e, _, _, hcell⟩ := (HM.out.below hb (Nat.le_refl _)).at_ hi
        exact ⟨b, o, e, by rw [hcell, Bs.gb_at hi]⟩)
      have HL1 := Lib.hid l1
      have HL2 := Lib.hid l2
      have HK := Lib.hid hk
      clear e1 e2 CT CTS hc l1 l2 hk
      generalize Bs.runN m t = n at *
      generalize Bs.okR m t = ok at *
      have hne : (ok != ok) = false := by simp
      have heq : (ok == ok) = true := by simp
      have hwn : IntKind.i64.wrap ((n : Int) - 1) = ((n - 1 : Nat) : Int) := by rw [show (n : Int) - 1 = ((n - 1 : Nat) : Int) from by omega]; exact IntWalk.i64_in _ ⟨by omega, by omega⟩
      have d1 : ¬ (n : Int) < 1 := by omega
      have d2 : ¬ (m.length : Int) < (n : Int) := by omega
      go_wp2_with fail
      with_reducible refine (C2.out).mono ?_
      rintro e w2 ⟨rfl, hb2⟩
      have HB2 := Lib.hid hb2
      have s2 := hb2.size
      replace C3 := Lib.hid (C3.out w2 hb2)
      have HB02 := Lib.hid (HB1.out.trans (hb2.mono s1))
      clear hb2 C2
      go_wp2_with fail
      with_reducible refine (C3.out).mono ?_
      rintro e _ ⟨rfl, rfl⟩
      clear C3
      go_wp2
      go_loop [9] (fun i => ∃ k : Nat, k ≤ n - 1 ∧ i = .int .i64 (k : Int)) (fun i => n - (intOf i).toNat)
      case atStart => exact ⟨0, Nat.zero_le _, rfl⟩
      case round =>
        obtain ⟨k, hk, rfl⟩ := hrel
        by_cases hlt : k < n - 1
        · have hkm : k < m.length := by omega
          obtain ⟨b, o, rfl, hcell⟩ := HM2.out w2 HB2.out k hkm
          rw [HL1.out k (by omega)] at hcell
          have i0 : (0 : Int) ≤ (k : Int) := by omega
          have i1 : (k : Int) < (m.length : Int) := by omega
          have i2 : (k : Int) < ((n - 1 : Nat) : Int) := by omega
          clear hne heq
          go_wp2
          go_round
          case rel => exact ⟨k + 1, by omega, by go_num⟩
          case measure => simp [intOf]; omega
        · obtain rfl : k = n - 1 := by omega
          have hkm : n - 1 < m.length := by omega
          obtain ⟨b, o, rfl, hcell⟩ := HM2.out w2 HB2.out (n - 1) hkm
          rw [← HK.out] at hcell
          have i0 : (0 : Int) ≤ ((n - 1 : Nat) : Int) := by omega
          have i1 : ((n - 1 : Nat) : Int) < (m.length : Int) := by omega
          have i2 : ¬ ((n - 1 : Nat) : Int) < ((n - 1 : Nat) : Int) := by omega
          have hwt : IntKind.i64.wrap (t + 1) = t + 1 := IntWalk.i64_in _ ⟨by omega, by omega⟩
          have d3 : (n : Int) ≤ t + 1 := by omega
          have hl2 := HL2.out
          clear HM2 HL1 HL2 HK
          cases ok
          · have d4 : ((n : Int) == (m.length : Int)) = true ∨ ((n : Int) == (m.length : Int)) = false ∧ ((n : Int) == t + 1) = true := by
              by_cases hq : n = m.length
              · left; rw [beq_iff_eq]; omega
              · right
                rcases hl2 with h | h | h
                · cases h
                · exact absurd h hq
                · exact ⟨by rw [beq_eq_false_iff_ne]; omega, by rw [beq_iff_eq]; exact h⟩
            clear hl2
            rcases d4 with d4 | ⟨d4, d5⟩
            · go_wp2
              go_ret
              exact ⟨rfl, HB02.out⟩
            · go_wp2
              go_ret
              exact ⟨rfl, HB02.out⟩
          · clear hl2
            go_wp2
            go_ret
            exact ⟨rfl, HB02.out⟩
end Go.Proofs.Ytoggbndpjcfmiaa
