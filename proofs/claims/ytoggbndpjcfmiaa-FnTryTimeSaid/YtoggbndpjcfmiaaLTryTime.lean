/-
  THE WALK OF laws.FnTryTime.
-/
import Derived.Test.YtoggbndpjcfmiaaX10
import Derived.Test.YtoggbndpjcfmiaaW71
import Derived.Test.YtoggbndpjcfmiaaR40
namespace Go.Proofs.Ytoggbndpjcfmiaa
open Go.RowKit
set_option linter.unusedVariables false
set_option maxRecDepth 20000 in
set_option maxHeartbeats 3200000 in
theorem fnTryTime_walk (A : Option Addr) (c : Nat) (l : List Int) (w : World) (hb : RB w 0 w.heap.size A l) (hlc : l.length ≤ c ∧ c ≤ maxLen) :
    Calls Try.prog 6 #[.slice A l.length c] w fun e w' => e = .returned (.bool true) ∧ Below w.heap.size w w' := by
  have hl63 : l.length ≤ 9223372036854775807 := by have := hlc.2; unfold maxLen at this; omega
  by_cases hbig : 1048576 < l.length
  · go_enter Try.func6, Try.ntmps6
    go_wp2
    go_ret
    exact ⟨rfl, Below.refl _ _⟩
  · have C1 := Lib.hid (DrawTryTime_any A c l w hb hlc.1 hlc.2)
    clear hb
    go_enter Try.func6, Try.ntmps6
    go_wp2_with fail
    refine (C1.out).mono ?_
    rintro e w1 ⟨⟨A1, c1, m, t, z, rfl, hm, hm7⟩, hb1⟩
    have HB1 := Lib.hid hb1
    have HM := Lib.hid hm
    have s1 := hb1.size
    have hm9 : m.length ≤ 9223372036854775807 := by omega
    have CF := Lib.hid (fun (t : Int) (W : World) (hb : Below w1.heap.size w1 W) => TryTime_any A1 c1 m t z w.heap.size w1.heap.size W (HM.out.below hb (Nat.le_refl _)) hb.size hm9)
    have CFS := Lib.hid (fun (W : World) (hb : Below w1.heap.size w1 W) => TryTimeS_any A1 c1 m t z w.heap.size w1.heap.size W (HM.out.below hb (Nat.le_refl _)) hb.size hm9)
    have HLAW := Lib.hid (fun h => Bs.tryT_law (l := m) (t := t) (z := z) h)
    have C2 := Lib.hid (CF.out t w1 (Below.refl _ _))
    have CT := Lib.hid (fun (W : World) (hb : Below w1.heap.size w1 W) => TryTask_any A1 c1 m t w.heap.size w1.heap.size W (HM.out.below hb (Nat.le_refl _)) hb.size hm9)
    have HTN := Lib.hid (fun (h : Bs.canT m t = true) => And.intro (Bs.tryN_yes h) (And.intro (Bs.runN_b h) (Bs.canT_iff.1 h).2.1))
    clear hb1 hm C1 CF
    generalize Bs.tryT m t z = V at *
    have hne : (V != V) = false := by simp
    have heq : (V == V) = true := by simp
    go_wp2_with fail
    with_reducible refine (C2.out).mono ?_
    rintro e w2 ⟨rfl, hb2⟩
    have HB12 := Lib.hid hb2
    have HB2 := Lib.hid (HB1.out.trans (hb2.mono s1))
    have s2 := HB12.out.size
    have C3 := Lib.hid (CFS.out w2 HB12.out)
    clear hb2 C2 CFS
    go_wp2_with fail
    with_reducible refine (C3.out).mono ?_
    rintro e _ ⟨rfl, rfl⟩
    by_cases hV : V < 0
    · go_wp2_with fail
      with_reducible refine (C3.out).mono ?_
      rintro e _ ⟨rfl, rfl⟩
      go_wp2
      go_ret
      exact ⟨rfl, HB2.out⟩
    obtain ⟨hc, z1, z2, hVe, hVz, _, _⟩ := HLAW.out (by omega)
    obtain ⟨q1, hbn, h6⟩ := HTN.out hc
    have C4 := Lib.hid (CT.out w2 HB12.out)
    rw [q1] at C4
    have HVE := Lib.hid hVe
    have HSB := Lib.hid (fun k => Bs.sumD_b k)
    have HDB := Lib.hid (fun k => Bs.delayN_b k)
    have HSS := Lib.hid (fun k => show Bs.sumD (k + 1) = Bs.sumD k + Bs.delayN k from rfl)
    have C5 := Lib.hid (fun (k : Nat) (hk : k ≤ 4) W => show Calls Try.prog 13 #[.int .i64 ((k : Int) + 1)] W (fun e w' => e = .returned (.int .i64 (Bs.delayN k)) ∧ Below W.heap.size W w') from by rw [← Bs.delayL_yes hk]; exact DelayOf_any _ W)
    clear hc q1 hVe HLAW HTN CT C3
    generalize Bs.tryB m t = ok at *
    generalize Bs.runN m t = n at *
    have hnz : 0 ≤ (n : Int) * z ∧ (n : Int) * z ≤ 120 := by
      have : n = 1 ∨ n = 2 ∨ n = 3 ∨ n = 4 ∨ n = 5 ∨ n = 6 := by omega
      rcases this with rfl | rfl | rfl | rfl | rfl | rfl <;> omega
    have hw : IntKind.i64.wrap ((n : Int) * z) = (n : Int) * z := IntWalk.i64_in _ ⟨by omega, by omega⟩
    go_wp2_with fail
    with_reducible refine (C4.out).mono ?_
    rintro e w4 ⟨rfl, hb4⟩
    have HB4 := Lib.hid (HB2.out.trans (hb4.mono (Nat.le_trans s1 s2)))
    have s4 := HB4.out.size
    clear hb4 C4
    go_wp2
    generalize (n : Int) * z = nz at *
    go_loopw [9, 10] (fun s i wr => ∃ k : Nat, k + 1 ≤ n ∧ s = .int .i64 (nz + Bs.sumD k) ∧ i = .int .i64 ((k : Int) + 1) ∧ Below w.heap.size w wr) (fun _ i _ => n + 1 - (intOf i).toNat)
    case atStart => exact ⟨0, by omega, by simp [Bs.sumD], rfl, HB4.out⟩
    case round =>
      obtain ⟨k, hk, rfl, rfl, hbr⟩ := hrel
      have b1 := HSB.out k
      have b2 := HDB.out k
      have hss := Lib.hid (HSS.out k)
      have HBR := Lib.hid hbr
      have sr := hbr.size
      clear hbr
      by_cases hlt : k + 1 < n
      · have C6 := Lib.hid (C5.out k (by omega) wr)
        have d1 : (k : Int) + 1 < (n : Int) := by omega
        have d2 : (k : Int) + 1 ≤ 5 := by omega
        clear HSB HDB HSS C5
        generalize Bs.sumD k = sk at *
        generalize Bs.delayN k = d at *
        have hw2 : IntKind.i64.wrap (nz + sk + d) = nz + sk + d := IntWalk.i64_in _ ⟨by omega, by omega⟩
        go_wp2_with fail
        with_reducible refine (C6.out).mono ?_
        rintro e w6 ⟨rfl, hb6⟩
        have HB6 := Lib.hid (HBR.out.trans (hb6.mono sr))
        clear hb6 C6
        go_wp2
        go_roundw
        case rel => exact ⟨k + 1, by omega, by congr 1; have := hss.out; omega, by go_num, HB6.out⟩
        case measure => simp [intOf]; omega
      · have d1 : ¬ (k : Int) + 1 < (n : Int) := by omega
        have hve := HVE.out
        rw [show n - 1 = k from by omega] at hve
        have d3 : (nz + Bs.sumD k == V) = true := by rw [beq_iff_eq]; omega
        clear HSB HDB HSS C5 hss HVE hve
        go_wp2
        go_ret
        exact ⟨rfl, HBR.out⟩
end Go.Proofs.Ytoggbndpjcfmiaa
