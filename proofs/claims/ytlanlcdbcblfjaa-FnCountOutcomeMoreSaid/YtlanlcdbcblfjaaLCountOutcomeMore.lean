/-
  THE WALK OF laws.FnCountOutcomeMore.
-/
import Derived.Test.YtlanlcdbcblfjaaX11
import Derived.Test.YtlanlcdbcblfjaaMath63
import Derived.Test.YtlanlcdbcblfjaaR42
namespace Go.Proofs.Ytlanlcdbcblfjaa
open Go.RowKit
set_option linter.unusedVariables false
set_option maxRecDepth 20000 in
set_option maxHeartbeats 6400000 in
theorem fnCountOutcomeMore_walk (A : Option Addr) (c : Nat) (l : List Int) (w : World) (hb : RB w 0 w.heap.size A l) (hlc : l.length ≤ c ∧ c ≤ maxLen) :
    Calls Try.prog 7 #[.slice A l.length c] w fun e w' => e = .returned (.bool true) ∧ Below w.heap.size w w' := by
  have hl63 : l.length ≤ 9223372036854775807 := by have := hlc.2; unfold maxLen at this; omega
  by_cases hbig : 1048576 < l.length
  · go_enter Try.func7, Try.ntmps7
    go_wp2
    go_ret
    exact ⟨rfl, Below.refl _ _⟩
  · have C1 := Lib.hid (DrawCountOutcome_any A c l w hb hlc.1 hlc.2)
    clear hb
    go_enter Try.func7, Try.ntmps7
    go_wp2_with fail
    refine (C1.out).mono ?_
    rintro e w1 ⟨⟨A1, c1, g, A0, c0, d, a, q, rfl, hg, hg16, hgc, hcm, hd, hd100, hdc, hdm⟩, hb1⟩
    have HG := Lib.hid hg
    have HD := Lib.hid hd
    have s1 := hb1.size
    have hl9 : g.length ≤ 9223372036854775807 := by omega
    have hd9 : d.length ≤ 9223372036854775807 := by omega
    have qs := fun W hg hd hs => CountOutcomeS_any A1 c1 g A0 c0 d a q w.heap.size w1.heap.size w.heap.size w1.heap.size W hg hs hd hs hl9 hd9
    have CI := Lib.hid (fun (a' q' : Int) W (hb : Below w1.heap.size w1 W) => CountOutcome_any A1 c1 g A0 c0 d a' q' w.heap.size w1.heap.size w.heap.size w1.heap.size W (HG.out.below hb (Nat.le_refl _)) hb.size (HD.out.below hb (Nat.le_refl _)) hb.size hl9 hd9)
    have CO := Lib.hid (fun W (hb : Below w1.heap.size w1 W) => Outcomes_any A1 c1 g A0 c0 d a w.heap.size w1.heap.size w.heap.size w1.heap.size W (HG.out.below hb (Nat.le_refl _)) hb.size (HD.out.below hb (Nat.le_refl _)) hb.size hl9 hd9)
    have q2 := CI.out a q w1 (Below.refl _ _)
    obtain ⟨V, hV⟩ : ∃ V, V = Bs.cntL g d a q := ⟨_, rfl⟩
    rw [← hV] at q2 qs
    have HV := Lib.hid hV
    have C2 := Lib.hid q2
    have CS := Lib.hid qs
    have HB1 := Lib.hid hb1
    have hne : (V != V) = false := by simp
    have heq : (V == V) = true := by simp
    clear C1 hg hd q2 qs hb1 hV
    go_wp2_with fail
    with_reducible refine (C2.out).mono ?_
    rintro e w2 ⟨rfl, hb2⟩
    have s2 := hb2.size
    have HG2 := Lib.hid (HG.out.below hb2 (Nat.le_refl _))
    have HD2 := Lib.hid (HD.out.below hb2 (Nat.le_refl _))
    have HB2 := Lib.hid (HB1.out.trans (hb2.mono s1))
    have HX2 := Lib.hid hb2
    have C3 := Lib.hid (CS.out w2 HG2.out HD2.out s2)
    clear hb2 C2
    go_wp2_with fail
    with_reducible refine (C3.out).mono ?_
    rintro e w3 ⟨rfl, hb3⟩
    have s3 := hb3.size
    have hs3 : w1.heap.size ≤ w3.heap.size := Nat.le_trans s2 s3
    have HG3 := Lib.hid (HG2.out.below hb3 s2)
    have HD3 := Lib.hid (HD2.out.below hb3 s2)
    have HB3 := Lib.hid (HB2.out.trans (hb3.mono (Nat.le_trans s1 s2)))
    have HX3 := Lib.hid (HX2.out.trans (hb3.mono s2))
    clear hb3 C3 HG2 HD2 HB2 HX2
    obtain ⟨W3, rfl⟩ : ∃ W3, W3 = w3 := ⟨_, rfl⟩
    by_cases hV0 : V < 0
    · clear HV
      have C6 := Lib.hid (CS.out W3 HG3.out HD3.out hs3)
      clear CS
      go_wp2_with fail
      with_reducible refine (C6.out).mono ?_
      rintro e w6 ⟨rfl, hb6⟩
      have HB6 := Lib.hid (HB3.out.trans (hb6.mono (Nat.le_trans s1 hs3)))
      clear hb6 C6
      go_wp2
      go_ret
      exact ⟨rfl, HB6.out⟩
    · by_cases ha8 : a = 8
      · subst ha8
        clear HV
        have C6 := Lib.hid (CS.out W3 HG3.out HD3.out hs3)
        clear CS
        go_wp2_with fail
        with_reducible refine (C6.out).mono ?_
        rintro e w6 ⟨rfl, hb6⟩
        have HB6 := Lib.hid (HB3.out.trans (hb6.mono (Nat.le_trans s1 hs3)))
        clear hb6 C6
        go_wp2
        go_ret
        exact ⟨rfl, HB6.out⟩
      · obtain ⟨hcf, hq0, hq3, hck, hsum, h8⟩ := count_law (by rw [← HV.out]; exact hV0)
        have hmo := count_more hcf ha8
        have h1 := (Bs.canF_iff.1 hcf).2.2
        have d5 : (a == 8) = false := by rw [beq_eq_false_iff_ne]; exact ha8
        have hwt : IntKind.i64.wrap (a + 1) = a + 1 := IntWalk.i64_in _ ⟨by omega, by omega⟩
        have C4 := Lib.hid (CI.out (a + 1) 0 W3 HX3.out)
        have C5 := Lib.hid (fun W hb => CI.out a 0 W hb)
        clear hcf hck hsum ha8 CI CS CO HV
        generalize Bs.cntL g d (a + 1) 0 = y1 at *
        generalize Bs.cntL g d a 0 = y0 at *
        go_wp2_with fail
        with_reducible refine (C4.out).mono ?_
        rintro e w4 ⟨rfl, hb4⟩
        have HX4 := Lib.hid (HX3.out.trans (hb4.mono hs3))
        have HB4 := Lib.hid (HB3.out.trans (hb4.mono (Nat.le_trans s1 hs3)))
        have s4 := HX4.out.size
        have C6 := Lib.hid (C5.out w4 HX4.out)
        clear hb4 C4 C5
        go_wp2_with fail
        with_reducible refine (C6.out).mono ?_
        rintro e w5 ⟨rfl, hb5⟩
        have HB5 := Lib.hid (HB4.out.trans (hb5.mono (Nat.le_trans s1 s4)))
        clear hb5 C6
        go_wp2
        go_ret
        exact ⟨rfl, HB5.out⟩
end Go.Proofs.Ytlanlcdbcblfjaa
