/-
  THE WALK OF laws.FnMostTogether.
-/
import Derived.Test.YtenneicbhpjfmaaX16
import Derived.Test.YtenneicbhpjfmaaK29
import Derived.Test.YtenneicbhpjfmaaW115
import Derived.Test.YtenneicbhpjfmaaMath96
import Derived.Test.YtenneicbhpjfmaaRI
namespace Go.Proofs.Ytenneicbhpjfmaa
open Go.RowKit
set_option maxRecDepth 20000 in
set_option maxHeartbeats 6400000 in
theorem fnMostTogether_walk (A : Option Addr) (c : Nat) (l : List Int) (w : World) (hb : RB w 0 w.heap.size A l) (hlc : l.length ≤ c ∧ c ≤ maxLen) :
    Calls Try.prog 10 #[.slice A l.length c] w fun e w' => e = .returned (.bool true) ∧ Below w.heap.size w w' := by
  have hl63 : l.length ≤ 9223372036854775807 := by have := hlc.2; unfold maxLen at this; omega
  by_cases hbig : 1048576 < l.length
  · go_enter Try.func10, Try.ntmps10
    go_wp2
    go_ret
    exact ⟨rfl, Below.refl _ _⟩
  · have C1 := Lib.hid (DrawMostTogether_any A c l w hb hlc.1 hlc.2)
    clear hb
    go_enter Try.func10, Try.ntmps10
    go_wp2_with fail
    refine (C1.out).mono ?_
    rintro e w1 ⟨⟨A1, c1, g, A0, c0, d, rfl, hg, hg16, hgc, hcm, hd, hd100, hdc, hdm⟩, hb1⟩
    have HG := Lib.hid hg
    have HD := Lib.hid hd
    have s1 := hb1.size
    have hl9 : g.length ≤ 9223372036854775807 := by omega
    have hd9 : d.length ≤ 9223372036854775807 := by omega
    have c2 := fun W hg hs hd hs2 => MostTogether_any A1 c1 g A0 c0 d w.heap.size w1.heap.size w.heap.size w1.heap.size W hg hs hd hs2 hl9 hd9
    have cs := fun W hg hs hd hs2 => MostTogetherS_any A1 c1 g A0 c0 d w.heap.size w1.heap.size w.heap.size w1.heap.size W hg hs hd hs2 hl9 hd9
    have C2 := Lib.hid (c2 w1 HG.out (Nat.le_refl _) HD.out (Nat.le_refl _))
    obtain ⟨N, hok⟩ : ∃ N, N = Bs.mtL g d := ⟨_, rfl⟩
    have HOK := Lib.hid hok
    rw [← hok] at C2 cs
    have CS := Lib.hid cs
    have HB1 := Lib.hid hb1
    clear C1 hg hd c2 cs hb1 hok
    go_wp2_with fail
    refine (C2.out).mono ?_
    rintro e w2 ⟨rfl, hb2⟩
    have s2 := hb2.size
    have HG2 := Lib.hid (HG.out.below hb2 (Nat.le_refl _))
    have HD2 := Lib.hid (HD.out.below hb2 (Nat.le_refl _))
    have HB2 := Lib.hid (HB1.out.trans (hb2.mono s1))
    have C3 := Lib.hid (CS.out w2 HG2.out s2 HD2.out s2)
    clear hb2 C2 HG HD HB1
    go_wp2_with fail
    refine (C3.out).mono ?_
    rintro e w3 ⟨rfl, hb3⟩
    have s3 := hb3.size
    have HG3 := Lib.hid (HG2.out.below hb3 s2)
    have HD3 := Lib.hid (HD2.out.below hb3 s2)
    have HB3 := Lib.hid (HB2.out.trans (hb3.mono (Nat.le_trans s1 s2)))
    have hs3 : w1.heap.size ≤ w3.heap.size := Nat.le_trans s2 s3
    have s13 : w.heap.size ≤ w3.heap.size := Nat.le_trans s1 hs3
    clear hb3 C3 HG2 HD2 HB2
    have hne : (N != N) = false := by simp
    have heq : (N == N) = true := by simp
    by_cases hn : N < 0
    · have C6 := Lib.hid (CS.out w3 HG3.out hs3 HD3.out hs3)
      have e1 : decide (N < 0) = true := decide_eq_true hn
      clear HOK CS hn
      go_wp2_with fail
      refine (C6.out).mono ?_
      rintro e w6 ⟨rfl, hb6⟩
      have HB6 := Lib.hid (HB3.out.trans (hb6.mono s13))
      clear hb6 C6
      go_wp2
      go_ret
      exact ⟨rfl, HB6.out⟩
    have e1 : decide (N < 0) = false := decide_eq_false hn
    have hlv : Bs.logV g d = true := by
      cases hv : Bs.logV g d
      · have h1 := HOK.out
        rw [Bs.mtL_no hv] at h1
        omega
      · rfl
    have hml := Bs.mt_law hlv
    rw [← HOK.out] at hml
    have f1 : decide (N ≤ (g.length : Int)) = true := decide_eq_true hml.2.1
    by_cases h0 : 0 < d.length
    · have h1 := hml.2.2.2 h0
      have f2 : decide (1 ≤ N) = true := decide_eq_true h1
      have f3 : decide (N ≥ 1) = true := decide_eq_true h1
      have f4 : decide ((0 : Int) < (d.length : Int)) = true := decide_eq_true (by omega)
      have f5 : decide (0 < d.length) = true := decide_eq_true h0
      clear HOK CS hn hlv hml h0 h1
      go_wp2
      go_ret
      exact ⟨rfl, HB3.out⟩
    · have h1 : ¬ 1 ≤ N := fun hx => h0 (hml.2.2.1 hx)
      have f2 : decide (1 ≤ N) = false := decide_eq_false h1
      have f3 : decide (N ≥ 1) = false := decide_eq_false h1
      have f4 : decide ((0 : Int) < (d.length : Int)) = false := decide_eq_false (by omega)
      have f5 : decide (0 < d.length) = false := decide_eq_false h0
      clear HOK CS hn hlv hml h0 h1
      go_wp2
      go_ret
      exact ⟨rfl, HB3.out⟩
end Go.Proofs.Ytenneicbhpjfmaa
