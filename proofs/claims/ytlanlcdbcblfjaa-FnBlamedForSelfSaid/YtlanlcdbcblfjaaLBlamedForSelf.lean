/-
  THE WALK OF laws.FnBlamedForSelf.
-/
import Derived.Test.YtlanlcdbcblfjaaX11
import Derived.Test.YtlanlcdbcblfjaaMath63
import Derived.Test.YtlanlcdbcblfjaaW76
import Derived.Test.YtlanlcdbcblfjaaR43
import Derived.Test.YtlanlcdbcblfjaaK5
namespace Go.Proofs.Ytlanlcdbcblfjaa
open Go.RowKit
set_option linter.unusedVariables false
set_option maxRecDepth 20000 in
set_option maxHeartbeats 6400000 in
theorem fnBlamedForSelf_walk (A : Option Addr) (c : Nat) (l : List Int) (w : World) (hb : RB w 0 w.heap.size A l) (hlc : l.length ≤ c ∧ c ≤ maxLen) :
    Calls Try.prog 13 #[.slice A l.length c] w fun e w' => e = .returned (.bool true) ∧ Below w.heap.size w w' := by
  have hl63 : l.length ≤ 9223372036854775807 := by have := hlc.2; unfold maxLen at this; omega
  by_cases hbig : 1048576 < l.length
  · go_enter Try.func13, Try.ntmps13
    go_wp2
    go_ret
    exact ⟨rfl, Below.refl _ _⟩
  · have C1 := Lib.hid (DrawBlamedFor_any A c l w hb hlc.1 hlc.2)
    clear hb
    go_enter Try.func13, Try.ntmps13
    go_wp2_with fail
    refine (C1.out).mono ?_
    rintro e w1 ⟨⟨A1, c1, g, A0, c0, d, a, rfl, hg, hg16, hgc, hcm, hd, hd100, hdc, hdm⟩, hb1⟩
    have HG := Lib.hid hg
    have HD := Lib.hid hd
    have s1 := hb1.size
    have hl9 : g.length ≤ 9223372036854775807 := by omega
    have hd9 : d.length ≤ 9223372036854775807 := by omega
    have qs := fun W (hb : Below w1.heap.size w1 W) => BlamedForS_any A1 c1 g A0 c0 d a w.heap.size w1.heap.size w.heap.size w1.heap.size W (HG.out.below hb (Nat.le_refl _)) hb.size (HD.out.below hb (Nat.le_refl _)) hb.size hl9 hd9
    have q2 := BlamedFor_any A1 c1 g A0 c0 d a w.heap.size w1.heap.size w.heap.size w1.heap.size w1 HG.out (Nat.le_refl _) HD.out (Nat.le_refl _) hl9 hd9
    have CO := Lib.hid (fun W (hb : Below w1.heap.size w1 W) => Outcomes_any A1 c1 g A0 c0 d 8 w.heap.size w1.heap.size w.heap.size w1.heap.size W (HG.out.below hb (Nat.le_refl _)) hb.size (HD.out.below hb (Nat.le_refl _)) hb.size hl9 hd9)
    have CI := Lib.hid (fun (x : Int) W (hb : Below w1.heap.size w1 W) => lisIn_any A0 c0 d x _ _ W (HD.out.below hb (Nat.le_refl _)) hd9)
    have CN := Lib.hid (fun (z : Int) W (hb : Below w1.heap.size w1 W) => AllNeeds_any A1 c1 g z w.heap.size w1.heap.size W (HG.out.below hb (Nat.le_refl _)) hb.size hl9)
    obtain ⟨V, hV⟩ : ∃ V, V = Bs.blamL g d a := ⟨_, rfl⟩
    rw [← hV] at q2 qs
    have HV := Lib.hid hV
    have C2 := Lib.hid q2
    have CS := Lib.hid qs
    have HB1 := Lib.hid hb1
    have hne : (V != V) = false := by simp
    have heq : (V == V) = true := by simp
    clear C1 hg hd q2 qs hb1 hV
    go_wp2_with fail
    with_reducible refine (C2.out).mono ?_
    rintro e w2 ⟨rfl, hb2⟩
    have s2 := hb2.size
    have HX2 := Lib.hid hb2
    have HB2 := Lib.hid (HB1.out.trans (hb2.mono s1))
    clear hb2 C2
    have C4 := Lib.hid (CS.out w2 HX2.out)
    go_wp2_with fail
    with_reducible refine (C4.out).mono ?_
    rintro e w4 ⟨rfl, hb4⟩
    have HX4 := Lib.hid (HX2.out.trans (hb4.mono s2))
    have HB4 := Lib.hid (HB2.out.trans (hb4.mono (Nat.le_trans s1 s2)))
    have s4 := HX4.out.size
    have C5 := Lib.hid (CS.out w4 HX4.out)
    clear hb4 C4 CS CO CN
    by_cases hV0 : V < 0
    · clear HV CI
      go_wp2_with fail
      with_reducible refine (C5.out).mono ?_
      rintro e w5 ⟨rfl, hb5⟩
      have HB5 := Lib.hid (HB4.out.trans (hb5.mono (Nat.le_trans s1 s4)))
      clear hb5
      go_wp2
      go_ret
      exact ⟨rfl, HB5.out⟩
    · obtain ⟨hcf, m, rfl, hmg⟩ := blame_yes (by rw [← HV.out]; exact hV0)
      have hbf := blame_facts hcf hmg
      rw [← HV.out] at hbf
      clear C5 HV hcf
      rcases hbf with ⟨rfl, _⟩ | ⟨k, rfl, h2, _, _, _, h6, h7⟩
      · omega
      · obtain ⟨bg, og, N, cN, rfl, _, hgh, q0, q1, q2, q3, hlN, hcN, hN⟩ := (HG.out.below HX4.out (Nat.le_refl _)) m hmg
        have C6 := Lib.hid (CI.out (k : Int) w4 HX4.out)
        rw [h6] at C6
        have i0 : (0 : Int) ≤ (m : Int) := by omega
        have i1 : (m : Int) < (g.length : Int) := by omega
        clear h6 CI hN q0 q2 q3
        generalize g[m].needs.length = nl at *
        by_cases hn0 : nl = 0
        · have hkm := h7 hn0
          subst hkm
          subst hn0
          have d4 : ((k : Int) == (k : Int)) = true := by simp
          clear h7
          go_wp2_with fail
          with_reducible refine (C6.out).mono ?_
          rintro e _ ⟨rfl, rfl⟩
          go_wp2
          go_ret
          exact ⟨rfl, HB4.out⟩
        · have d5 : (0 : Int) < (nl : Int) := by omega
          have d5a : decide ((0 : Int) < (nl : Int)) = true := by simp; omega
          have d5b : decide (0 < nl) = true := by simp; omega
          clear h7 hn0
          go_wp2_with fail
          with_reducible refine (C6.out).mono ?_
          rintro e _ ⟨rfl, rfl⟩
          go_wp2
          go_ret
          exact ⟨rfl, HB4.out⟩
end Go.Proofs.Ytlanlcdbcblfjaa
