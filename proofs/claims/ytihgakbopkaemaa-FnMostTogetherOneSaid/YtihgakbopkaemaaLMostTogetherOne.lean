/-
  THE WALK OF laws.FnMostTogetherOne.
-/
import Derived.Test.YtihgakbopkaemaaK31
import Derived.Test.YtihgakbopkaemaaK29
import Derived.Test.YtihgakbopkaemaaK30
import Derived.Test.YtihgakbopkaemaaK44
import Derived.Test.YtihgakbopkaemaaRI
import Derived.Test.YtihgakbopkaemaaMath103
import Derived.Test.YtihgakbopkaemaaW86
import Derived.Test.YtihgakbopkaemaaK40
import Derived.Test.YtihgakbopkaemaaK41
import Derived.Test.YtihgakbopkaemaaL1
namespace Go.Proofs.Ytihgakbopkaemaa
open Go.RowKit
set_option linter.unusedVariables false
theorem row3_4 (w : World) : RI (w.alloc (.cells #[.int .i64 4, .int .i64 4, .int .i64 4] 3)) w.heap.size (w.alloc (.cells #[.int .i64 4, .int .i64 4, .int .i64 4] 3)).heap.size (some ⟨w.heap.size, 0, none⟩) Bs.m4 :=
  ((show Arr (w.alloc (.cells (intsA Bs.m4) 3)) w.heap.size Bs.m4 from Blk.new _ 3 _).oi (Nat.le_refl _) (by decide)).ri
set_option maxRecDepth 20000 in
set_option maxHeartbeats 6400000 in
theorem fnMostTogetherOne_walk (A : Option Addr) (c : Nat) (l : List Int) (w : World) (hb : RB w 0 w.heap.size A l) (hlc : l.length ≤ c ∧ c ≤ maxLen) :
    Calls Try.prog 9 #[.slice A l.length c] w fun e w' => e = .returned (.bool true) ∧ Below w.heap.size w w' := by
  have hl63 : l.length ≤ 9223372036854775807 := by have := hlc.2; unfold maxLen at this; omega
  by_cases hbig : 1048576 < l.length
  · go_enter Try.func9, Try.ntmps9
    go_wp2
    go_ret
    exact ⟨rfl, Below.refl _ _⟩
  · have C1 := Lib.hid (DrawMostTogether_any A c l w hb hlc.1 hlc.2)
    clear hb
    go_enter Try.func9, Try.ntmps9
    go_wp2_with fail
    refine (C1.out).mono ?_
    rintro e w1 ⟨⟨A1, c1, g, A0, c0, d, rfl, hg, hg16, hgc, hcm, hd, hd100, hdc, hdm⟩, hb1⟩
    have HG := Lib.hid hg
    have HD := Lib.hid hd
    have s1 := hb1.size
    have hl9 : g.length ≤ 9223372036854775807 := by omega
    have hd9 : d.length ≤ 9223372036854775807 := by omega
    have c2 := fun W hg hs hd hs2 => MostTogether_any A1 c1 g A0 c0 d w.heap.size w1.heap.size w.heap.size w1.heap.size W hg hs hd hs2 hl9 hd9
    have cs := fun W hg hs hd hs2 => MostTogetherS_any A1 c1 g A0 c0 d w.heap.size w1.heap.size w.heap.size w1.heap.size W hg hs hd hs2 hl9 hd9
    have C2 := Lib.hid (c2 w1 HG.out (Nat.le_refl _) HD.out (Nat.le_refl _))
    obtain ⟨N, hok⟩ : ∃ N, N = Bs.mtL g d := ⟨_, rfl⟩
    have HOK := Lib.hid hok
    rw [← hok] at C2 cs
    have CS := Lib.hid cs
    have HB1 := Lib.hid hb1
    clear C1 hg hd c2 cs hb1 hok
    go_wp2_with fail
    refine (C2.out).mono ?_
    rintro e w2 ⟨rfl, hb2⟩
    have s2 := hb2.size
    have HG2 := Lib.hid (HG.out.below hb2 (Nat.le_refl _))
    have HD2 := Lib.hid (HD.out.below hb2 (Nat.le_refl _))
    have HB2 := Lib.hid (HB1.out.trans (hb2.mono s1))
    have C3 := Lib.hid (CS.out w2 HG2.out s2 HD2.out s2)
    clear hb2 C2 HG HD HB1
    go_wp2_with fail
    refine (C3.out).mono ?_
    rintro e w3 ⟨rfl, hb3⟩
    have s3 := hb3.size
    have HG3 := Lib.hid (HG2.out.below hb3 s2)
    have HD3 := Lib.hid (HD2.out.below hb3 s2)
    have HB3 := Lib.hid (HB2.out.trans (hb3.mono (Nat.le_trans s1 s2)))
    have hs3 : w1.heap.size ≤ w3.heap.size := Nat.le_trans s2 s3
    have s13 : w.heap.size ≤ w3.heap.size := Nat.le_trans s1 hs3
    clear hb3 C3 HG2 HD2 HB2
    have hne : (N != N) = false := by simp
    have heq : (N == N) = true := by simp
    have cv := ValidGraph_any A1 c1 g w.heap.size w1.heap.size w3 HG3.out hs3 hl9
    by_cases hag : Bs.valid g = false ∨ g.length = 0
    · have z : Bs.valid g = false ∨ Bs.valid g = true ∧ ((g.length : Int) == 0) = true := by
        cases hv : Bs.valid g
        · exact .inl rfl
        · rcases hag with h | h
          · rw [hv] at h; cases h
          · exact .inr ⟨rfl, by rw [h]; rfl⟩
      clear hag HOK
      rcases z with hv | ⟨hv, hz⟩
      all_goals
        rw [hv] at cv
        have CV := Lib.hid cv
        clear cv hv
        go_wp2_with fail
        with_reducible refine (CV.out).mono ?_
        rintro e w4 ⟨rfl, hb4⟩
        have hs4 : w1.heap.size ≤ w4.heap.size := Nat.le_trans hs3 hb4.size
        have C6 := Lib.hid (CS.out w4 (HG3.out.below hb4 hs3) hs4 (HD3.out.below hb4 hs3) hs4)
        have HB4 := Lib.hid (HB3.out.trans (hb4.mono s13))
        have s14 : w.heap.size ≤ w4.heap.size := Nat.le_trans s1 hs4
        clear hb4 CV CS
        go_wp2_with fail
        refine (C6.out).mono ?_
        rintro e w6 ⟨rfl, hb6⟩
        have HB6 := Lib.hid (HB4.out.trans (hb6.mono s14))
        clear hb6 C6
        go_wp2
        go_ret
        exact ⟨rfl, HB6.out⟩
    obtain ⟨hv0, hg0⟩ := not_or.1 hag
    have hv : Bs.valid g = true := by cases h : Bs.valid g; (· exact absurd h hv0); rfl
    have hq1 : ((g.length : Int) == 0) = false := by rw [beq_eq_false_iff_ne]; omega
    rw [hv] at cv
    have CV := Lib.hid cv
    have hlaw := Bs.one_log hv (by omega)
    have h8 := Bs.fine_len (valid_fine hv)
    obtain ⟨P, hP⟩ : ∃ P, P = Bs.planL g Bs.m4 1 := ⟨_, rfl⟩
    obtain ⟨L, hL⟩ : ∃ L, L = Bs.logL g Bs.m4 1 P := ⟨_, rfl⟩
    have hPl : P.length ≤ 1000 := by
      have hc : Bs.stV g Bs.m4 1 P = true ∨ Bs.stV g Bs.m4 1 P = false := by cases Bs.stV g Bs.m4 1 P; exact .inr rfl; exact .inl rfl
      rcases hc with hc | hc
      · have := (Bs.stV_facts hc).2.2.1; omega
      · exfalso
        have h1 := hlaw.1
        have h2 := hlaw.2
        rw [← hP, Bs.logL_no hc] at h2
        rw [Bs.mtL_yes (by rw [← hP, Bs.logL_no hc] at h1; exact h1)] at h2
        exact absurd h2 (by decide)
    have hLl : L.length ≤ 4000 := by rw [hL]; have := logL_len g Bs.m4 1 P; omega
    have e5 := fun W (hb : Below w3.heap.size w3 W) A2 lo2 hi2 (hm : RI W lo2 hi2 A2 Bs.m4) (hh2 : hi2 ≤ W.heap.size) => show Calls Try.prog 32 #[.slice A1 g.length c1, .slice A2 3 3, .int .i64 1] W (RetI W (Bs.planL g Bs.m4 1)) from PlanStarts_any A1 c1 g A2 3 Bs.m4 1 w.heap.size w1.heap.size lo2 hi2 W (HG3.out.below hb hs3) (Nat.le_trans hs3 hb.size) hm hh2 hl9 (by decide)
    have e6 := fun W (hb : Below w3.heap.size w3 W) A2 lo2 hi2 (hm : RI W lo2 hi2 A2 Bs.m4) (hh2 : hi2 ≤ W.heap.size) A3 c3 lo3 hi3 (hm3 : RI W lo3 hi3 A3 P) (hh3 : hi3 ≤ W.heap.size) => show Calls Try.prog 11 #[.slice A1 g.length c1, .slice A2 3 3, .int .i64 1, .slice A3 P.length c3] W (RetE W (Bs.logL g Bs.m4 1 P)) from LogOf_any A1 c1 g A2 3 Bs.m4 A3 c3 P 1 w.heap.size w1.heap.size lo2 hi2 lo3 hi3 W (HG3.out.below hb hs3) (Nat.le_trans hs3 hb.size) hm hh2 hm3 hh3 hl9 (by decide) (by omega)
    have e7 := fun W (hb : Below w3.heap.size w3 W) A2 c2 lo2 hi2 (hm : RE W lo2 hi2 A2 L) (hh2 : hi2 ≤ W.heap.size) => ValidLog_any A1 c1 g A2 c2 L w.heap.size w1.heap.size lo2 hi2 W (HG3.out.below hb hs3) (Nat.le_trans hs3 hb.size) hm hh2 hl9 (by omega)
    have e8 := fun W (hb : Below w3.heap.size w3 W) A2 c2 lo2 hi2 (hm : RE W lo2 hi2 A2 L) (hh2 : hi2 ≤ W.heap.size) => MostTogether_any A1 c1 g A2 c2 L w.heap.size w1.heap.size lo2 hi2 W (HG3.out.below hb hs3) (Nat.le_trans hs3 hb.size) hm hh2 hl9 (by omega)
    rw [← hP] at e5 hlaw
    rw [← hL] at e6 hlaw
    rw [hlaw.1] at e7
    rw [hlaw.2] at e8
    have E5 := Lib.hid e5
    have E6 := Lib.hid e6
    have E7 := Lib.hid e7
    have E8 := Lib.hid e8
    clear cv e5 e6 e7 e8 hlaw hP hL hag hv0 hg0 hv HOK CS HD3
    go_wp2_with fail
    with_reducible refine (CV.out).mono ?_
    rintro e w4 ⟨rfl, hb4⟩
    have s4 := hb4.size
    have hal := (Below.refl w4.heap.size w4).alloc (Nat.le_refl _) (.cells #[.int .i64 4, .int .i64 4, .int .i64 4] 3)
    have hrm := row3_4 w4
    obtain ⟨W5, hW5⟩ : ∃ W5, W5 = w4.alloc (.cells #[.int .i64 4, .int .i64 4, .int .i64 4] 3) := ⟨_, rfl⟩
    rw [← hW5] at hal hrm
    have HX5 := Lib.hid (hb4.trans (hal.mono s4))
    have C6 := Lib.hid (E5.out _ HX5.out _ _ _ hrm (Nat.le_refl _))
    have HRM := Lib.hid hrm
    have h45 := hal.size
    have HWW := Lib.hid hW5
    clear hb4 CV hal hrm E5
    rw [hW5] at C6
    clear hW5
    go_wp2_with fail
    with_reducible refine (C6.out).mono ?_
    rw [← HWW.out]
    rintro e w6 ⟨⟨A6, c6, rfl, ho6⟩, hb6⟩
    have s6 := hb6.size
    have HX6 := Lib.hid (HX5.out.trans (hb6.mono HX5.out.size))
    have C7 := Lib.hid (E6.out _ HX6.out _ _ _ (HRM.out.below hb6 (Nat.le_refl _)) hb6.size _ c6 _ _ ho6.ri (Nat.le_refl _))
    clear hb6 ho6 C6 HX5 HRM E6 HWW
    go_wp2_with fail
    with_reducible refine (C7.out).mono ?_
    rintro e w7 ⟨⟨A7, c7, rfl, ho7⟩, hb7⟩
    have HX7 := Lib.hid (HX6.out.trans (hb7.mono HX6.out.size))
    have HQ7 := Lib.hid ho7.re
    have C8 := Lib.hid (E7.out _ HX7.out _ c7 _ _ HQ7.out (Nat.le_refl _))
    clear hb7 ho7 C7 HX6 E7
    go_wp2_with fail
    with_reducible refine (C8.out).mono ?_
    rintro e w8 ⟨rfl, hb8⟩
    have HX8 := Lib.hid (HX7.out.trans (hb8.mono HX7.out.size))
    have C9 := Lib.hid (E8.out _ HX8.out _ c7 _ _ (HQ7.out.below hb8 (Nat.le_refl _)) hb8.size)
    clear hb8 C8 HX7 HQ7 E8
    go_wp2_with fail
    with_reducible refine (C9.out).mono ?_
    rintro e w9 ⟨rfl, hb9⟩
    have HX9 := Lib.hid (HX8.out.trans (hb9.mono HX8.out.size))
    have HBF := Lib.hid (HB3.out.trans (HX9.out.mono s13))
    clear hb9 C9 HX8 HX9
    go_wp2
    go_ret
    exact ⟨rfl, HBF.out⟩
end Go.Proofs.Ytihgakbopkaemaa
