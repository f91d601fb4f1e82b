/-
  THE WALK OF laws.FnBlamedFor.
-/
import Derived.Test.YtlanlcdbcblfjaaX11
import Derived.Test.YtlanlcdbcblfjaaMath63
import Derived.Test.YtlanlcdbcblfjaaW76
import Derived.Test.YtlanlcdbcblfjaaR43
import Derived.Test.YtlanlcdbcblfjaaK5
namespace Go.Proofs.Ytlanlcdbcblfjaa
open Go.RowKit
set_option linter.unusedVariables false
set_option maxRecDepth 20000 in
set_option maxHeartbeats 6400000 in
theorem fnBlamedFor_walk (A : Option Addr) (c : Nat) (l : List Int) (w : World) (hb : RB w 0 w.heap.size A l) (hlc : l.length ≤ c ∧ c ≤ maxLen) :
    Calls Try.prog 8 #[.slice A l.length c] w fun e w' => e = .returned (.bool true) ∧ Below w.heap.size w w' := by
  have hl63 : l.length ≤ 9223372036854775807 := by have := hlc.2; unfold maxLen at this; omega
  by_cases hbig : 1048576 < l.length
  · go_enter Try.func8, Try.ntmps8
    go_wp2
    go_ret
    exact ⟨rfl, Below.refl _ _⟩
  · have C1 := Lib.hid (DrawBlamedFor_any A c l w hb hlc.1 hlc.2)
    clear hb
    go_enter Try.func8, Try.ntmps8
    go_wp2_with fail
    refine (C1.out).mono ?_
    rintro e w1 ⟨⟨A1, c1, g, A0, c0, d, a, rfl, hg, hg16, hgc, hcm, hd, hd100, hdc, hdm⟩, hb1⟩
    have HG := Lib.hid hg
    have HD := Lib.hid hd
    have s1 := hb1.size
    have hl9 : g.length ≤ 9223372036854775807 := by omega
    have hd9 : d.length ≤ 9223372036854775807 := by omega
    have qs := fun W (hb : Below w1.heap.size w1 W) => BlamedForS_any A1 c1 g A0 c0 d a w.heap.size w1.heap.size w.heap.size w1.heap.size W (HG.out.below hb (Nat.le_refl _)) hb.size (HD.out.below hb (Nat.le_refl _)) hb.size hl9 hd9
    have q2 := BlamedFor_any A1 c1 g A0 c0 d a w.heap.size w1.heap.size w.heap.size w1.heap.size w1 HG.out (Nat.le_refl _) HD.out (Nat.le_refl _) hl9 hd9
    have CO := Lib.hid (fun W (hb : Below w1.heap.size w1 W) => Outcomes_any A1 c1 g A0 c0 d 8 w.heap.size w1.heap.size w.heap.size w1.heap.size W (HG.out.below hb (Nat.le_refl _)) hb.size (HD.out.below hb (Nat.le_refl _)) hb.size hl9 hd9)
    have CI := Lib.hid (fun (x : Int) W (hb : Below w1.heap.size w1 W) => lisIn_any A0 c0 d x _ _ W (HD.out.below hb (Nat.le_refl _)) hd9)
    have CN := Lib.hid (fun (z : Int) W (hb : Below w1.heap.size w1 W) => AllNeeds_any A1 c1 g z w.heap.size w1.heap.size W (HG.out.below hb (Nat.le_refl _)) hb.size hl9)
    obtain ⟨V, hV⟩ : ∃ V, V = Bs.blamL g d a := ⟨_, rfl⟩
    rw [← hV] at q2 qs
    have HV := Lib.hid hV
    have C2 := Lib.hid q2
    have CS := Lib.hid qs
    have HB1 := Lib.hid hb1
    have hne : (V != V) = false := by simp
    have heq : (V == V) = true := by simp
    clear C1 hg hd q2 qs hb1 hV
    go_wp2_with fail
    with_reducible refine (C2.out).mono ?_
    rintro e w2 ⟨rfl, hb2⟩
    have s2 := hb2.size
    have HX2 := Lib.hid hb2
    have HB2 := Lib.hid (HB1.out.trans (hb2.mono s1))
    clear hb2 C2
    have C3 := Lib.hid (CO.out w2 HX2.out)
    obtain ⟨L, hL⟩ : ∃ L, L = Bs.outL g d 8 := ⟨_, rfl⟩
    rw [← hL] at C3
    have HL := Lib.hid hL
    clear hL CO CI
    go_wp2_with fail
    with_reducible refine (C3.out).mono ?_
    rintro e w3 ⟨⟨A3, c3, rfl, ho3⟩, hb3⟩
    have HX3 := Lib.hid (HX2.out.trans (hb3.mono s2))
    have HB3 := Lib.hid (HB2.out.trans (hb3.mono (Nat.le_trans s1 s2)))
    have hr3 := ho3.ri
    have s3 := HX3.out.size
    have C4 := Lib.hid (CS.out w3 HX3.out)
    clear ho3 hb3 C3
    go_wp2_with fail
    with_reducible refine (C4.out).mono ?_
    rintro e w4 ⟨rfl, hb4⟩
    have HX4 := Lib.hid (HX3.out.trans (hb4.mono s3))
    have HB4 := Lib.hid (HB3.out.trans (hb4.mono (Nat.le_trans s1 s3)))
    have HR4 := Lib.hid (hr3.below hb4 (Nat.le_refl _))
    have s4 := HX4.out.size
    have C5 := Lib.hid (CS.out w4 HX4.out)
    clear hr3 hb4 C4 CS
    by_cases ha0 : a < 0
    · clear HV HL CN
      go_wp2_with fail
      with_reducible refine (C5.out).mono ?_
      rintro e w5 ⟨rfl, hb5⟩
      have HB5 := Lib.hid (HB4.out.trans (hb5.mono (Nat.le_trans s1 s4)))
      clear hb5
      go_wp2
      go_ret
      exact ⟨rfl, HB5.out⟩
    · by_cases haL : (L.length : Int) ≤ a
      · clear HV HL CN
        go_wp2_with fail
        with_reducible refine (C5.out).mono ?_
        rintro e w5 ⟨rfl, hb5⟩
        have HB5 := Lib.hid (HB4.out.trans (hb5.mono (Nat.le_trans s1 s4)))
        clear hb5
        go_wp2
        go_ret
        exact ⟨rfl, HB5.out⟩
      · obtain ⟨m, rfl⟩ := Int.eq_ofNat_of_zero_le (show 0 ≤ a by omega)
        have hmL : m < L.length := by omega
        have hcf := out_can HL.out (by omega)
        have hLc := out_is HL.out hcf
        have hLl : L.length = g.length := by rw [hLc, Bs.outC_len]
        have hval := (Bs.canF_iff.1 hcf).1
        have hmg : m < g.length := by omega
        have hbf := blame_facts hcf hmg
        rw [← hLc, ← HV.out] at hbf
        have HGA := Lib.hid (fun v (hv : v < L.length) => Bs.gi_at (l := L) hv)
        have c6 := CN.out (m : Int) w4 HX4.out
        rw [needsA_yes hval hmg] at c6
        have C6 := Lib.hid c6
        have hn2l := Bs.needs2_len g m
        have h16 : (Bs.needs2 g m).length ≤ 100 := by omega
        have HLL := Lib.hid hLl
        obtain ⟨b, o, rfl, _, _, hcm4⟩ := HR4.out.at_ hmL
        rw [← HGA.out m hmL] at hcm4
        have i0 : (0 : Int) ≤ (m : Int) := by omega
        have i1 : (m : Int) < (L.length : Int) := by omega
        clear c6 hcf hLc hLl hval HL HV CN C5 hn2l
        generalize Bs.needs2 g m = N at *
        rcases hbf with ⟨rfl, h2⟩ | ⟨k, rfl, h2, h3, h4, h5, _, _⟩
        · rw [h2] at hcm4
          clear h2 HGA
          go_wp2
          go_ret
          exact ⟨rfl, HB4.out⟩
        · have hkL : k < L.length := by have := HLL.out; omega
          obtain ⟨b2, o2, e2, _, _, hck4⟩ := HR4.out.at_ hkL
          cases e2
          rw [← HGA.out k hkL, h3] at hck4
          generalize Bs.gi L m = x at *
          have j0 : (0 : Int) ≤ (k : Int) := by omega
          have j1 : (k : Int) < (L.length : Int) := by omega
          have d1 : ¬ (k : Int) < 0 := by omega
          have d2 : (x != 0) = true := by simp [h4]
          have d3 : (x == 0) = false := by simp [h4]
          clear h3 h4 HGA
          rcases h5 with rfl | h5
          · have d4 : ((k : Int) == (k : Int)) = true := by simp
            go_wp2
            go_ret
            exact ⟨rfl, HB4.out⟩
          · by_cases hkm : k = m
            · have d4 : ((k : Int) == (m : Int)) = true := by rw [beq_iff_eq]; omega
              clear hkm h5
              go_wp2
              go_ret
              exact ⟨rfl, HB4.out⟩
            · have d4 : ((k : Int) == (m : Int)) = false := by rw [beq_eq_false_iff_ne]; omega
              have C7 := Lib.hid (fun A' c' W lo hi (h : RI W lo hi A' N) => lisIn_any A' c' N (k : Int) lo hi W h (by omega))
              simp only [h5] at C7
              clear hkm h5
              go_wp2_with fail
              with_reducible refine (C6.out).mono ?_
              rintro e w6 ⟨⟨A6, c6, rfl, ho6⟩, hb6⟩
              have HB6 := Lib.hid (HB4.out.trans (hb6.mono (Nat.le_trans s1 s4)))
              have C8 := Lib.hid (C7.out A6 c6 w6 _ _ ho6.ri)
              clear ho6 hb6 C6 C7
              go_wp2_with fail
              with_reducible refine (C8.out).mono ?_
              rintro e _ ⟨rfl, rfl⟩
              go_wp2
              go_ret
              exact ⟨rfl, HB6.out⟩
end Go.Proofs.Ytlanlcdbcblfjaa
