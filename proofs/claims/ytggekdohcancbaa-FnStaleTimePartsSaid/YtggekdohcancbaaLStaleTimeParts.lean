/-
  THE WALK OF laws.FnStaleTimeParts.
-/
import Derived.Test.YtggekdohcancbaaX13
import Derived.Test.YtggekdohcancbaaMath72
import Derived.Test.YtggekdohcancbaaL1
namespace Go.Proofs.Ytggekdohcancbaa
open Go.RowKit
set_option linter.unusedVariables false
set_option maxRecDepth 20000 in
set_option maxHeartbeats 6400000 in
theorem fnStaleTimeParts_walk (A : Option Addr) (c : Nat) (l : List Int) (w : World) (hb : RB w 0 w.heap.size A l) (hlc : l.length ≤ c ∧ c ≤ maxLen) :
    Calls Try.prog 14 #[.slice A l.length c] w fun e w' => e = .returned (.bool true) ∧ Below w.heap.size w w' := by
  have hl63 : l.length ≤ 9223372036854775807 := by have := hlc.2; unfold maxLen at this; omega
  by_cases hbig : 1048576 < l.length
  · go_enter Try.func14, Try.ntmps14
    go_wp2
    go_ret
    exact ⟨rfl, Below.refl _ _⟩
  · have C1 := Lib.hid (DrawStaleTime_any A c l w hb hlc.1 hlc.2)
    clear hb
    go_enter Try.func14, Try.ntmps14
    go_wp2_with fail
    refine (C1.out).mono ?_
    rintro e w1 ⟨⟨A1, c1, g, A0, c0, d, rfl, hg, hg16, hgc, hcm, hd, hd100, hdc, hdm⟩, hb1⟩
    have HG := Lib.hid hg
    have HD := Lib.hid hd
    have s1 := hb1.size
    have hl9 : g.length ≤ 9223372036854775807 := by omega
    have hd9 : d.length ≤ 9223372036854775807 := by omega
    have qs := fun W (hb : Below w1.heap.size w1 W) => StaleTimeS_any A1 c1 g A0 c0 d w.heap.size w1.heap.size w.heap.size w1.heap.size W (HG.out.below hb (Nat.le_refl _)) hb.size (HD.out.below hb (Nat.le_refl _)) hb.size hl9 hd9
    have q2 := StaleTime_any A1 c1 g A0 c0 d w.heap.size w1.heap.size w.heap.size w1.heap.size w1 HG.out (Nat.le_refl _) HD.out (Nat.le_refl _) hl9 hd9
    obtain ⟨V, hV⟩ : ∃ V, V = Bs.stalT g d := ⟨_, rfl⟩
    rw [← hV] at q2 qs
    have HV := Lib.hid hV
    have C2 := Lib.hid q2
    have CS := Lib.hid qs
    have HB1 := Lib.hid hb1
    have hne : (V != V) = false := by simp
    have heq : (V == V) = true := by simp
    clear C1 hg hd q2 qs hb1 hV
    go_wp2_with fail
    with_reducible refine (C2.out).mono ?_
    rintro e w2 ⟨rfl, hb2⟩
    have s2 := hb2.size
    have HX2 := Lib.hid hb2
    have HB2 := Lib.hid (HB1.out.trans (hb2.mono s1))
    clear hb2 C2
    have C4 := Lib.hid (CS.out w2 HX2.out)
    go_wp2_with fail
    with_reducible refine (C4.out).mono ?_
    rintro e W4 ⟨rfl, hb4⟩
    have HX4 := Lib.hid (HX2.out.trans (hb4.mono s2))
    have HB4 := Lib.hid (HB2.out.trans (hb4.mono (Nat.le_trans s1 s2)))
    have s4 := HX4.out.size
    have C5 := Lib.hid (CS.out W4 HX4.out)
    clear hb4 C4 CS
    by_cases hV0 : V < 0
    · clear HV
      go_wp2_with fail
      with_reducible refine (C5.out).mono ?_
      rintro e w5 ⟨rfl, hb5⟩
      have HB5 := Lib.hid (HB4.out.trans (hb5.mono (Nat.le_trans s1 s4)))
      clear hb5
      go_wp2
      go_ret
      exact ⟨rfl, HB5.out⟩
    · have hok : Bs.staOk g d = true := by
        cases h : Bs.staOk g d
        · have := HV.out
          rw [Bs.stalT_no h] at this
          omega
        · rfl
      clear C5
      have hparts := Bs.stal_parts hok
      by_cases hd0 : d.length = 0
      · have hq2 : ((d.length : Int) == 0) = true := by simp [hd0]
        have C5 := Lib.hid (StaleTimeS_any A1 c1 g A0 c0 d w.heap.size w1.heap.size w.heap.size w1.heap.size W4 (HG.out.below HX4.out (Nat.le_refl _)) s4 (HD.out.below HX4.out (Nat.le_refl _)) s4 hl9 hd9)
        rw [← HV.out] at C5
        clear hparts HV hok hd0
        go_wp2_with fail
        with_reducible refine (C5.out).mono ?_
        rintro e w5 ⟨rfl, hb5⟩
        have HB5 := Lib.hid (HB4.out.trans (hb5.mono (Nat.le_trans s1 s4)))
        clear hb5
        go_wp2
        go_ret
        exact ⟨rfl, HB5.out⟩
      · have hq2 : ((d.length : Int) == 0) = false := by rw [beq_eq_false_iff_ne]; omega
        have hd1 : 0 < d.length := by omega
        have hd4 := HD.out.below HX4.out (Nat.le_refl _)
        have hg4 := HG.out.below HX4.out (Nat.le_refl _)
        obtain ⟨b, o, rfl, hbl, hbh, hcd⟩ := hd4 0 hd1
        have e1 : (d.take 1).length = 1 := by rw [List.length_take]; omega
        have e2 : d.tail.length = d.length - 1 := List.length_tail
        have e3 : d.drop 1 = d.tail := by rw [List.drop_one]
        rw [e3] at hparts
        obtain ⟨P, hP⟩ : ∃ P, P = Bs.stalT g (d.take 1) := ⟨_, rfl⟩
        obtain ⟨Q, hQ⟩ : ∃ Q, Q = Bs.stalT g d.tail := ⟨_, rfl⟩
        have hPb : 0 ≤ P ∧ P ≤ 1000000 := by
          have h1 := Bs.stal_all (Bs.sta_take hok 1)
          rw [← hP] at h1
          have h2 := stal_small hok
          rw [← HV.out] at hparts h2
          rw [← hP] at hparts
          omega
        have hQb : 0 ≤ Q ∧ Q ≤ 1000000 := by
          have h0 := Bs.sta_drop hok 1
          rw [e3] at h0
          have h1 := Bs.stal_all h0
          rw [← hQ] at h1
          have h2 := stal_small hok
          rw [← HV.out] at hparts h2
          rw [← hQ] at hparts
          omega
        rw [← HV.out, ← hP, ← hQ] at hparts
        have c5 := StaleTime_any A1 c1 g (some ⟨b, o, none⟩) c0 (d.take 1) w.heap.size w1.heap.size w.heap.size w1.heap.size W4 hg4 s4 (hd4.take 1) s4 hl9 (by omega)
        rw [← hP, e1] at c5
        have c6 := fun A7 c0' W hg hd hs => StaleTime_any A1 c1 g A7 c0' d.tail w.heap.size w1.heap.size w.heap.size w1.heap.size W hg hs hd hs hl9 (by omega)
        rw [← hQ, e2] at c6
        have HDZ := Lib.hid (fun (hd2 : d.length ≤ 1) (W : World) => show RI W w.heap.size w1.heap.size (some ⟨b, o, none⟩) d.tail from by intro k hk; exact absurd hk (by omega))
        have HDT := Lib.hid (show RI W4 w.heap.size w1.heap.size (some ⟨b, o + 1, none⟩) d.tail from hd4.tail)
        have C5 := Lib.hid c5
        have C6 := Lib.hid c6
        have HG4 := Lib.hid hg4
        have f1 : (1 : Int) ≤ (c0 : Int) := by omega
        have f2 : (1 : Int) ≤ (d.length : Int) := by omega
        have f3 : (d.length : Int) ≤ (c0 : Int) := by omega
        have f4 : 1 ≤ c0 := by omega
        have f5 : 1 ≤ d.length := by omega
        have hw : IntKind.i64.wrap (P + Q) = P + Q := IntWalk.i64_in _ ⟨by omega, by omega⟩
        obtain ⟨p1, p2, p3⟩ := hparts
        have g1 : decide (V ≤ P + Q) = true := by simp; omega
        have g2 : decide (V ≥ P) = true := by simp; omega
        have g3 : decide (V ≥ Q) = true := by simp; omega
        have g2' : decide (P ≤ V) = true := by simp; omega
        have g3' : decide (Q ≤ V) = true := by simp; omega
        clear c5 c6 hP hQ hd0 HV hok e1 e2 e3 hd4 hg4 hcd
        go_wp2_with fail
        with_reducible refine (C5.out).mono ?_
        rintro e w5 ⟨rfl, hb5⟩
        have HG5 := Lib.hid (HG4.out.below hb5 s4)
        have HDT5 := Lib.hid (HDT.out.below hb5 s4)
        have HB5 := Lib.hid (HB4.out.trans (hb5.mono HB4.out.size))
        have hs5 : w1.heap.size ≤ w5.heap.size := Nat.le_trans s4 hb5.size
        have C6a := fun c0' => Lib.hid (C6.out _ c0' w5 HG5.out HDT5.out hs5)
        have C6b := fun c0' hd2 => Lib.hid (C6.out _ c0' w5 HG5.out (HDZ.out hd2 w5) hs5)
        clear hb5 C5 C6
        go_wp2_with fail
        all_goals
          first
            | with_reducible refine ((C6a _).out).mono ?_
            | with_reducible refine ((C6b _ (by omega)).out).mono ?_
          rintro e w6 ⟨rfl, hb6⟩
          have HB6 := Lib.hid (HB5.out.trans (hb6.mono HB5.out.size))
          clear hb6 C6a C6b HDZ HDT5 HDT
          go_wp2
          go_ret
          exact ⟨by first | rfl | simp; omega | (simp; exact ⟨⟨by omega, by omega⟩, by omega⟩), HB6.out⟩
end Go.Proofs.Ytggekdohcancbaa
