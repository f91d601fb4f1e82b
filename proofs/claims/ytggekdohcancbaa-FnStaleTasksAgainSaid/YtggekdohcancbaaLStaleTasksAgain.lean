/-
  THE WALK OF laws.FnStaleTasksAgain.
-/
import Derived.Test.YtggekdohcancbaaK17
import Derived.Test.YtggekdohcancbaaX13
import Derived.Test.YtggekdohcancbaaW91
import Derived.Test.YtggekdohcancbaaMath72
import Derived.Test.YtggekdohcancbaaL1
namespace Go.Proofs.Ytggekdohcancbaa
open Go.RowKit
set_option maxRecDepth 20000 in
set_option maxHeartbeats 6400000 in
theorem fnStaleTasksAgain_walk (A : Option Addr) (c : Nat) (l : List Int) (w : World) (hb : RB w 0 w.heap.size A l) (hlc : l.length ≤ c ∧ c ≤ maxLen) :
    Calls Try.prog 4 #[.slice A l.length c] w fun e w' => e = .returned (.bool true) ∧ Below w.heap.size w w' := by
  have hl63 : l.length ≤ 9223372036854775807 := by have := hlc.2; unfold maxLen at this; omega
  by_cases hbig : 1048576 < l.length
  · go_enter Try.func4, Try.ntmps4
    go_wp2
    go_ret
    exact ⟨rfl, Below.refl _ _⟩
  · have C1 := Lib.hid (DrawStaleTasks_any A c l w hb hlc.1 hlc.2)
    clear hb
    go_enter Try.func4, Try.ntmps4
    go_wp2_with fail
    refine (C1.out).mono ?_
    rintro e w1 ⟨⟨A1, c1, g, A0, c0, d, rfl, hg, hg16, hgc, hcm, hd, hd100, hdc, hdm⟩, hb1⟩
    have HG := Lib.hid hg
    have HD := Lib.hid hd
    have s1 := hb1.size
    have hl9 : g.length ≤ 9223372036854775807 := by omega
    have hd9 : d.length ≤ 9223372036854775807 := by omega
    obtain ⟨L, hL⟩ : ∃ L, L = Bs.staleL g d := ⟨_, rfl⟩
    have c2 := StaleTasks_any A1 c1 g A0 c0 d w.heap.size w1.heap.size w.heap.size w1.heap.size w1 HG.out (Nat.le_refl _) HD.out (Nat.le_refl _) hl9 hd9
    have hlen : L.length ≤ 1000 := by rw [hL]; exact StaleTasks_len100 g d (by omega) (by omega)
    rw [← hL] at c2
    have C2 := Lib.hid c2
    have CS := Lib.hid (fun w2 hg hd hs => StaleTasksS_any A1 c1 g A0 c0 d w.heap.size w1.heap.size w.heap.size w1.heap.size w2 hg hs hd hs hl9 hd9)
    rw [← hL] at CS
    have HL := Lib.hid hL
    have HB1 := Lib.hid hb1
    clear C1 hg hd hL c2 hb1
    go_wp2_with fail
    refine (C2.out).mono ?_
    rintro e w2 hr2
    obtain ⟨A2, c2, rfl, q2, hb2, hlc2, hcm2⟩ := hr2.ri
    have s2 := hb2.size
    have HQ2 := Lib.hid q2
    have HG2 := Lib.hid (HG.out.below hb2 (Nat.le_refl _))
    have HD2 := Lib.hid (HD.out.below hb2 (Nat.le_refl _))
    have HB2 := Lib.hid (HB1.out.trans (hb2.mono s1))
    have C3 := Lib.hid (CS.out w2 HG2.out HD2.out s2)
    clear hr2 q2 hb2 C2 HG HD HB1
    go_wp2_with fail
    refine (C3.out).mono ?_
    rintro e w3 hr3
    obtain ⟨A3, c3, rfl, q3, hb3, hlc3, hcm3⟩ := hr3.ri
    have s3 := hb3.size
    have C4 := Lib.hid (equalInts_same A2 c2 A3 c3 L _ _ _ _ w3 (HQ2.out.below hb3 (Nat.le_refl _)) q3 (by omega))
    have HG3 := Lib.hid (HG2.out.below hb3 s2)
    have HD3 := Lib.hid (HD2.out.below hb3 s2)
    have HQ3 := Lib.hid (HQ2.out.below hb3 (Nat.le_refl _))
    have HB3 := Lib.hid (HB2.out.trans (hb3.mono (Nat.le_trans s1 s2)))
    clear hr3 q3 hb3 C3 HQ2 HB2 HG2 HD2
    go_wp2_with fail
    refine (C4.out).mono ?_
    rintro e w4 ⟨rfl, n, rfl⟩
    clear C4
    obtain ⟨W3, rfl⟩ : ∃ W3, W3 = w3 := ⟨_, rfl⟩
    have hs23 : w2.heap.size ≤ (W3.drewN n).heap.size := s3
    have hs3 : w1.heap.size ≤ (W3.drewN n).heap.size := Nat.le_trans s2 s3
    have cv := ValidGraph_any A1 c1 g w.heap.size w1.heap.size (W3.drewN n) (HG3.out.drewN n) hs3 hl9
    cases hval : Bs.valid g
    · rw [hval] at cv
      have CV := Lib.hid cv
      clear HL cv hval
      go_wp2_with fail
      with_reducible refine (CV.out).mono ?_
      rintro e w5 ⟨rfl, hb5⟩
      have s5 := hb5.size
      have HG5 := Lib.hid ((HG3.out.drewN n).below hb5 hs3)
      have HD5 := Lib.hid ((HD3.out.drewN n).below hb5 hs3)
      have HQ5 := Lib.hid ((HQ3.out.drewN n).below hb5 hs23)
      have HB5 := Lib.hid ((HB3.out.drewN n).trans (hb5.mono (Nat.le_trans s1 hs3)))
      have hs5 : w1.heap.size ≤ w5.heap.size := Nat.le_trans hs3 s5
      clear hb5 CV HG3 HD3 HQ3 HB3
      have hsA : w1.heap.size ≤ (w5).heap.size := hs5
      go_wp2_with fail
      refine (CS.out (w5) HG5.out HD5.out hsA).mono ?_
      rintro e wA hrA
      obtain ⟨AA, cA, rfl, qA, hbA, _, _⟩ := hrA.ri
      have sA := hbA.size
      have CB := Lib.hid (equalInts_same A2 c2 AA cA L _ _ _ _ wA (HQ5.out.below hbA (by first | exact hsA | omega)) qA (by omega))
      have HBA := Lib.hid (HB5.out.trans (hbA.mono (Nat.le_trans s1 hsA)))
      clear hrA qA hbA
      go_wp2_with fail
      refine (CB.out).mono ?_
      rintro e wB ⟨rfl, nB, rfl⟩
      go_wp2
      go_ret
      exact ⟨rfl, HBA.out.drewN _⟩
    · rw [hval] at cv
      have CV := Lib.hid cv
      have hd0 : Bs.inG g d = true ∨ L = [] := by
        cases hin : Bs.inG g d
        · right
          rw [HL.out]
          exact Bs.staleL_no (by unfold Bs.staOk; rw [hin, hval]; rfl)
        · exact .inl rfl
      have hagain : Bs.staleL g L = L := by
        rcases hd0 with h | h
        · have hok := Bs.staOk_iff.2 ⟨hval, h⟩
          rw [sta_is HL.out hok]
          exact Bs.sta_idem hok
        · rw [h]; exact Bs.sta_none
      have hg4 := HG3.out.drewN n
      have hq4 := HQ3.out.drewN n
      have hb4 := HB3.out.drewN n
      generalize W3.drewN n = W4 at *
      have c5 := fun W (hb : Below W4.heap.size W4 W) => StaleTasks_any A1 c1 g A2 c2 L w.heap.size w1.heap.size w1.heap.size w2.heap.size W (hg4.below hb hs3) (Nat.le_trans hs3 hb.size) (hq4.below hb hs23) (Nat.le_trans hs23 hb.size) hl9 (by omega)
      rw [hagain] at c5
      have C5 := Lib.hid c5
      have c6 := fun W (hb : Below W4.heap.size W4 W) => show Calls Try.prog 16 #[.slice A1 g.length c1, .slice none 0 0] W (RetI W (Bs.staleL g [])) from StaleTasks_any A1 c1 g none 0 [] w.heap.size w1.heap.size 0 0 W (hg4.below hb hs3) (Nat.le_trans hs3 hb.size) RI.nil (Nat.zero_le _) hl9 (by simp)
      rw [Bs.sta_none] at c6
      have C6 := Lib.hid c6
      have HQ4 := Lib.hid (fun W (hb : Below W4.heap.size W4 W) => hq4.below hb hs23)
      have HB4 := Lib.hid hb4
      have s4 := hb4.size
      clear HL cv hval hd0 hagain hg4 hq4 hb4 c5 c6 CS HG3 HD3 HQ3 HB3
      go_wp2_with fail
      with_reducible refine (CV.out).mono ?_
      rintro e w5 ⟨rfl, hb5⟩
      have s5 := hb5.size
      have C7 := Lib.hid (C5.out w5 hb5)
      have HX5 := Lib.hid hb5
      clear hb5 CV C5
      go_wp2_with fail
      with_reducible refine (C7.out).mono ?_
      rintro e w6 ⟨⟨A6, c6, rfl, ho6⟩, hb6⟩
      have s6 := hb6.size
      have HX6 := Lib.hid (HX5.out.trans (hb6.mono s5))
      have C8 := Lib.hid (equalInts_same A6 c6 A2 c2 L _ _ _ _ w6 ho6.ri (HQ4.out w6 HX6.out) (by omega))
      clear ho6 hb6 C7
      go_wp2_with fail
      with_reducible refine (C8.out).mono ?_
      rintro e w7 ⟨rfl, m, rfl⟩
      have C9 := Lib.hid (C6.out (w6.drewN m) (HX6.out.drewN m))
      have HX7 := Lib.hid (HX6.out.drewN m)
      have s7 := HX7.out.size
      clear C8 C6
      go_wp2_with fail
      with_reducible refine (C9.out).mono ?_
      rintro e w8 ⟨⟨A8, c8, rfl, ho8⟩, hb8⟩
      have HB8 := Lib.hid (HB4.out.trans ((HX7.out.trans (hb8.mono s7)).mono s4))
      clear ho8 hb8
      go_wp2
      go_ret
      exact ⟨rfl, HB8.out⟩
end Go.Proofs.Ytggekdohcancbaa
