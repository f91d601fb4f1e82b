/-
  THE WALK OF laws.FnMissingKeysNone.
-/
import Derived.Test.YtggekdohcancbaaX13
import Derived.Test.YtggekdohcancbaaMath72
import Derived.Test.YtggekdohcancbaaL1
namespace Go.Proofs.Ytggekdohcancbaa
open Go.RowKit
set_option linter.unusedVariables false
set_option maxRecDepth 20000 in
set_option maxHeartbeats 6400000 in
theorem fnMissingKeysNone_walk (A : Option Addr) (c : Nat) (l : List Int) (w : World) (hb : RB w 0 w.heap.size A l) (hlc : l.length ≤ c ∧ c ≤ maxLen) :
    Calls Try.prog 11 #[.slice A l.length c] w fun e w' => e = .returned (.bool true) ∧ Below w.heap.size w w' := by
  have hl63 : l.length ≤ 9223372036854775807 := by have := hlc.2; unfold maxLen at this; omega
  by_cases hbig : 1048576 < l.length
  · go_enter Try.func11, Try.ntmps11
    go_wp2
    go_ret
    exact ⟨rfl, Below.refl _ _⟩
  · have C1 := Lib.hid (DrawMissingKeys_any A c l w hb hlc.1 hlc.2)
    clear hb
    go_enter Try.func11, Try.ntmps11
    go_wp2_with fail
    refine (C1.out).mono ?_
    rintro e w1 ⟨⟨A1, c1, g, A0, c0, d, Am, cm, m, rfl, hg, hg16, hgc, hcm, hd, hd100, hdc, hdm, hm, hm100, hmc, hmm⟩, hb1⟩
    have HG := Lib.hid hg
    have HD := Lib.hid hd
    have HM := Lib.hid hm
    have s1 := hb1.size
    have hl9 : g.length ≤ 9223372036854775807 := by omega
    have hd9 : d.length ≤ 9223372036854775807 := by omega
    have hm9 : m.length ≤ 9223372036854775807 := by omega
    obtain ⟨L, hL⟩ : ∃ L, L = Bs.missingL g d m := ⟨_, rfl⟩
    obtain ⟨K, hK⟩ : ∃ K, K = Bs.keysL g d := ⟨_, rfl⟩
    have hlen : L.length ≤ 1000 := by rw [hL]; exact missingL_len1000 g d m
    have hklen : K.length ≤ 1000 := by rw [hK]; exact keysL_len1000 g d
    have c2 := MissingKeys_any A1 c1 g A0 c0 d Am cm m w.heap.size w1.heap.size w.heap.size w1.heap.size w.heap.size w1.heap.size w1 HG.out (Nat.le_refl _) HD.out (Nat.le_refl _) HM.out (Nat.le_refl _) hl9 hd9 hm9
    rw [← hL] at c2
    have C2 := Lib.hid c2
    have cs := fun W (hb : Below w1.heap.size w1 W) => MissingKeysS_any A1 c1 g A0 c0 d Am cm m w.heap.size w1.heap.size w.heap.size w1.heap.size w.heap.size w1.heap.size W (HG.out.below hb (Nat.le_refl _)) hb.size (HD.out.below hb (Nat.le_refl _)) hb.size (HM.out.below hb (Nat.le_refl _)) hb.size hl9 hd9 hm9
    rw [← hL] at cs
    have CS := Lib.hid cs
    have ck := fun W (hb : Below w1.heap.size w1 W) => TaskKeys_any A1 c1 g A0 c0 d w.heap.size w1.heap.size w.heap.size w1.heap.size W (HG.out.below hb (Nat.le_refl _)) hb.size (HD.out.below hb (Nat.le_refl _)) hb.size hl9 hd9
    rw [← hK] at ck
    have CK := Lib.hid ck
    have HL := Lib.hid hL
    have HK := Lib.hid hK
    have HB1 := Lib.hid hb1
    clear C1 hg hd hm hL hK c2 cs ck hb1
    go_wp2_with fail
    refine (C2.out).mono ?_
    rintro e w2 ⟨⟨A2, c2, rfl, ho2⟩, hb2⟩
    have s2 := hb2.size
    have HQ2 := Lib.hid ho2.ri
    have HX2 := Lib.hid hb2
    have HB2 := Lib.hid (HB1.out.trans (hb2.mono s1))
    clear ho2 hb2 C2
    have C4 := Lib.hid (CS.out w2 HX2.out)
    go_wp2_with fail
    refine (C4.out).mono ?_
    rintro e w4 ⟨⟨A4, c4, rfl, ho4⟩, hb4⟩
    have s4 := hb4.size
    have HX4 := Lib.hid (HX2.out.trans (hb4.mono s2))
    have HQ4 := Lib.hid (HQ2.out.below hb4 (Nat.le_refl _))
    have HB4 := Lib.hid (HB2.out.trans (hb4.mono HB2.out.size))
    have C5 := Lib.hid (equalInts_same A2 c2 A4 c4 L _ _ _ _ w4 HQ4.out ho4.ri (by omega))
    clear ho4 hb4 C4
    go_wp2_with fail
    refine (C5.out).mono ?_
    rintro e w5 ⟨rfl, n, rfl⟩
    have HX5 := Lib.hid (HX4.out.drewN n)
    have HQ5 := Lib.hid (show RI (w4.drewN n) _ _ A2 L from HQ4.out)
    have HB5 := Lib.hid (HB4.out.drewN n)
    have s5 : w2.heap.size ≤ (w4.drewN n).heap.size := s4
    generalize w4.drewN n = W4 at *
    have C6 := Lib.hid (CK.out W4 HX5.out)
    clear C5 HX4 HQ4 HB4 CK
    go_wp2_with fail
    refine (C6.out).mono ?_
    rintro e w6 ⟨⟨A6, c6, rfl, ho6⟩, hb6⟩
    have HX6 := Lib.hid (HX5.out.trans (hb6.mono HX5.out.size))
    have HQ6 := Lib.hid (HQ5.out.below hb6 s5)
    have HB6 := Lib.hid (HB5.out.trans (hb6.mono HB5.out.size))
    have s6 : w2.heap.size ≤ w6.heap.size := Nat.le_trans s5 hb6.size
    clear ho6 hb6 C6 HX5 HQ5 HB5
    by_cases hk : K.length ≠ g.length
    · have C9 := Lib.hid (CS.out w6 HX6.out)
      have d1 : ((K.length : Int) != (g.length : Int)) = true := by simp; omega
      have d2 : ((K.length : Int) == (g.length : Int)) = false := by rw [beq_eq_false_iff_ne]; omega
      clear hk HL HK CS
      go_wp2_with fail
      refine (C9.out).mono ?_
      rintro e wA ⟨⟨AA, cA, rfl, hoA⟩, hbA⟩
      have CB := Lib.hid (equalInts_same A2 c2 AA cA L _ _ _ _ wA (HQ6.out.below hbA s6) hoA.ri (by omega))
      have HBA := Lib.hid (HB6.out.trans (hbA.mono HB6.out.size))
      clear hoA hbA C9
      go_wp2_with fail
      refine (CB.out).mono ?_
      rintro e wB ⟨rfl, nB, rfl⟩
      go_wp2
      go_ret
      exact ⟨rfl, HBA.out.drewN _⟩
    · have hkg : K.length = g.length := by omega
      have d1 : ((K.length : Int) != (g.length : Int)) = false := by simp; omega
      have d2 : ((K.length : Int) == (g.length : Int)) = true := by simp; omega
      have hnl : (Bs.missingL g d []).length = g.length := by
        cases hok : Bs.inpOk g d
        · rw [Bs.missingL_no (misOk_no1 hok)]
          have := HK.out
          rw [Bs.keysL_no hok] at this
          rw [this] at hkg
          exact hkg
        · exact mis_none hok
      have CV := Lib.hid (ValidGraph_any A1 c1 g w.heap.size w1.heap.size w6 (HG.out.below HX6.out (Nat.le_refl _)) HX6.out.size hl9)
      have CN := Lib.hid (fun W (hb : Below w6.heap.size w6 W) => show Calls Try.prog 27 #[.slice A1 g.length c1, .slice A0 d.length c0, .slice none 0 0] W (RetI W (Bs.missingL g d [])) from MissingKeys_any A1 c1 g A0 c0 d none 0 [] w.heap.size w1.heap.size w.heap.size w1.heap.size 0 0 W (HG.out.below (HX6.out.trans (hb.mono HX6.out.size)) (Nat.le_refl _)) (Nat.le_trans HX6.out.size hb.size) (HD.out.below (HX6.out.trans (hb.mono HX6.out.size)) (Nat.le_refl _)) (Nat.le_trans HX6.out.size hb.size) RI.nil (Nat.zero_le _) hl9 hd9 (by simp))
      have HNL := Lib.hid hnl
      clear hk HL HK CS hnl hkg
      generalize Bs.missingL g d [] = N at *
      generalize Bs.valid g = v at *
      go_wp2_with fail
      with_reducible refine (CV.out).mono ?_
      rintro e w7 ⟨rfl, hb7⟩
      have HX7 := Lib.hid hb7
      have HB7 := Lib.hid (HB6.out.trans (hb7.mono HB6.out.size))
      clear hb7 CV
      cases v
      · go_wp2
        go_ret
        exact ⟨rfl, HB7.out⟩
      · by_cases hdg : d.length = g.length
        · have e1 : ((d.length : Int) != (g.length : Int)) = false := by simp; omega
          have e2 : ((d.length : Int) == (g.length : Int)) = true := by simp; omega
          have C8 := Lib.hid (CN.out w7 HX7.out)
          clear CN hdg
          go_wp2_with fail
          with_reducible refine (C8.out).mono ?_
          rintro e w8 ⟨⟨A8, c8, rfl, ho8⟩, hb8⟩
          have HB8 := Lib.hid (HB7.out.trans (hb8.mono HB7.out.size))
          have e3 : ((N.length : Int) == (g.length : Int)) = true := by have := HNL.out; simp; omega
          clear ho8 hb8
          go_wp2
          go_ret
          exact ⟨by first | rfl | simp [HNL.out], HB8.out⟩
        · have e1 : ((d.length : Int) != (g.length : Int)) = true := by simp; omega
          have e2 : ((d.length : Int) == (g.length : Int)) = false := by rw [beq_eq_false_iff_ne]; omega
          clear CN hdg
          go_wp2
          go_ret
          exact ⟨by first | rfl | simp, HB7.out⟩
end Go.Proofs.Ytggekdohcancbaa
