/-
  THE WALK OF laws.FnMissingKeys.
-/
import Derived.Test.YtggekdohcancbaaX13
import Derived.Test.YtggekdohcancbaaMath72
import Derived.Test.YtggekdohcancbaaL1
namespace Go.Proofs.Ytggekdohcancbaa
open Go.RowKit
set_option linter.unusedVariables false
set_option maxRecDepth 20000 in
set_option maxHeartbeats 6400000 in
theorem fnMissingKeys_walk (A : Option Addr) (c : Nat) (l : List Int) (w : World) (hb : RB w 0 w.heap.size A l) (hlc : l.length ≤ c ∧ c ≤ maxLen) :
    Calls Try.prog 10 #[.slice A l.length c] w fun e w' => e = .returned (.bool true) ∧ Below w.heap.size w w' := by
  have hl63 : l.length ≤ 9223372036854775807 := by have := hlc.2; unfold maxLen at this; omega
  by_cases hbig : 1048576 < l.length
  · go_enter Try.func10, Try.ntmps10
    go_wp2
    go_ret
    exact ⟨rfl, Below.refl _ _⟩
  · have C1 := Lib.hid (DrawMissingKeys_any A c l w hb hlc.1 hlc.2)
    clear hb
    go_enter Try.func10, Try.ntmps10
    go_wp2_with fail
    refine (C1.out).mono ?_
    rintro e w1 ⟨⟨A1, c1, g, A0, c0, d, Am, cm, m, rfl, hg, hg16, hgc, hcm, hd, hd100, hdc, hdm, hm, hm100, hmc, hmm⟩, hb1⟩
    have HG := Lib.hid hg
    have HD := Lib.hid hd
    have HM := Lib.hid hm
    have s1 := hb1.size
    have hl9 : g.length ≤ 9223372036854775807 := by omega
    have hd9 : d.length ≤ 9223372036854775807 := by omega
    have hm9 : m.length ≤ 9223372036854775807 := by omega
    obtain ⟨L, hL⟩ : ∃ L, L = Bs.missingL g d m := ⟨_, rfl⟩
    obtain ⟨K, hK⟩ : ∃ K, K = Bs.keysL g d := ⟨_, rfl⟩
    have hlen : L.length ≤ 1000 := by rw [hL]; exact missingL_len1000 g d m
    have hklen : K.length ≤ 1000 := by rw [hK]; exact keysL_len1000 g d
    have c2 := MissingKeys_any A1 c1 g A0 c0 d Am cm m w.heap.size w1.heap.size w.heap.size w1.heap.size w.heap.size w1.heap.size w1 HG.out (Nat.le_refl _) HD.out (Nat.le_refl _) HM.out (Nat.le_refl _) hl9 hd9 hm9
    rw [← hL] at c2
    have C2 := Lib.hid c2
    have cs := fun W (hb : Below w1.heap.size w1 W) => MissingKeysS_any A1 c1 g A0 c0 d Am cm m w.heap.size w1.heap.size w.heap.size w1.heap.size w.heap.size w1.heap.size W (HG.out.below hb (Nat.le_refl _)) hb.size (HD.out.below hb (Nat.le_refl _)) hb.size (HM.out.below hb (Nat.le_refl _)) hb.size hl9 hd9 hm9
    rw [← hL] at cs
    have CS := Lib.hid cs
    have ck := fun W (hb : Below w1.heap.size w1 W) => TaskKeys_any A1 c1 g A0 c0 d w.heap.size w1.heap.size w.heap.size w1.heap.size W (HG.out.below hb (Nat.le_refl _)) hb.size (HD.out.below hb (Nat.le_refl _)) hb.size hl9 hd9
    rw [← hK] at ck
    have CK := Lib.hid ck
    have HL := Lib.hid hL
    have HK := Lib.hid hK
    have HB1 := Lib.hid hb1
    clear C1 hg hd hm hL hK c2 cs ck hb1
    go_wp2_with fail
    refine (C2.out).mono ?_
    rintro e w2 ⟨⟨A2, c2, rfl, ho2⟩, hb2⟩
    have s2 := hb2.size
    have HQ2 := Lib.hid ho2.ri
    have HX2 := Lib.hid hb2
    have HB2 := Lib.hid (HB1.out.trans (hb2.mono s1))
    clear ho2 hb2 C2
    have C3 := Lib.hid (CK.out w2 HX2.out)
    go_wp2_with fail
    refine (C3.out).mono ?_
    rintro e w3 ⟨⟨A3, c3, rfl, ho3⟩, hb3⟩
    have s3 := hb3.size
    have HK3 := Lib.hid ho3.ri
    have HX3 := Lib.hid (HX2.out.trans (hb3.mono s2))
    have HQ3 := Lib.hid (HQ2.out.below hb3 (Nat.le_refl _))
    have HB3 := Lib.hid (HB2.out.trans (hb3.mono HB2.out.size))
    have C4 := Lib.hid (CS.out w3 HX3.out)
    clear ho3 hb3 C3
    go_wp2_with fail
    refine (C4.out).mono ?_
    rintro e w4 ⟨⟨A4, c4, rfl, ho4⟩, hb4⟩
    have s4 := hb4.size
    have HX4 := Lib.hid (HX3.out.trans (hb4.mono HX3.out.size))
    have HQ4 := Lib.hid (HQ3.out.below hb4 s3)
    have HK4 := Lib.hid (HK3.out.below hb4 (Nat.le_refl _))
    have HB4 := Lib.hid (HB3.out.trans (hb4.mono HB3.out.size))
    have C5 := Lib.hid (equalInts_same A2 c2 A4 c4 L _ _ _ _ w4 HQ4.out ho4.ri (by omega))
    clear ho4 hb4 C4 HQ3 HK3 HX3 HB3
    go_wp2_with fail
    refine (C5.out).mono ?_
    rintro e w5 ⟨rfl, n, rfl⟩
    have HX5 := Lib.hid (HX4.out.drewN n)
    have HQ5 := Lib.hid (show RI (w4.drewN n) _ _ A2 L from HQ4.out)
    have HK5 := Lib.hid (show RI (w4.drewN n) _ _ A3 K from HK4.out)
    have HB5 := Lib.hid (HB4.out.drewN n)
    have s5 : w2.heap.size ≤ (w4.drewN n).heap.size := Nat.le_trans s3 s4
    have s35 : w3.heap.size ≤ (w4.drewN n).heap.size := s4
    generalize w4.drewN n = W4 at *
    clear C5 HX4 HQ4 HK4 HB4
    by_cases hbad : K.length ≠ g.length ∨ 20 < m.length
    · have C9 := Lib.hid (CS.out W4 HX5.out)
      by_cases hk : K.length ≠ g.length
      · have d1 : ((K.length : Int) != (g.length : Int)) = true := by simp; omega
        have d2 : ((K.length : Int) == (g.length : Int)) = false := by rw [beq_eq_false_iff_ne]; omega
        clear hbad hk HL HK CK
        go_wp2_with fail
        refine (C9.out).mono ?_
        rintro e wA ⟨⟨AA, cA, rfl, hoA⟩, hbA⟩
        have CB := Lib.hid (equalInts_same A2 c2 AA cA L _ _ _ _ wA (HQ5.out.below hbA s5) hoA.ri (by omega))
        have HBA := Lib.hid (HB5.out.trans (hbA.mono HB5.out.size))
        clear hoA hbA C9
        go_wp2_with fail
        refine (CB.out).mono ?_
        rintro e wB ⟨rfl, nB, rfl⟩
        go_wp2
        go_ret
        exact ⟨rfl, HBA.out.drewN _⟩
      · have d1 : ((K.length : Int) != (g.length : Int)) = false := by simp; omega
        have d2 : ((K.length : Int) == (g.length : Int)) = true := by simp; omega
        have d3 : (20 : Int) < (m.length : Int) := by omega
        clear hbad hk HL HK CK
        go_wp2_with fail
        refine (C9.out).mono ?_
        rintro e wA ⟨⟨AA, cA, rfl, hoA⟩, hbA⟩
        have CB := Lib.hid (equalInts_same A2 c2 AA cA L _ _ _ _ wA (HQ5.out.below hbA s5) hoA.ri (by omega))
        have HBA := Lib.hid (HB5.out.trans (hbA.mono HB5.out.size))
        clear hoA hbA C9
        go_wp2_with fail
        refine (CB.out).mono ?_
        rintro e wB ⟨rfl, nB, rfl⟩
        go_wp2
        go_ret
        exact ⟨rfl, HBA.out.drewN _⟩
    · have hkg : K.length = g.length := by omega
      have hm20 : m.length ≤ 20 := by omega
      have d1 : ((K.length : Int) != (g.length : Int)) = false := by simp; omega
      have d2 : ((K.length : Int) == (g.length : Int)) = true := by simp; omega
      have d3 : ¬ (20 : Int) < (m.length : Int) := by omega
      have HHAS := Lib.hid (fun k (hk : k < K.length) => show L.contains (k : Int) = !m.contains K[k] from by
        have hok := key_can HK.out (by omega)
        have hKC := key_is HK.out hok
        rw [HL.out, mis_has (Bs.misOk_iff.2 ⟨hok, hm20⟩) (by omega), ← hKC, Bs.gi_at hk])
      have hLK : Bs.missingL g d K = [] := by
        cases hok : Bs.inpOk g d
        · exact Bs.missingL_no (misOk_no1 hok)
        · rw [key_is HK.out hok]; exact mis_all hok
      have c6 := fun W (hb : Below W4.heap.size W4 W) => MissingKeys_any A1 c1 g A0 c0 d A3 c3 K w.heap.size w1.heap.size w.heap.size w1.heap.size w2.heap.size w3.heap.size W (HG.out.below (HX5.out.trans (hb.mono HX5.out.size)) (Nat.le_refl _)) (Nat.le_trans HX5.out.size hb.size) (HD.out.below (HX5.out.trans (hb.mono HX5.out.size)) (Nat.le_refl _)) (Nat.le_trans HX5.out.size hb.size) (HK5.out.below hb s35) (Nat.le_trans s35 hb.size) hl9 hd9 (by omega)
      rw [hLK] at c6
      have C6 := Lib.hid c6
      have HM5 := Lib.hid (HM.out.below HX5.out (Nat.le_refl _))
      clear hbad HL HK CK CS hLK c6 hkg
      go_wp2
      go_loopw [8] (fun i wr => ∃ k : Nat, k ≤ K.length ∧ i = .int .i64 (k : Int) ∧ ∃ q, wr = W4.drewN q) (fun i _ => K.length + 1 - (intOf i).toNat)
      case atStart => exact ⟨0, Nat.zero_le _, rfl, 0, rfl⟩
      case round =>
        obtain ⟨k, hk, rfl, q, rfl⟩ := hrel
        by_cases hlt : k < K.length
        · obtain ⟨bk, ok, rfl, _, _, hck⟩ := HK5.out k hlt
          have hh := HHAS.out k hlt
          have c7 := fun j => lisIn_quiet2 A2 c2 L (k : Int) _ _ W4 HQ5.out (by omega) q j
          have c8 := fun j => lisIn_quiet2 Am cm m K[k] _ _ W4 HM5.out hm9 q j
          rw [hh] at c7
          have C7 := fun j => Lib.hid (c7 j)
          have C8 := fun j => Lib.hid (c8 j)
          have b0 : (0 : Int) ≤ (k : Int) := by omega
          have b1 : (k : Int) < (K.length : Int) := by omega
          clear c7 c8 hh HHAS C6
          generalize K[k] = x at *
          generalize hv : m.contains x = v at *
          have hnv : (!v == v) = false := by cases v <;> rfl
          clear hv
          go_wp2
          go_quiet (first | (go_at_call 19; with_reducible exact (C7 _).out) | (go_at_call 19; with_reducible exact (C8 _).out))
          go_wp2
          go_roundw
          case rel => exact ⟨k + 1, by omega, by go_num, _, by first | rfl | rw [World.drewN_drewN]⟩
          case measure => simp [intOf]; omega
        · have C7 := Lib.hid (C6.out (W4.drewN q) ((Below.refl _ W4).drewN q))
          have HBq := Lib.hid (HB5.out.drewN q)
          clear C6
          go_wp2_with fail
          with_reducible refine (C7.out).mono ?_
          rintro e w8 ⟨⟨A8, c8, rfl, ho8⟩, hb8⟩
          have HB8 := Lib.hid (HBq.out.trans (hb8.mono HBq.out.size))
          clear ho8 hb8
          go_wp2
          go_ret
          exact ⟨by first | rfl | simp, HB8.out⟩
end Go.Proofs.Ytggekdohcancbaa
