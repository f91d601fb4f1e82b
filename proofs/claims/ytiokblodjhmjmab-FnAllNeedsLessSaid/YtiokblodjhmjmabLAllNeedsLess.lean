/-
  THE WALK OF laws.FnAllNeedsLess.
-/
import Derived.Test.YtiokblodjhmjmabDA
import Derived.Test.YtiokblodjhmjmabL1
import Derived.Test.YtiokblodjhmjmabLen2
import Derived.Test.YtiokblodjhmjmabMath11
namespace Go.Proofs.Ytiokblodjhmjmab
open Go.RowKit
set_option maxRecDepth 20000 in
set_option maxHeartbeats 6400000 in
theorem fnAllNeedsLess_walk (A : Option Addr) (c : Nat) (l : List Int) (w : World) (hb : RB w 0 w.heap.size A l) (hlc : l.length ≤ c ∧ c ≤ maxLen) :
    Calls Try.prog 10 #[.slice A l.length c] w fun e w' => e = .returned (.bool true) ∧ Below w.heap.size w w' := by
  have hl63 : l.length ≤ 9223372036854775807 := by have := hlc.2; unfold maxLen at this; omega
  by_cases hbig : 1048576 < l.length
  · go_enter Try.func10, Try.ntmps10
    go_wp2
    go_ret
    exact ⟨rfl, Below.refl _ _⟩
  · have C1 := Lib.hid (DrawAllNeeds_any A c l w hb hlc.1 hlc.2)
    clear hb
    go_enter Try.func10, Try.ntmps10
    go_wp2_with fail
    refine (C1.out).mono ?_
    rintro e w1 ⟨⟨A1, c1, g, z, rfl, hg, hg16, hgc, hcm⟩, hb1⟩
    have HG := Lib.hid hg
    have s1 := hb1.size
    have hl9 : g.length ≤ 9223372036854775807 := by omega
    obtain ⟨L, hL⟩ : ∃ L, L = Bs.needsA g z := ⟨_, rfl⟩
    have c2 := AllNeeds_any A1 c1 g z w.heap.size w1.heap.size w1 HG.out (Nat.le_refl _) hl9
    have hlen := AllNeeds_len g z
    rw [← hL] at c2 hlen
    have C2 := Lib.hid c2
    have CS := Lib.hid (fun w2 hg hs => AllNeedsS_any A1 c1 g z w.heap.size w1.heap.size w2 hg hs hl9)
    rw [← hL] at CS
    have HL := Lib.hid hL
    have HB1 := Lib.hid hb1
    clear C1 hg hL c2 hb1
    go_wp2_with fail
    refine (C2.out).mono ?_
    rintro e w2 hr2
    obtain ⟨A2, c2, rfl, q2, hb2, hlc2, hcm2⟩ := hr2.ri
    have g2 := HG.out.below hb2 (Nat.le_refl _)
    have s2 := hb2.size
    have C3 := Lib.hid (CS.out w2 g2 s2)
    have HQ2 := Lib.hid q2
    have HG2 := Lib.hid g2
    have HB2 := Lib.hid (HB1.out.trans (hb2.mono s1))
    clear hr2 q2 g2 hb2 C2 HG HB1
    go_wp2_with fail
    refine (C3.out).mono ?_
    rintro e w3 hr3
    obtain ⟨A3, c3, rfl, q3, hb3, hlc3, hcm3⟩ := hr3.ri
    have s3 := hb3.size
    have C4 := Lib.hid (equalInts_same A2 c2 A3 c3 L _ _ _ _ w3 (HQ2.out.below hb3 (Nat.le_refl _)) q3 (by omega))
    have HG3 := Lib.hid (HG2.out.below hb3 s2)
    have HQ3 := Lib.hid (HQ2.out.below hb3 (Nat.le_refl _))
    have HB3 := Lib.hid (HB2.out.trans (hb3.mono (Nat.le_trans s1 s2)))
    clear hr3 q3 hb3 C3 HQ2 HB2 HG2
    go_wp2_with fail
    refine (C4.out).mono ?_
    rintro e w4 ⟨rfl, n, rfl⟩
    clear C4
    obtain ⟨W3, rfl⟩ : ∃ W3, W3 = w3 := ⟨_, rfl⟩
    have HX := Lib.hid (Bs.less_law HL.out)
    have CN := Lib.hid (fun x W hg hs => AllNeeds_any A1 c1 g x w.heap.size w1.heap.size W hg hs hl9)
    have CL := Lib.hid (AllNeeds_len g)
    have hs3 : w1.heap.size ≤ W3.heap.size := Nat.le_trans s2 s3
    clear HL CS
    go_wp2
    go_loopw [6, 7, 8] (fun i _ _ wr => ∃ k : Nat, i = .int .i64 (k : Int) ∧ Below W3.heap.size W3 wr) (fun i _ _ _ => L.length + 1 - (intOf i).toNat)
    case atStart => exact ⟨0, rfl, (Below.refl _ _).drewN n⟩
    case round =>
      obtain ⟨i, rfl, hbr⟩ := hrel
      have sr := hbr.size
      have HBR := Lib.hid hbr
      have HGr := Lib.hid (HG3.out.below hbr hs3)
      have HQr := Lib.hid (HQ3.out.below hbr s3)
      clear hbr
      by_cases hi : i < L.length
      · obtain ⟨b, o, rfl, _, hbo, hc0⟩ := HQr.out i hi
        obtain ⟨x1, x2, x3⟩ := HX.out i hi
        have b0 : (0 : Int) ≤ (i : Int) := by omega
        have b1 : (i : Int) < (L.length : Int) := by omega
        obtain ⟨x, hx⟩ : ∃ x, x = L[i] := ⟨_, rfl⟩
        have HXI := Lib.hid hx
        rw [← hx] at hc0 x1 x2 x3
        clear hx
        obtain ⟨P, hP⟩ : ∃ P, P = Bs.needsA g x := ⟨_, rfl⟩
        have c5 := CN.out x wr HGr.out (Nat.le_trans hs3 sr)
        have hpl := CL.out x
        rw [← hP] at c5 hpl x1 x2 x3
        have C5 := Lib.hid c5
        have H2 := Lib.hid x2
        have H3 := Lib.hid x3
        have d1 : decide ((L.length : Int) ≤ (P.length : Int)) = false := by simp; omega
        have d1' : decide (L.length ≤ P.length) = false := by simp; omega
        clear hP c5 x2 x3
        go_wp2_with fail
        refine (C5.out).mono ?_
        rintro e w5 hr5
        obtain ⟨A5, c5, rfl, q5, hb5, hlc5, hcm5⟩ := hr5.ri
        have s5 := hb5.size
        have HP5 := Lib.hid q5
        have HB5 := Lib.hid (HBR.out.trans (hb5.mono sr))
        have HQ5 := Lib.hid (HQr.out.below hb5 (Nat.le_trans s3 sr))
        obtain ⟨b', o', e, _, _, hc5⟩ := HQ5.out i hi
        cases e
        rw [← HXI.out] at hc5
        have c6 := lisIn_any A5 c5 P x _ _ w5 q5 (by omega)
        rw [H2.out] at c6
        have C6 := Lib.hid c6
        clear hr5 q5 hb5 c6 C5
        go_wp2_with fail
        refine (C6.out).mono ?_
        rintro e w6 ⟨rfl, rfl⟩
        obtain ⟨W6, rfl⟩ : ∃ W6, W6 = w5 := ⟨_, rfl⟩
        go_wp2
        go_loopw [8] (fun j wr => ∃ k : Nat, j = .int .i64 (k : Int) ∧ wr = W6) (fun j _ => P.length + 1 - (intOf j).toNat)
        case atStart => exact ⟨0, rfl, rfl⟩
        case round =>
          obtain ⟨j, rfl, rfl⟩ := hrel
          by_cases hj : j < P.length
          · obtain ⟨bn, on, rfl, _, _, hcn⟩ := HP5.out j hj
            have hy := H3.out P[j] (List.getElem_mem hj)
            have e0 : (0 : Int) ≤ (j : Int) := by omega
            have e1 : (j : Int) < (P.length : Int) := by omega
            generalize P[j] = y at *
            have c7 := lisIn_any (some ⟨b, o, none⟩) c2 L y _ _ wr HQ5.out (by omega)
            rw [hy] at c7
            have C7 := Lib.hid c7
            clear hy c7
            go_wp2_with fail
            refine (C7.out).mono ?_
            rintro e w7 ⟨rfl, rfl⟩
            go_wp2
            go_roundw
            case rel => exact ⟨j + 1, by go_num, by first | rfl | trivial⟩
            case measure => simp [intOf]; omega
          · go_wp2
            go_roundw
            case rel => exact ⟨i + 1, by go_num, HB5.out⟩
            case measure => simp [intOf]; omega
      · go_wp2
        go_ret
        exact ⟨rfl, HB3.out.trans (HBR.out.mono (Nat.le_trans s1 hs3))⟩
end Go.Proofs.Ytiokblodjhmjmab
