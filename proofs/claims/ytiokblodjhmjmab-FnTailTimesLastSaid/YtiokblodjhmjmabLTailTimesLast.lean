/-
  THE WALK OF laws.FnTailTimesLast.
-/
import Derived.Test.YtiokblodjhmjmabDrTailTimes
import Derived.Test.YtiokblodjhmjmabL1
import Derived.Test.YtiokblodjhmjmabW13
import Derived.Test.YtiokblodjhmjmabMath11
namespace Go.Proofs.Ytiokblodjhmjmab
open Go.RowKit
set_option maxRecDepth 20000 in
set_option maxHeartbeats 6400000 in
theorem fnTailTimesLast_walk (A : Option Addr) (c : Nat) (l : List Int) (w : World) (hb : RB w 0 w.heap.size A l) (hlc : l.length ≤ c ∧ c ≤ maxLen) :
    Calls Try.prog 12 #[.slice A l.length c] w fun e w' => e = .returned (.bool true) ∧ Below w.heap.size w w' := by
  have hl63 : l.length ≤ 9223372036854775807 := by have := hlc.2; unfold maxLen at this; omega
  by_cases hbig : 1048576 < l.length
  · go_enter Try.func12, Try.ntmps12
    go_wp2
    go_ret
    exact ⟨rfl, Below.refl _ _⟩
  · have C1 := Lib.hid (DrawTailTimes_any A c l w hb hlc.1 hlc.2)
    clear hb
    go_enter Try.func12, Try.ntmps12
    go_wp2_with fail
    refine (C1.out).mono ?_
    rintro e w1 ⟨⟨A1, c1, g, rfl, hg, hg16, hgc, hcm⟩, hb1⟩
    have HG := Lib.hid hg
    have s1 := hb1.size
    have hl9 : g.length ≤ 9223372036854775807 := by omega
    obtain ⟨L, hL⟩ : ∃ L, L = if Bs.valid g then Bs.tailsC g else [] := ⟨_, rfl⟩
    have c2 := TailTimes_any A1 c1 g w.heap.size w1.heap.size w1 HG.out (Nat.le_refl _) hl9
    have hlen := TailTimes_len g
    rw [← hL] at c2 hlen
    have C2 := Lib.hid c2
    have CS := Lib.hid (fun w2 hg hs => TailTimesS_any A1 c1 g w.heap.size w1.heap.size w2 hg hs hl9)
    rw [← hL] at CS
    have HL := Lib.hid hL
    clear C1 hg hL c2
    go_wp2_with fail
    refine (C2.out).mono ?_
    rintro e w2 hr2
    obtain ⟨A2, c2, rfl, q2, hb2, hlc2, hcm2⟩ := hr2.ri
    have g2 := HG.out.below hb2 (Nat.le_refl _)
    have s2 := hb2.size
    have C3 := Lib.hid (CS.out w2 g2 s2)
    have HQ2 := Lib.hid q2
    have HG2 := Lib.hid g2
    have HB2 := Lib.hid (hb1.trans (hb2.mono s1))
    clear hr2 q2 g2 hb2 C2
    go_wp2_with fail
    refine (C3.out).mono ?_
    rintro e w3 hr3
    obtain ⟨A3, c3, rfl, q3, hb3, hlc3, hcm3⟩ := hr3.ri
    have s3 := hb3.size
    have C4 := Lib.hid (equalInts_same A2 c2 A3 c3 L _ _ _ _ w3 (HQ2.out.below hb3 (Nat.le_refl _)) q3 (by omega))
    have HG3 := Lib.hid (HG2.out.below hb3 s2)
    have HQ3 := Lib.hid (HQ2.out.below hb3 (Nat.le_refl _))
    have HB3 := Lib.hid (HB2.out.trans (hb3.mono (Nat.le_trans s1 s2)))
    clear hr3 q3 hb3 C3 HQ2 HB2 HG2
    go_wp2_with fail
    refine (C4.out).mono ?_
    rintro e w4 ⟨rfl, n, rfl⟩
    clear C4
    obtain ⟨W3, rfl⟩ : ∃ W3, W3 = w3 := ⟨_, rfl⟩
    by_cases hlen : L.length = g.length
    · have hne : ((L.length : Int) != (g.length : Int)) = false := by simp [hlen]
      have HX := Lib.hid (Bs.last_law HL.out hlen)
      have hll := Nat.le_of_eq hlen.symm
      have CU := Lib.hid (fun x W hg hs => AllUsers_any A1 c1 g x w.heap.size w1.heap.size W hg hs hl9)
      clear hlen HL CS
      have hs3 : w1.heap.size ≤ W3.heap.size := Nat.le_trans s2 s3
      go_wp2
      go_loopw [5] (fun i wr => ∃ k : Nat, i = .int .i64 (k : Int) ∧ Below W3.heap.size W3 wr) (fun i _ => g.length + 1 - (intOf i).toNat)
      case atStart => exact ⟨0, rfl, (Below.refl _ _).drewN n⟩
      case round =>
        obtain ⟨i, rfl, hbr⟩ := hrel
        have sr := hbr.size
        have HBR := Lib.hid hbr
        have HGr := Lib.hid (HG3.out.below hbr hs3)
        have HQr := Lib.hid (HQ3.out.below hbr s3)
        clear hbr
        by_cases hi : i < g.length
        · have hiL : i < L.length := by omega
          obtain ⟨b, o, rfl, _, hbo, hc0⟩ := HQr.out i hiL
          obtain ⟨b1, o1, N, cN, rfl, _, hbg, k0, k1, k2, k3, hnc, hcN, hN⟩ := HGr.out i hi
          have hx := HX.out i hi hiL
          have d0 : (0 : Int) ≤ (i : Int) := by omega
          have d1 : (i : Int) < (L.length : Int) := by omega
          have d2 : (i : Int) < (g.length : Int) := by omega
          clear k1 k2 k3 hN
          obtain ⟨WR, rfl⟩ : ∃ WR, WR = wr := ⟨_, rfl⟩
          obtain ⟨P, hP⟩ : ∃ P, P = Bs.usersA g (i : Int) := ⟨_, rfl⟩
          have c5 := fun j => CU.out (i : Int) (WR.drewN j) (HGr.out.drewN j) (Nat.le_trans hs3 sr)
          rw [← hP] at hx c5
          have C5 := fun j => Lib.hid (c5 j)
          clear hP c5
          generalize L[i] = y at *
          generalize g[i].time = tv at *
          have hbo' : b < WR.heap.size := by omega
          have hbg' : b1 < WR.heap.size := by omega
          generalize hq2 : (y == tv) = bu at *
          clear hnc
          cases bu
          all_goals
            go_wp2
            go_region_law (go_simp; go_loud (go_at_call 27; refine ((C5 1).out).mono ?_; rintro e w5 hr5; obtain ⟨A5, c5, rfl, q5, hb5, _, _⟩ := hr5.ri; have e1 := (hb5.cell (p := ⟨b, o + i, none⟩) hbo').trans hc0; have e2 := (hb5.cell (p := ⟨b1, o1 + i * 4, none⟩) hbg').trans k0; have HB5 := Lib.hid (HBR.out.trans (((Below.refl _ _).drewN 1 |>.trans hb5).mono sr)); clear hr5 q5 hb5))
            all_goals
              go_wp2
              go_roundw
              case rel => exact ⟨i + 1, by go_num, HB5.out⟩
              case measure => simp [intOf]; omega
        · go_wp2
          go_ret
          exact ⟨rfl, HB3.out.trans (HBR.out.mono (Nat.le_trans s1 hs3))⟩
    · have hne : ((L.length : Int) != (g.length : Int)) = true := by simp; omega
      clear hlen HL
      have hs3 : w1.heap.size ≤ (W3.drewN n).heap.size := Nat.le_trans s2 s3
      go_wp2_with fail
      refine (CS.out (W3.drewN n) (HG3.out.drewN n) hs3).mono ?_
      rintro e w5 hr5
      obtain ⟨A5, c5, rfl, q5, hb5, _, _⟩ := hr5.ri
      have s5 := hb5.size
      have C6 := Lib.hid (equalInts_same A2 c2 A5 c5 L _ _ _ _ w5 ((HQ3.out.drewN n).below hb5 s3) q5 (by omega))
      have HB5 := Lib.hid (((HB3.out.drewN n).trans (hb5.mono (Nat.le_trans (Nat.le_trans s1 s2) s3))))
      clear hr5 q5 hb5
      go_wp2_with fail
      refine (C6.out).mono ?_
      rintro e w6 ⟨rfl, n6, rfl⟩
      go_wp2
      go_ret
      exact ⟨rfl, HB5.out.drewN _⟩
end Go.Proofs.Ytiokblodjhmjmab
