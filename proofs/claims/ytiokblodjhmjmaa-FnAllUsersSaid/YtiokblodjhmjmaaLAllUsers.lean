/-
  THE WALK OF laws.FnAllUsers.
-/
import Derived.Test.YtiokblodjhmjmaaDA
import Derived.Test.YtiokblodjhmjmaaL1
import Derived.Test.YtiokblodjhmjmaaLen2
import Derived.Test.YtiokblodjhmjmaaMath9
namespace Go.Proofs.Ytiokblodjhmjmaa
open Go.RowKit
set_option maxRecDepth 20000 in
set_option maxHeartbeats 6400000 in
theorem fnAllUsers_walk (A : Option Addr) (c : Nat) (l : List Int) (w : World) (hb : RB w 0 w.heap.size A l) (hlc : l.length ≤ c ∧ c ≤ maxLen) :
    Calls Try.prog 9 #[.slice A l.length c] w fun e w' => e = .returned (.bool true) ∧ Below w.heap.size w w' := by
  have hl63 : l.length ≤ 9223372036854775807 := by have := hlc.2; unfold maxLen at this; omega
  by_cases hbig : 1048576 < l.length
  · go_enter Try.func9, Try.ntmps9
    go_wp2
    go_ret
    exact ⟨rfl, Below.refl _ _⟩
  · have C1 := Lib.hid (DrawAllUsers_any A c l w hb hlc.1 hlc.2)
    clear hb
    go_enter Try.func9, Try.ntmps9
    go_wp2_with fail
    refine (C1.out).mono ?_
    rintro e w1 ⟨⟨A1, c1, g, z, rfl, hg, hg16, hgc, hcm⟩, hb1⟩
    have HG := Lib.hid hg
    have s1 := hb1.size
    have hl9 : g.length ≤ 9223372036854775807 := by omega
    obtain ⟨L, hL⟩ : ∃ L, L = Bs.usersA g z := ⟨_, rfl⟩
    have c2 := AllUsers_any A1 c1 g z w.heap.size w1.heap.size w1 HG.out (Nat.le_refl _) hl9
    have hlen := AllUsers_len g z
    rw [← hL] at c2 hlen
    have C2 := Lib.hid c2
    have CS := Lib.hid (fun w2 hg hs => AllUsersS_any A1 c1 g z w.heap.size w1.heap.size w2 hg hs hl9)
    rw [← hL] at CS
    have HL := Lib.hid hL
    have HB1 := Lib.hid hb1
    clear C1 hg hL c2 hb1
    go_wp2_with fail
    refine (C2.out).mono ?_
    rintro e w2 hr2
    obtain ⟨A2, c2, rfl, q2, hb2, hlc2, hcm2⟩ := hr2.ri
    have g2 := HG.out.below hb2 (Nat.le_refl _)
    have s2 := hb2.size
    have C3 := Lib.hid (CS.out w2 g2 s2)
    have HQ2 := Lib.hid q2
    have HG2 := Lib.hid g2
    have HB2 := Lib.hid (HB1.out.trans (hb2.mono s1))
    clear hr2 q2 g2 hb2 C2 HG HB1
    go_wp2_with fail
    refine (C3.out).mono ?_
    rintro e w3 hr3
    obtain ⟨A3, c3, rfl, q3, hb3, hlc3, hcm3⟩ := hr3.ri
    have s3 := hb3.size
    have C4 := Lib.hid (equalInts_same A2 c2 A3 c3 L _ _ _ _ w3 (HQ2.out.below hb3 (Nat.le_refl _)) q3 (by omega))
    have HG3 := Lib.hid (HG2.out.below hb3 s2)
    have HQ3 := Lib.hid (HQ2.out.below hb3 (Nat.le_refl _))
    have HB3 := Lib.hid (HB2.out.trans (hb3.mono (Nat.le_trans s1 s2)))
    clear hr3 q3 hb3 C3 HQ2 HB2 HG2
    go_wp2_with fail
    refine (C4.out).mono ?_
    rintro e w4 ⟨rfl, n, rfl⟩
    clear C4
    obtain ⟨W3, rfl⟩ : ∃ W3, W3 = w3 := ⟨_, rfl⟩
    have hs3 : w1.heap.size ≤ (W3.drewN n).heap.size := Nat.le_trans s2 s3
    have C5 := ValidGraph_any A1 c1 g w.heap.size w1.heap.size (W3.drewN n) (HG3.out.drewN n) hs3 hl9
    obtain ⟨hv, hhv⟩ : ∃ hv, hv = Bs.valid g := ⟨_, rfl⟩
    rw [← hhv] at C5
    have HHV := Lib.hid hhv
    have C5 := Lib.hid C5
    clear hhv
    go_wp2_with fail
    refine (C5.out).mono ?_
    rintro e w5 ⟨rfl, hb5⟩
    have s5 := hb5.size
    have HG5 := Lib.hid ((HG3.out.drewN n).below hb5 hs3)
    have HQ5 := Lib.hid ((HQ3.out.drewN n).below hb5 s3)
    have HB5 := Lib.hid (((HB3.out.drewN n).trans (hb5.mono (Nat.le_trans (Nat.le_trans s1 s2) s3))))
    clear hb5 C5 HG3 HQ3 HB3
    obtain ⟨W5, rfl⟩ : ∃ W5, W5 = w5 := ⟨_, rfl⟩
    have hs5 : w1.heap.size ≤ W5.heap.size := Nat.le_trans hs3 s5
    have hs25 : w2.heap.size ≤ W5.heap.size := Nat.le_trans s3 s5
    cases hv
    · clear HHV HL
      have hsA : w1.heap.size ≤ (W5).heap.size := hs5
      go_wp2_with fail
      refine (CS.out (W5) HG5.out hsA).mono ?_
      rintro e wA hrA
      obtain ⟨AA, cA, rfl, qA, hbA, _, _⟩ := hrA.ri
      have sA := hbA.size
      have CB := Lib.hid (equalInts_same A2 c2 AA cA L _ _ _ _ wA (HQ5.out.below hbA (by first | exact hsA | omega)) qA (by omega))
      have HBA := Lib.hid (HB5.out.trans (hbA.mono (Nat.le_trans s1 hsA)))
      clear hrA qA hbA
      go_wp2_with fail
      refine (CB.out).mono ?_
      rintro e wB ⟨rfl, nB, rfl⟩
      go_wp2
      go_ret
      exact ⟨rfl, HBA.out.drewN _⟩
    · by_cases hz0 : z < 0
      · have d0 : decide (z < 0) = true := by simpa using hz0
        clear hz0 HHV HL
        have hsA : w1.heap.size ≤ (W5).heap.size := hs5
        go_wp2_with fail
        refine (CS.out (W5) HG5.out hsA).mono ?_
        rintro e wA hrA
        obtain ⟨AA, cA, rfl, qA, hbA, _, _⟩ := hrA.ri
        have sA := hbA.size
        have CB := Lib.hid (equalInts_same A2 c2 AA cA L _ _ _ _ wA (HQ5.out.below hbA (by first | exact hsA | omega)) qA (by omega))
        have HBA := Lib.hid (HB5.out.trans (hbA.mono (Nat.le_trans s1 hsA)))
        clear hrA qA hbA
        go_wp2_with fail
        refine (CB.out).mono ?_
        rintro e wB ⟨rfl, nB, rfl⟩
        go_wp2
        go_ret
        exact ⟨rfl, HBA.out.drewN _⟩
      · by_cases hz1 : (g.length : Int) ≤ z
        · have d0 : decide (z < 0) = false := by simpa using hz0
          have d1 : decide ((g.length : Int) ≤ z) = true := by simpa using hz1
          clear hz0 hz1 HHV HL
          have hsA : w1.heap.size ≤ (W5).heap.size := hs5
          go_wp2_with fail
          refine (CS.out (W5) HG5.out hsA).mono ?_
          rintro e wA hrA
          obtain ⟨AA, cA, rfl, qA, hbA, _, _⟩ := hrA.ri
          have sA := hbA.size
          have CB := Lib.hid (equalInts_same A2 c2 AA cA L _ _ _ _ wA (HQ5.out.below hbA (by first | exact hsA | omega)) qA (by omega))
          have HBA := Lib.hid (HB5.out.trans (hbA.mono (Nat.le_trans s1 hsA)))
          clear hrA qA hbA
          go_wp2_with fail
          refine (CB.out).mono ?_
          rintro e wB ⟨rfl, nB, rfl⟩
          go_wp2
          go_ret
          exact ⟨rfl, HBA.out.drewN _⟩
        · obtain ⟨v, rfl⟩ : ∃ v : Nat, z = (v : Int) := ⟨z.toNat, by omega⟩
          have hv : v < g.length := by omega
          have d0 : decide ((v : Int) < 0) = false := by simp
          have d1 : decide ((g.length : Int) ≤ (v : Int)) = false := by simp; omega
          have d1' : decide (g.length ≤ v) = false := by simp; omega
          have d2 : (0 : Int) ≤ (v : Int) := by omega
          have d3 : (v : Int) < (g.length : Int) := by omega
          clear hz0 hz1 CS
          obtain ⟨hself, hall⟩ := Bs.users_law HL.out HHV.out.symm hv
          have HS := Lib.hid hself
          have HA := Lib.hid hall
          have CN := Lib.hid (fun x W hg hs => AllNeeds_any A1 c1 g x w.heap.size w1.heap.size W hg hs hl9)
          have CL := Lib.hid (AllNeeds_len g)
          clear hself hall HL HHV
          go_wp2
          go_loopw [6] (fun i wr => ∃ k : Nat, i = .int .i64 (k : Int) ∧ Below W5.heap.size W5 wr) (fun i _ => g.length + 1 - (intOf i).toNat)
          case atStart => exact ⟨0, rfl, Below.refl _ _⟩
          case round =>
            obtain ⟨i, rfl, hbr⟩ := hrel
            have sr := hbr.size
            have HBR := Lib.hid hbr
            have HGr := Lib.hid (HG5.out.below hbr hs5)
            have HQr := Lib.hid (HQ5.out.below hbr hs25)
            clear hbr
            by_cases hi : i < g.length
            · have hx := HA.out i hi
              have d4 : (i : Int) < (g.length : Int) := by omega
              have C6 := lisIn_any A2 c2 L (i : Int) _ _ wr HQr.out (by omega)
              rw [hx] at C6
              obtain ⟨P, hP⟩ : ∃ P, P = Bs.needsA g (i : Int) := ⟨_, rfl⟩
              have c7 := CN.out (i : Int) wr HGr.out (Nat.le_trans hs5 sr)
              have hpl := CL.out (i : Int)
              rw [← hP] at c7 hpl C6
              clear hx hP
              obtain ⟨hc, hhc⟩ : ∃ hc, hc = P.contains (v : Int) := ⟨_, rfl⟩
              rw [← hhc] at C6
              have HHC := Lib.hid hhc
              clear hhc
              have C6 := Lib.hid C6
              have C7 := Lib.hid c7
              clear c7
              go_wp2_with fail
              refine (C6.out).mono ?_
              rintro e w6 ⟨rfl, rfl⟩
              go_wp2_with fail
              refine (C7.out).mono ?_
              rintro e w7 hr7
              obtain ⟨A7, c7, rfl, q7, hb7, _, _⟩ := hr7.ri
              have c8 := lisIn_any A7 c7 P (v : Int) _ _ w7 q7 (by omega)
              have HB7 := Lib.hid (HBR.out.trans (hb7.mono sr))
              rw [← HHC.out] at c8
              have C8 := Lib.hid c8
              clear hr7 q7 hb7 c8 C7
              cases hc
              · go_wp2_with fail
                refine (C8.out).mono ?_
                rintro e w8 ⟨rfl, rfl⟩
                go_wp2
                go_roundw
                case rel => exact ⟨i + 1, by go_num, HB7.out⟩
                case measure => simp [intOf]; omega
              · go_wp2_with fail
                refine (C8.out).mono ?_
                rintro e w8 ⟨rfl, rfl⟩
                go_wp2
                go_roundw
                case rel => exact ⟨i + 1, by go_num, HB7.out⟩
                case measure => simp [intOf]; omega
            · have C9 := lisIn_any A2 c2 L (v : Int) _ _ wr HQr.out (by omega)
              rw [HS.out] at C9
              have C9 := Lib.hid C9
              go_wp2_with fail
              refine (C9.out).mono ?_
              rintro e w9 ⟨rfl, rfl⟩
              go_wp2
              go_ret
              exact ⟨rfl, HB5.out.trans (HBR.out.mono (Nat.le_trans s1 hs5))⟩
end Go.Proofs.Ytiokblodjhmjmaa
