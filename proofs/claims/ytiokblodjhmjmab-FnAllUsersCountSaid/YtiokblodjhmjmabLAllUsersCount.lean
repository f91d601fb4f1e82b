/-
  THE WALK OF laws.FnAllUsersCount.
-/
import Derived.Test.YtiokblodjhmjmabDA
import Derived.Test.YtiokblodjhmjmabL1
import Derived.Test.YtiokblodjhmjmabLen2
import Derived.Test.YtiokblodjhmjmabMath11
namespace Go.Proofs.Ytiokblodjhmjmab
open Go.RowKit
set_option maxRecDepth 20000 in
set_option maxHeartbeats 6400000 in
theorem fnAllUsersCount_walk (A : Option Addr) (c : Nat) (l : List Int) (w : World) (hb : RB w 0 w.heap.size A l) (hlc : l.length ≤ c ∧ c ≤ maxLen) :
    Calls Try.prog 11 #[.slice A l.length c] w fun e w' => e = .returned (.bool true) ∧ Below w.heap.size w w' := by
  have hl63 : l.length ≤ 9223372036854775807 := by have := hlc.2; unfold maxLen at this; omega
  by_cases hbig : 1048576 < l.length
  · go_enter Try.func11, Try.ntmps11
    go_wp2
    go_ret
    exact ⟨rfl, Below.refl _ _⟩
  · have C1 := Lib.hid (DrawAllUsers_any A c l w hb hlc.1 hlc.2)
    clear hb
    go_enter Try.func11, Try.ntmps11
    go_wp2_with fail
    refine (C1.out).mono ?_
    rintro e w1 ⟨⟨A1, c1, g, z, rfl, hg, hg16, hgc, hcm⟩, hb1⟩
    have HG := Lib.hid hg
    have s1 := hb1.size
    have hl9 : g.length ≤ 9223372036854775807 := by omega
    obtain ⟨L, hL⟩ : ∃ L, L = Bs.usersA g z := ⟨_, rfl⟩
    have c2 := AllUsers_any A1 c1 g z w.heap.size w1.heap.size w1 HG.out (Nat.le_refl _) hl9
    have hlen := AllUsers_len g z
    rw [← hL] at c2 hlen
    have C2 := Lib.hid c2
    have CS := Lib.hid (fun w2 hg hs => AllUsersS_any A1 c1 g z w.heap.size w1.heap.size w2 hg hs hl9)
    rw [← hL] at CS
    have HL := Lib.hid hL
    have HB1 := Lib.hid hb1
    clear C1 hg hL c2 hb1
    go_wp2_with fail
    refine (C2.out).mono ?_
    rintro e w2 hr2
    obtain ⟨A2, c2, rfl, q2, hb2, hlc2, hcm2⟩ := hr2.ri
    have g2 := HG.out.below hb2 (Nat.le_refl _)
    have s2 := hb2.size
    have C3 := Lib.hid (CS.out w2 g2 s2)
    have HQ2 := Lib.hid q2
    have HG2 := Lib.hid g2
    have HB2 := Lib.hid (HB1.out.trans (hb2.mono s1))
    clear hr2 q2 g2 hb2 C2 HG HB1
    go_wp2_with fail
    refine (C3.out).mono ?_
    rintro e w3 hr3
    obtain ⟨A3, c3, rfl, q3, hb3, hlc3, hcm3⟩ := hr3.ri
    have s3 := hb3.size
    have C4 := Lib.hid (equalInts_same A2 c2 A3 c3 L _ _ _ _ w3 (HQ2.out.below hb3 (Nat.le_refl _)) q3 (by omega))
    have HG3 := Lib.hid (HG2.out.below hb3 s2)
    have HQ3 := Lib.hid (HQ2.out.below hb3 (Nat.le_refl _))
    have HB3 := Lib.hid (HB2.out.trans (hb3.mono (Nat.le_trans s1 s2)))
    clear hr3 q3 hb3 C3 HQ2 HB2 HG2
    go_wp2_with fail
    refine (C4.out).mono ?_
    rintro e w4 ⟨rfl, n, rfl⟩
    clear C4
    obtain ⟨W3, rfl⟩ : ∃ W3, W3 = w3 := ⟨_, rfl⟩
    have hs3 : w1.heap.size ≤ (W3.drewN n).heap.size := Nat.le_trans s2 s3
    have C5 := ValidGraph_any A1 c1 g w.heap.size w1.heap.size (W3.drewN n) (HG3.out.drewN n) hs3 hl9
    obtain ⟨hv, hhv⟩ : ∃ hv, hv = Bs.valid g := ⟨_, rfl⟩
    rw [← hhv] at C5
    have HHV := Lib.hid hhv
    have C5 := Lib.hid C5
    clear hhv
    go_wp2_with fail
    refine (C5.out).mono ?_
    rintro e w5 ⟨rfl, hb5⟩
    have s5 := hb5.size
    have HG5 := Lib.hid ((HG3.out.drewN n).below hb5 hs3)
    have HQ5 := Lib.hid ((HQ3.out.drewN n).below hb5 s3)
    have HB5 := Lib.hid (((HB3.out.drewN n).trans (hb5.mono (Nat.le_trans (Nat.le_trans s1 s2) s3))))
    clear hb5 C5 HG3 HQ3 HB3
    obtain ⟨W5, rfl⟩ : ∃ W5, W5 = w5 := ⟨_, rfl⟩
    have hs5 : w1.heap.size ≤ W5.heap.size := Nat.le_trans hs3 s5
    have hs25 : w2.heap.size ≤ W5.heap.size := Nat.le_trans s3 s5
    cases hv
    · clear HHV HL
      have hsA : w1.heap.size ≤ (W5).heap.size := hs5
      go_wp2_with fail
      refine (CS.out (W5) HG5.out hsA).mono ?_
      rintro e wA hrA
      obtain ⟨AA, cA, rfl, qA, hbA, _, _⟩ := hrA.ri
      have sA := hbA.size
      have CB := Lib.hid (equalInts_same A2 c2 AA cA L _ _ _ _ wA (HQ5.out.below hbA (by first | exact hsA | omega)) qA (by omega))
      have HBA := Lib.hid (HB5.out.trans (hbA.mono (Nat.le_trans s1 hsA)))
      clear hrA qA hbA
      go_wp2_with fail
      refine (CB.out).mono ?_
      rintro e wB ⟨rfl, nB, rfl⟩
      go_wp2
      go_ret
      exact ⟨rfl, HBA.out.drewN _⟩
    · have HCO := Lib.hid (Bs.count_law HHV.out.symm)
      have CN := Lib.hid (fun x W hg hs => AllNeeds_any A1 c1 g x w.heap.size w1.heap.size W hg hs hl9)
      have CU := Lib.hid (fun x W hg hs => AllUsers_any A1 c1 g x w.heap.size w1.heap.size W hg hs hl9)
      have CL := Lib.hid (AllNeeds_len g)
      have CM := Lib.hid (AllUsers_len g)
      have HST := Lib.hid (fun k => Bs.sum_range k (fun i : Nat => ((Bs.needsA g (i : Int)).length : Int) - ((Bs.usersA g (i : Int)).length : Int)))
      clear HHV HL CS
      go_wp2
      go_loopw [6, 7] (fun s i wr => ∃ k : Nat, i = .int .i64 (k : Int) ∧ k ≤ g.length ∧ (∃ t : Int, s = .int .i64 t ∧ t = Bs.sumL ((List.range k).map fun i : Nat => ((Bs.needsA g (i : Int)).length : Int) - ((Bs.usersA g (i : Int)).length : Int)) ∧ -(1000 * (k : Int)) ≤ t ∧ t ≤ 1000 * k) ∧ Below W5.heap.size W5 wr) (fun _ i _ => g.length + 1 - (intOf i).toNat)
      case atStart => exact ⟨0, rfl, Nat.zero_le _, ⟨0, rfl, by simp [Bs.sumL], by omega, by omega⟩, Below.refl _ _⟩
      case round =>
        obtain ⟨k, rfl, hk, ⟨t, rfl, ht, ht0, ht1⟩, hbr⟩ := hrel
        have sr := hbr.size
        have HBR := Lib.hid hbr
        have HGr := Lib.hid (HG5.out.below hbr hs5)
        clear hbr
        by_cases hi : k < g.length
        · have hst := HST.out k
          rw [← ht] at hst
          obtain ⟨N, hN⟩ : ∃ N, N = Bs.needsA g (k : Int) := ⟨_, rfl⟩
          obtain ⟨U, hU⟩ : ∃ U, U = Bs.usersA g (k : Int) := ⟨_, rfl⟩
          have c6 := CN.out (k : Int) wr HGr.out (Nat.le_trans hs5 sr)
          have hnl := CL.out (k : Int)
          have hul := CM.out (k : Int)
          have c7 := fun W hg hs => CU.out (k : Int) W hg hs
          rw [← hN] at c6 hnl hst
          rw [← hU] at hul hst c7
          have C6 := Lib.hid c6
          have C7 := Lib.hid c7
          have H1 := Lib.hid hst
          clear hst c6 c7 hN hU ht
          go_wp2_with fail
          refine (C6.out).mono ?_
          rintro e w6 hr6
          obtain ⟨A6, c6, rfl, q6, hb6, _, _⟩ := hr6.ri
          have s6 := hb6.size
          have C7 := Lib.hid (C7.out w6 (HGr.out.below hb6 (Nat.le_trans hs5 sr)) (Nat.le_trans hs5 (Nat.le_trans sr s6)))
          have HB6 := Lib.hid (HBR.out.trans (hb6.mono sr))
          clear hr6 q6 hb6 C6
          have hw : IntKind.i64.wrap (t + (N.length : Int)) = t + (N.length : Int) := IntWalk.i64_in _ ⟨by omega, by omega⟩
          go_wp2_with fail
          refine (C7.out).mono ?_
          rintro e w7 hr7
          obtain ⟨A7, c7, rfl, q7, hb7, _, _⟩ := hr7.ri
          have HB7 := Lib.hid (HB6.out.trans (hb7.mono (Nat.le_trans sr s6)))
          clear hr7 q7 hb7 C7 hw
          have hw : IntKind.i64.wrap (t + (N.length : Int) - (U.length : Int)) = t + (N.length : Int) - (U.length : Int) := IntWalk.i64_in _ ⟨by omega, by omega⟩
          go_wp2
          go_roundw
          case rel => exact ⟨k + 1, by go_num, by omega, ⟨t + (N.length : Int) - (U.length : Int), rfl, by have := H1.out; omega, by omega, by omega⟩, HB7.out⟩
          case measure => simp [intOf]; omega
        · have et : t = 0 := by rw [ht, show k = g.length from by omega]; exact HCO.out
          subst et
          clear ht
          go_wp2
          go_ret
          exact ⟨rfl, HB5.out.trans (HBR.out.mono (Nat.le_trans s1 hs5))⟩
end Go.Proofs.Ytiokblodjhmjmab
