/-
  THE WALK OF laws.FnTopOrderFree.
-/
import Derived.Test.YtiokblodjhmjmabDrTopOrder
import Derived.Test.YtiokblodjhmjmabL1
import Derived.Test.YtiokblodjhmjmabLen
import Derived.Test.YtiokblodjhmjmabOT
import Derived.Test.YtiokblodjhmjmabMath11
namespace Go.Proofs.Ytiokblodjhmjmab
open Go.RowKit
set_option maxRecDepth 20000 in
set_option maxHeartbeats 6400000 in
theorem fnTopOrderFree_walk (A : Option Addr) (c : Nat) (l : List Int) (w : World) (hb : RB w 0 w.heap.size A l) (hlc : l.length ≤ c ∧ c ≤ maxLen) :
    Calls Try.prog 8 #[.slice A l.length c] w fun e w' => e = .returned (.bool true) ∧ Below w.heap.size w w' := by
  have hl63 : l.length ≤ 9223372036854775807 := by have := hlc.2; unfold maxLen at this; omega
  by_cases hbig : 1048576 < l.length
  · go_enter Try.func8, Try.ntmps8
    go_wp2
    go_ret
    exact ⟨rfl, Below.refl _ _⟩
  · have C1 := Lib.hid (DrawTopOrder_any A c l w hb hlc.1 hlc.2)
    clear hb
    go_enter Try.func8, Try.ntmps8
    go_wp2_with fail
    refine (C1.out).mono ?_
    rintro e w1 ⟨⟨A1, c1, g, rfl, hg, hg16, hgc, hcm⟩, hb1⟩
    have HG := Lib.hid hg
    have s1 := hb1.size
    have hl9 : g.length ≤ 9223372036854775807 := by omega
    obtain ⟨L, hL⟩ : ∃ L, L = Bs.topL g := ⟨_, rfl⟩
    have c2 := TopOrder_any A1 c1 g w.heap.size w1.heap.size w1 HG.out (Nat.le_refl _) hl9
    have hlen := TopOrder_len g
    rw [← hL] at c2 hlen
    have C2 := Lib.hid c2
    have CS := Lib.hid (fun w2 hg hs => TopOrderS_any A1 c1 g w.heap.size w1.heap.size w2 hg hs hl9)
    rw [← hL] at CS
    have HL := Lib.hid hL
    clear C1 hg hL c2
    go_wp2_with fail
    refine (C2.out).mono ?_
    rintro e w2 hr2
    obtain ⟨A2, c2, rfl, q2, hb2, hlc2, hcm2⟩ := hr2.ri
    have g2 := HG.out.below hb2 (Nat.le_refl _)
    have s2 := hb2.size
    have C3 := Lib.hid (CS.out w2 g2 s2)
    have HQ2 := Lib.hid q2
    have HG2 := Lib.hid g2
    have HB2 := Lib.hid (hb1.trans (hb2.mono s1))
    clear hr2 q2 g2 hb2 C2
    go_wp2_with fail
    refine (C3.out).mono ?_
    rintro e w3 hr3
    obtain ⟨A3, c3, rfl, q3, hb3, hlc3, hcm3⟩ := hr3.ri
    have s3 := hb3.size
    have C4 := Lib.hid (equalInts_same A2 c2 A3 c3 L _ _ _ _ w3 (HQ2.out.below hb3 (Nat.le_refl _)) q3 (by omega))
    have HG3 := Lib.hid (HG2.out.below hb3 s2)
    have HQ3 := Lib.hid (HQ2.out.below hb3 (Nat.le_refl _))
    have HB3 := Lib.hid (HB2.out.trans (hb3.mono (Nat.le_trans s1 s2)))
    clear hr3 q3 hb3 C3 HQ2 HB2 HG2
    go_wp2_with fail
    refine (C4.out).mono ?_
    rintro e w4 ⟨rfl, n, rfl⟩
    clear C4
    obtain ⟨W3, rfl⟩ : ∃ W3, W3 = w3 := ⟨_, rfl⟩
    have hs3 : w1.heap.size ≤ (W3.drewN n).heap.size := Nat.le_trans s2 s3
    have c5 := ValidGraph_any A1 c1 g w.heap.size w1.heap.size (W3.drewN n) (HG3.out.drewN n) hs3 hl9
    cases hv : Bs.valid g
    · rw [hv] at c5
      have C5 := Lib.hid c5
      clear c5 hv HL
      go_wp2_with fail
      refine (C5.out).mono ?_
      rintro e w5 ⟨rfl, hb5⟩
      have s5 := hb5.size
      have HG5 := Lib.hid ((HG3.out.drewN n).below hb5 hs3)
      have HQ5 := Lib.hid ((HQ3.out.drewN n).below hb5 s3)
      have HB5 := Lib.hid (((HB3.out.drewN n).trans (hb5.mono (Nat.le_trans (Nat.le_trans s1 s2) s3))))
      clear hb5 C5
      have C6 := Lib.hid (CS.out w5 HG5.out (Nat.le_trans hs3 s5))
      go_wp2_with fail
      refine (C6.out).mono ?_
      rintro e w6 hr6
      obtain ⟨A6, c6, rfl, q6, hb6, _, _⟩ := hr6.ri
      have C7 := Lib.hid (equalInts_same A2 c2 A6 c6 L _ _ _ _ w6 (HQ5.out.below hb6 (Nat.le_trans s3 s5)) q6 (by omega))
      have HB6 := Lib.hid (HB5.out.trans (hb6.mono (Nat.le_trans (Nat.le_trans (Nat.le_trans s1 s2) s3) s5)))
      clear hr6 q6 hb6 C6
      go_wp2_with fail
      refine (C7.out).mono ?_
      rintro e w7 ⟨rfl, n7, rfl⟩
      go_wp2
      go_ret
      exact ⟨rfl, HB6.out.drewN _⟩
    · rw [hv] at c5
      have C5 := Lib.hid c5
      obtain ⟨O, hO⟩ : ∃ O, O = Bs.topL (g.map Bs.bare) := ⟨_, rfl⟩
      obtain ⟨hol, hok⟩ := Bs.bare_top hv O hO
      have HOK := Lib.hid hok
      have HO0 := Lib.hid hO
      clear c5 HL CS hv hok hO
      go_wp2_with fail
      refine (C5.out).mono ?_
      rintro e w5 ⟨rfl, hb5⟩
      have s5 := hb5.size
      have HG5 := Lib.hid ((HG3.out.drewN n).below hb5 hs3)
      have HB5 := Lib.hid (((HB3.out.drewN n).trans (hb5.mono (Nat.le_trans (Nat.le_trans s1 s2) s3))))
      clear hb5 C5 HG3 HQ3 HB3
      obtain ⟨W5, rfl⟩ : ∃ W5, W5 = w5 := ⟨_, rfl⟩
      have hs5 : w1.heap.size ≤ W5.heap.size := Nat.le_trans hs3 s5
      have hW : w.heap.size ≤ W5.heap.size := Nat.le_trans s1 hs5
      have HOL := Lib.hid hol
      clear hol
      go_wp2
      go_loopw [5, 6] (fun v i wr => ∃ (k : Nat) (A' : Option Addr) (c' : Nat) (o : List Bs.T), i = .int .i64 k ∧ k ≤ g.length ∧ v = .slice A' o.length c' ∧ o = (g.map Bs.bare).take k ∧ OT wr W5.heap.size A' c' o ∧ Below W5.heap.size W5 wr) (fun _ i _ => g.length + 1 - (intOf i).toNat)
      case atStart => exact ⟨0, _, _, [], rfl, Nat.zero_le _, rfl, by simp, OT.nil _ _ (Nat.le_refl _), (Below.refl _ _).alloc (Nat.le_refl _) _⟩
      case round =>
        obtain ⟨k, A', c', o, rfl, hk, rfl, ho, hO, hbr⟩ := hrel
        have sr := hbr.size
        have HO := Lib.hid hO
        have HBR := Lib.hid hbr
        have HoT := Lib.hid ho
        have hol : o.length = k := by rw [ho, List.length_take, List.length_map]; omega
        have HOL' := Lib.hid hol
        have hol1 : o.length ≤ 16 := by omega
        clear hO hbr ho hol
        by_cases hlt : k < g.length
        · obtain ⟨b1, o1, N, cN, rfl, _, _, k0, k1, k2, k3, hnc, hcN, hN⟩ := (HG5.out.below HBR.out hs5) k hlt
          have hts : o ++ [Bs.bare g[k]] = (g.map Bs.bare).take (k + 1) := by
            rw [HoT.out, List.take_succ_eq_append_getElem (by simpa using hlt), List.getElem_map]
          have HTS := Lib.hid hts
          clear hts k1 hN
          obtain ⟨t, ht⟩ : ∃ t, t = Bs.bare g[k] := ⟨_, rfl⟩
          have e0 : g[k].time = t.time := by rw [ht]; rfl
          have e2 : g[k].pool = t.pool := by rw [ht]; rfl
          have e3 : g[k].units = t.units := by rw [ht]; rfl
          rw [← ht] at HTS
          rw [e0] at k0
          rw [e2] at k2
          rw [e3] at k3
          clear ht e0 e2 e3 hnc
          obtain ⟨WR, rfl⟩ : ∃ WR, WR = wr := ⟨_, rfl⟩
          go_wp2
          go_region_law (refine step_push_task rfl _ _ rfl W5.heap.size A' c' o t rfl (by first | exact (HO.out.drewN 1).alloc _ | exact HO.out.alloc _) _ 1 rfl (by first | exact new_cells (WR.drewN 1) t | exact new_cells WR t | exact new_cells _ t) (by omega) (by simp; omega) ?_; intro A5 c5 w5 ho5 hb5)
          all_goals
            have s5 := hb5.size
            go_wp2
            go_roundw
            case rel => exact ⟨k + 1, A5, c5, _, by go_num, by omega, by simp, HTS.out, ho5, (((HBR.out.drewN 1).alloc (by simpa using sr) _).trans (hb5.mono (by simp)))⟩
            case measure => simp [intOf]; omega
        · have e : o = g.map Bs.bare := by rw [HoT.out, List.take_of_length_le]; simp; omega
          subst e
          have c7 := TopOrder_any A' c' (g.map Bs.bare) W5.heap.size wr.heap.size wr HO.out.rg (Nat.le_refl _) (by omega)
          rw [← HO0.out] at c7
          have C7 := Lib.hid c7
          clear c7 HoT HOL' HO hol1 HO0
          generalize g.map Bs.bare = FR at *
          have hol := HOL.out
          have hol2 : O.length ≤ 16 := by omega
          have heq : ((O.length : Int) == (g.length : Int)) = true := by rw [beq_iff_eq]; omega
          clear hol
          go_wp2_with fail
          refine (C7.out).mono ?_
          rintro e w7 hr7
          obtain ⟨A7, c7, rfl, q7, hb7, hlc7, hcm7⟩ := hr7.ri
          have HQ7 := Lib.hid q7
          have HB7 := Lib.hid (HB5.out.trans ((HBR.out.trans (hb7.mono sr)).mono hW))
          clear hr7 q7 hb7 C7
          obtain ⟨W7, rfl⟩ : ∃ W7, W7 = w7 := ⟨_, rfl⟩
          go_wp2
          go_loop [8] (fun j => ∃ k : Nat, j = .int .i64 (k : Int)) (fun j => O.length + 1 - (intOf j).toNat)
          case atStart => exact ⟨0, rfl⟩
          case round =>
            obtain ⟨j, rfl⟩ := hrel
            by_cases hj : j < O.length
            · obtain ⟨bn, on, rfl, _, _, hcn⟩ := HQ7.out j hj
              rw [HOK.out j hj] at hcn
              have e0 : (0 : Int) ≤ (j : Int) := by omega
              have e1 : (j : Int) < (O.length : Int) := by omega
              have hne : ((j : Int) != (j : Int)) = false := by simp
              go_wp2
              go_round
              case rel => exact ⟨j + 1, by go_num⟩
              case measure => simp [intOf]; omega
            · go_wp2
              go_ret
              exact ⟨rfl, HB7.out⟩
end Go.Proofs.Ytiokblodjhmjmab
