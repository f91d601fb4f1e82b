/-
  THE WALK OF laws.FnWaitsForAll.
-/
import Derived.Test.YtcddjgiclnnilabX6
import Derived.Test.YtcddjgiclnnilabRI
namespace Go.Proofs.Ytcddjgiclnnilab
open Go.RowKit
set_option maxRecDepth 20000 in
set_option maxHeartbeats 6400000 in
theorem fnWaitsForAll_walk (A : Option Addr) (c : Nat) (l : List Int) (w : World) (hb : RB w 0 w.heap.size A l) (hlc : l.length ≤ c ∧ c ≤ maxLen) :
    Calls Try.prog 9 #[.slice A l.length c] w fun e w' => e = .returned (.bool true) ∧ Below w.heap.size w w' := by
  have hl63 : l.length ≤ 9223372036854775807 := by have := hlc.2; unfold maxLen at this; omega
  by_cases hbig : 1048576 < l.length
  · go_enter Try.func9, Try.ntmps9
    go_wp2
    go_ret
    exact ⟨rfl, Below.refl _ _⟩
  · have C1 := Lib.hid (DrawWaitsFor_any A c l w hb hlc.1 hlc.2)
    clear hb
    go_enter Try.func9, Try.ntmps9
    go_wp2_with fail
    refine (C1.out).mono ?_
    rintro e w1 ⟨⟨A1, c1, g, A0, c0, d, a, rfl, hg, hg16, hgc, hcm, hd, hd100, hdc, hdm⟩, hb1⟩
    have HG := Lib.hid hg
    have HD := Lib.hid hd
    have s1 := hb1.size
    have hl9 : g.length ≤ 9223372036854775807 := by omega
    have hd9 : d.length ≤ 9223372036854775807 := by omega
    obtain ⟨L, hL⟩ : ∃ L, L = Bs.waitsL g d a := ⟨_, rfl⟩
    have c2 := WaitsFor_any A1 c1 g A0 c0 d a w.heap.size w1.heap.size w.heap.size w1.heap.size w1 HG.out (Nat.le_refl _) HD.out (Nat.le_refl _) hl9 hd9
    have hlen : L.length ≤ 1000 := by rw [hL]; exact WaitsFor_len100 g d a (by omega) (by omega)
    rw [← hL] at c2
    have C2 := Lib.hid c2
    have CS := Lib.hid (fun w2 hg hd hs => WaitsForS_any A1 c1 g A0 c0 d a w.heap.size w1.heap.size w.heap.size w1.heap.size w2 hg hs hd hs hl9 hd9)
    rw [← hL] at CS
    have HL := Lib.hid hL
    have HB1 := Lib.hid hb1
    clear C1 hg hd hL c2 hb1
    go_wp2_with fail
    refine (C2.out).mono ?_
    rintro e w2 hr2
    obtain ⟨A2, c2, rfl, q2, hb2, hlc2, hcm2⟩ := hr2.ri
    have s2 := hb2.size
    have HQ2 := Lib.hid q2
    have HG2 := Lib.hid (HG.out.below hb2 (Nat.le_refl _))
    have HD2 := Lib.hid (HD.out.below hb2 (Nat.le_refl _))
    have HB2 := Lib.hid (HB1.out.trans (hb2.mono s1))
    have C3 := Lib.hid (CS.out w2 HG2.out HD2.out s2)
    clear hr2 q2 hb2 C2 HG HD HB1
    go_wp2_with fail
    refine (C3.out).mono ?_
    rintro e w3 hr3
    obtain ⟨A3, c3, rfl, q3, hb3, hlc3, hcm3⟩ := hr3.ri
    have s3 := hb3.size
    have C4 := Lib.hid (equalInts_same A2 c2 A3 c3 L _ _ _ _ w3 (HQ2.out.below hb3 (Nat.le_refl _)) q3 (by omega))
    have HG3 := Lib.hid (HG2.out.below hb3 s2)
    have HD3 := Lib.hid (HD2.out.below hb3 s2)
    have HQ3 := Lib.hid (HQ2.out.below hb3 (Nat.le_refl _))
    have HB3 := Lib.hid (HB2.out.trans (hb3.mono (Nat.le_trans s1 s2)))
    clear hr3 q3 hb3 C3 HQ2 HB2 HG2 HD2
    go_wp2_with fail
    refine (C4.out).mono ?_
    rintro e w4 ⟨rfl, n, rfl⟩
    clear C4
    obtain ⟨W3, rfl⟩ : ∃ W3, W3 = w3 := ⟨_, rfl⟩
    have hs3 : w1.heap.size ≤ (W3.drewN n).heap.size := Nat.le_trans s2 s3
    have C5 := ValidGraph_any A1 c1 g w.heap.size w1.heap.size (W3.drewN n) (HG3.out.drewN n) hs3 hl9
    obtain ⟨hv, hhv⟩ : ∃ hv, hv = Bs.valid g := ⟨_, rfl⟩
    rw [← hhv] at C5
    have HHV := Lib.hid hhv
    have C5 := Lib.hid C5
    clear hhv
    go_wp2_with fail
    refine (C5.out).mono ?_
    rintro e w5 ⟨rfl, hb5⟩
    have s5 := hb5.size
    have HG5 := Lib.hid ((HG3.out.drewN n).below hb5 hs3)
    have HD5 := Lib.hid ((HD3.out.drewN n).below hb5 hs3)
    have HQ5 := Lib.hid ((HQ3.out.drewN n).below hb5 s3)
    have HB5 := Lib.hid (((HB3.out.drewN n).trans (hb5.mono (Nat.le_trans (Nat.le_trans s1 s2) s3))))
    clear hb5 C5 HG3 HD3 HQ3 HB3
    obtain ⟨W5, rfl⟩ : ∃ W5, W5 = w5 := ⟨_, rfl⟩
    have hs5 : w1.heap.size ≤ W5.heap.size := Nat.le_trans hs3 s5
    have hs25 : w2.heap.size ≤ W5.heap.size := Nat.le_trans s3 s5
    cases hv
    · clear HHV HL
      have hsA : w1.heap.size ≤ (W5).heap.size := hs5
      go_wp2_with fail
      refine (CS.out (W5) HG5.out HD5.out hsA).mono ?_
      rintro e wA hrA
      obtain ⟨AA, cA, rfl, qA, hbA, _, _⟩ := hrA.ri
      have sA := hbA.size
      have CB := Lib.hid (equalInts_same A2 c2 AA cA L _ _ _ _ wA (HQ5.out.below hbA (by first | exact hsA | omega)) qA (by omega))
      have HBA := Lib.hid (HB5.out.trans (hbA.mono (Nat.le_trans s1 hsA)))
      clear hrA qA hbA
      go_wp2_with fail
      refine (CB.out).mono ?_
      rintro e wB ⟨rfl, nB, rfl⟩
      go_wp2
      go_ret
      exact ⟨rfl, HBA.out.drewN _⟩
    · by_cases hz0 : a < 0
      · have d0 : decide (a < 0) = true := by simpa using hz0
        clear hz0 HHV HL
        have hsA : w1.heap.size ≤ (W5).heap.size := hs5
        go_wp2_with fail
        refine (CS.out (W5) HG5.out HD5.out hsA).mono ?_
        rintro e wA hrA
        obtain ⟨AA, cA, rfl, qA, hbA, _, _⟩ := hrA.ri
        have sA := hbA.size
        have CB := Lib.hid (equalInts_same A2 c2 AA cA L _ _ _ _ wA (HQ5.out.below hbA (by first | exact hsA | omega)) qA (by omega))
        have HBA := Lib.hid (HB5.out.trans (hbA.mono (Nat.le_trans s1 hsA)))
        clear hrA qA hbA
        go_wp2_with fail
        refine (CB.out).mono ?_
        rintro e wB ⟨rfl, nB, rfl⟩
        go_wp2
        go_ret
        exact ⟨rfl, HBA.out.drewN _⟩
      · by_cases hz1 : (g.length : Int) ≤ a
        · have d0 : decide (a < 0) = false := by simpa using hz0
          have d1 : decide ((g.length : Int) ≤ a) = true := by simpa using hz1
          clear hz0 hz1 HHV HL
          have hsA : w1.heap.size ≤ (W5).heap.size := hs5
          go_wp2_with fail
          refine (CS.out (W5) HG5.out HD5.out hsA).mono ?_
          rintro e wA hrA
          obtain ⟨AA, cA, rfl, qA, hbA, _, _⟩ := hrA.ri
          have sA := hbA.size
          have CB := Lib.hid (equalInts_same A2 c2 AA cA L _ _ _ _ wA (HQ5.out.below hbA (by first | exact hsA | omega)) qA (by omega))
          have HBA := Lib.hid (HB5.out.trans (hbA.mono (Nat.le_trans s1 hsA)))
          clear hrA qA hbA
          go_wp2_with fail
          refine (CB.out).mono ?_
          rintro e wB ⟨rfl, nB, rfl⟩
          go_wp2
          go_ret
          exact ⟨rfl, HBA.out.drewN _⟩
        · obtain ⟨v, rfl⟩ : ∃ v : Nat, a = (v : Int) := ⟨a.toNat, by omega⟩
          have hv : v < g.length := by omega
          have d0 : decide ((v : Int) < 0) = false := by simp
          have d1 : decide ((g.length : Int) ≤ (v : Int)) = false := by simp; omega
          have d1' : decide (g.length ≤ v) = false := by simp; omega
          have d2 : (0 : Int) ≤ (v : Int) := by omega
          have d3 : (v : Int) < (g.length : Int) := by omega
          have hvv : Bs.valid g = true := HHV.out.symm
          have HVA := Lib.hid (Bs.waits_all hvv v)
          have hw0 := Bs.waits_nil hvv hv
          have c6 := fun W hg hs => WaitsFor_any A1 c1 g none 0 [] (v : Int) w.heap.size w1.heap.size 0 0 W hg hs RI.nil (Nat.zero_le _) hl9 (by simp)
          have hnl := Bs.fine_needs_len (valid_fine hvv) hv
          rw [hw0] at c6
          have C6 := Lib.hid c6
          have C7 := Lib.hid (fun A c (q : List Int) lo' hi' W hg hs hd hh hq => WaitsFor_any A1 c1 g A c q (v : Int) w.heap.size w1.heap.size lo' hi' W hg hs hd hh hl9 hq)
          clear hz0 hz1 CS HHV HL hvv hw0 c6
          go_wp2
          go_loopw [7, 8] (fun s i wr => ∃ (k : Nat) (A3 : Option Addr) (c3 : Nat), k ≤ g.length ∧ i = .int .i64 (k : Int) ∧ s = .slice A3 (Bs.allL k).length c3 ∧ OI wr W5.heap.size A3 c3 (Bs.allL k) ∧ Below W5.heap.size W5 wr) (fun _ i _ => g.length - (intOf i).toNat)
          case atStart => exact ⟨0, _, _, Nat.zero_le _, rfl, rfl, OI.new _ _ (Nat.le_refl _), (Below.refl _ _).alloc (Nat.le_refl _) _⟩
          case round =>
            obtain ⟨k, A3, c3, hk, rfl, rfl, ho, hb⟩ := hrel
            have sr := hb.size
            have HBr := Lib.hid hb
            have HOr := Lib.hid ho
            have hal := Bs.allL_len k
            have hall : Bs.allL (k + 1) = Bs.allL k ++ [(k : Int)] := by unfold Bs.allL; rw [Bs.pick_succ]; rfl
            have HAL := Lib.hid hall
            have hl16 : (Bs.allL k).length ≤ 16 := by omega
            clear hb ho hal hall
            by_cases hlt : k < g.length
            · have e1 : decide ((k : Int) < (g.length : Int)) = true := by simp; omega
              generalize Bs.allL k = M at *
              go_wp2_with (at_builtin; go_loud (refine push_int rfl _ _ rfl W5.heap.size A3 c3 M (k : Int) rfl (HOr.out.alloc _) wr.heap.size 1 rfl (by simp [go_sem]) (by omega) (by simp; omega) ?_; intro A5 c5 w6 ho6 hb6 _))
              go_wp2
              go_roundw
              case rel => exact ⟨k + 1, A5, c5, by omega, by go_num, by rw [HAL.out, List.length_append]; rfl, by rw [HAL.out]; exact ho6, (HBr.out.alloc sr _).trans hb6⟩
              case measure => simp [intOf]; omega
            · have hkg : k = g.length := by omega
              have e1 : decide ((k : Int) < (g.length : Int)) = false := by simp; omega
              have HV1 := Lib.hid (show Bs.waitsL g (Bs.allL k) (v : Int) = [] from by rw [hkg]; exact HVA.out)
              clear hkg HVA
              generalize Bs.allL k = M at *
              have HGr := Lib.hid (HG5.out.below HBr.out hs5)
              have C6 := Lib.hid (C6.out (wr.drewN 1) (HGr.out.drewN 1) (Nat.le_trans hs5 sr))
              obtain ⟨bg, og, N, cN, rfl, _, hbg, k0, k1, k2, k3, hnc, hcN, hN⟩ := HGr.out v hv
              have hbgw : bg < wr.heap.size := by omega
              have HN := Lib.hid hN
              have HNL := Lib.hid hnl
              obtain ⟨nd, hnd⟩ : ∃ nd, nd = g[v].needs := ⟨_, rfl⟩
              rw [← hnd] at C6 HN HNL k1 hnc
              clear k0 k2 k3 hN hnd hnl
              obtain ⟨WR, rfl⟩ : ∃ WR, WR = wr := ⟨_, rfl⟩
              go_wp2
              go_region_law (first | (go_simp; go_at_call 37; refine ((C9 _).out).mono ?_; rintro e w9 hr9; obtain ⟨A9, c9, rfl, q9, hb9, hlc9, hcm9⟩ := hr9.ri; have HB9 := Lib.hid (HB5.out.trans (((HB6.out.drewN _).trans (hb9.mono (show W5.heap.size ≤ w6.heap.size by omega))).mono (Nat.le_trans s1 hs5))); clear hr9 q9 hb9) | (go_simp; go_at_call 17; refine ((C8 0).out).mono ?_; rintro e w8 ⟨rfl, n8, rfl⟩) | (go_simp; go_at_call 37; refine (C6.out).mono ?_; rintro e w6 hr6; obtain ⟨A6, c6, rfl, q6, hb6, hlc6, hcm6⟩ := hr6.ri; have s6 : WR.heap.size ≤ w6.heap.size := hb6.size; have k1' := (hb6.cell (p := ⟨bg, og + v * 4 + 1, none⟩) (show bg < (WR.drewN 1).heap.size from hbgw)).trans k1; have HG6 := Lib.hid ((HGr.out.drewN 1).below hb6 (Nat.le_trans hs5 sr)); have HN6 := Lib.hid ((HN.out.drewN 1).below hb6 (Nat.le_trans hs5 sr)); have C8 := fun n => Lib.hid (equalInts_same A6 c6 N cN nd _ _ _ _ (w6.drewN n) (q6.drewN n) (HN6.out.drewN n) (by have := HNL.out; omega)); have HB6 := Lib.hid ((HBr.out.drewN 1).trans (hb6.mono sr)); have HO6 := Lib.hid ((HOr.out.ri.drewN 1).below hb6 (Nat.le_refl _)); have C9 := fun n => Lib.hid (C7.out A3 c3 M W5.heap.size WR.heap.size (w6.drewN n) (HG6.out.drewN n) (show w1.heap.size ≤ w6.heap.size by omega) (HO6.out.drewN n) (show WR.heap.size ≤ w6.heap.size from s6) (by omega)); rw [HV1.out] at C9; clear hr6 q6 hb6))
              all_goals
                go_wp2
                go_ret
                exact ⟨rfl, HB9.out⟩
end Go.Proofs.Ytcddjgiclnnilab
