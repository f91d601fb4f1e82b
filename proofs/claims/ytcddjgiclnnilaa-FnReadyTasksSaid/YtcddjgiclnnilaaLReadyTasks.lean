/-
  THE WALK OF laws.FnReadyTasks.
-/
import Derived.Test.YtcddjgiclnnilaaX6
import Derived.Test.YtcddjgiclnnilaaRI
namespace Go.Proofs.Ytcddjgiclnnilaa
open Go.RowKit
set_option maxRecDepth 20000 in
set_option maxHeartbeats 6400000 in
theorem fnReadyTasks_walk (A : Option Addr) (c : Nat) (l : List Int) (w : World) (hb : RB w 0 w.heap.size A l) (hlc : l.length ≤ c ∧ c ≤ maxLen) :
    Calls Try.prog 4 #[.slice A l.length c] w fun e w' => e = .returned (.bool true) ∧ Below w.heap.size w w' := by
  have hl63 : l.length ≤ 9223372036854775807 := by have := hlc.2; unfold maxLen at this; omega
  by_cases hbig : 1048576 < l.length
  · go_enter Try.func4, Try.ntmps4
    go_wp2
    go_ret
    exact ⟨rfl, Below.refl _ _⟩
  · have C1 := Lib.hid (DrawReadyTasks_any A c l w hb hlc.1 hlc.2)
    clear hb
    go_enter Try.func4, Try.ntmps4
    go_wp2_with fail
    refine (C1.out).mono ?_
    rintro e w1 ⟨⟨A1, c1, g, A0, c0, d, rfl, hg, hg16, hgc, hcm, hd, hd100, hdc, hdm⟩, hb1⟩
    have HG := Lib.hid hg
    have HD := Lib.hid hd
    have s1 := hb1.size
    have hl9 : g.length ≤ 9223372036854775807 := by omega
    have hd9 : d.length ≤ 9223372036854775807 := by omega
    obtain ⟨L, hL⟩ : ∃ L, L = Bs.readyL g d := ⟨_, rfl⟩
    have c2 := ReadyTasks_any A1 c1 g A0 c0 d w.heap.size w1.heap.size w.heap.size w1.heap.size w1 HG.out (Nat.le_refl _) HD.out (Nat.le_refl _) hl9 hd9
    have hlen : L.length ≤ 1000 := by rw [hL]; exact ReadyTasks_len100 g d (by omega) (by omega)
    rw [← hL] at c2
    have C2 := Lib.hid c2
    have CS := Lib.hid (fun w2 hg hd hs => ReadyTasksS_any A1 c1 g A0 c0 d w.heap.size w1.heap.size w.heap.size w1.heap.size w2 hg hs hd hs hl9 hd9)
    rw [← hL] at CS
    have HL := Lib.hid hL
    have HB1 := Lib.hid hb1
    clear C1 hg hd hL c2 hb1
    go_wp2_with fail
    refine (C2.out).mono ?_
    rintro e w2 hr2
    obtain ⟨A2, c2, rfl, q2, hb2, hlc2, hcm2⟩ := hr2.ri
    have s2 := hb2.size
    have HQ2 := Lib.hid q2
    have HG2 := Lib.hid (HG.out.below hb2 (Nat.le_refl _))
    have HD2 := Lib.hid (HD.out.below hb2 (Nat.le_refl _))
    have HB2 := Lib.hid (HB1.out.trans (hb2.mono s1))
    have C3 := Lib.hid (CS.out w2 HG2.out HD2.out s2)
    clear hr2 q2 hb2 C2 HG HD HB1
    go_wp2_with fail
    refine (C3.out).mono ?_
    rintro e w3 hr3
    obtain ⟨A3, c3, rfl, q3, hb3, hlc3, hcm3⟩ := hr3.ri
    have s3 := hb3.size
    have C4 := Lib.hid (equalInts_same A2 c2 A3 c3 L _ _ _ _ w3 (HQ2.out.below hb3 (Nat.le_refl _)) q3 (by omega))
    have HG3 := Lib.hid (HG2.out.below hb3 s2)
    have HD3 := Lib.hid (HD2.out.below hb3 s2)
    have HQ3 := Lib.hid (HQ2.out.below hb3 (Nat.le_refl _))
    have HB3 := Lib.hid (HB2.out.trans (hb3.mono (Nat.le_trans s1 s2)))
    clear hr3 q3 hb3 C3 HQ2 HB2 HG2 HD2
    go_wp2_with fail
    refine (C4.out).mono ?_
    rintro e w4 ⟨rfl, n, rfl⟩
    clear C4
    obtain ⟨W3, rfl⟩ : ∃ W3, W3 = w3 := ⟨_, rfl⟩
    have hs3 : w1.heap.size ≤ (W3.drewN n).heap.size := Nat.le_trans s2 s3
    have C5 := ValidDone_any A1 c1 g A0 c0 d w.heap.size w1.heap.size w.heap.size w1.heap.size (W3.drewN n) (HG3.out.drewN n) hs3 (HD3.out.drewN n) hs3 hl9 hd9
    obtain ⟨hv, hhv⟩ : ∃ hv, hv = Bs.vdone g d := ⟨_, rfl⟩
    rw [← hhv] at C5
    have HHV := Lib.hid hhv
    have C5 := Lib.hid C5
    clear hhv
    go_wp2_with fail
    refine (C5.out).mono ?_
    rintro e w5 ⟨rfl, hb5⟩
    have s5 := hb5.size
    have HG5 := Lib.hid ((HG3.out.drewN n).below hb5 hs3)
    have HD5 := Lib.hid ((HD3.out.drewN n).below hb5 hs3)
    have HQ5 := Lib.hid ((HQ3.out.drewN n).below hb5 s3)
    have HB5 := Lib.hid (((HB3.out.drewN n).trans (hb5.mono (Nat.le_trans (Nat.le_trans s1 s2) s3))))
    clear hb5 C5 HG3 HD3 HQ3 HB3
    obtain ⟨W5, rfl⟩ : ∃ W5, W5 = w5 := ⟨_, rfl⟩
    have hs5 : w1.heap.size ≤ W5.heap.size := Nat.le_trans hs3 s5
    have hs25 : w2.heap.size ≤ W5.heap.size := Nat.le_trans s3 s5
    cases hv
    · clear HHV HL
      have hsA : w1.heap.size ≤ (W5).heap.size := hs5
      go_wp2_with fail
      refine (CS.out (W5) HG5.out HD5.out hsA).mono ?_
      rintro e wA hrA
      obtain ⟨AA, cA, rfl, qA, hbA, _, _⟩ := hrA.ri
      have sA := hbA.size
      have CB := Lib.hid (equalInts_same A2 c2 AA cA L _ _ _ _ wA (HQ5.out.below hbA (by first | exact hsA | omega)) qA (by omega))
      have HBA := Lib.hid (HB5.out.trans (hbA.mono (Nat.le_trans s1 hsA)))
      clear hrA qA hbA
      go_wp2_with fail
      refine (CB.out).mono ?_
      rintro e wB ⟨rfl, nB, rfl⟩
      go_wp2
      go_ret
      exact ⟨rfl, HBA.out.drewN _⟩
    · have hvd : Bs.vdone g d = true := HHV.out.symm
      have hLC : L = Bs.readyC g d := by rw [HL.out]; exact readyL_yes hvd
      have HX := Lib.hid (fun i : Nat => show L.contains (i : Int) = Bs.finOk g d (i : Int) ∧ (L.contains (i : Int) = true → d.contains (i : Int) = false) from by rw [hLC]; exact Bs.ready_law hvd i)
      have HE := Lib.hid (show L.length = 0 → d.length = g.length from fun h0 => Bs.ready_none hvd (by rw [← hLC]; exact List.eq_nil_of_length_eq_zero h0))
      have CF := Lib.hid (fun (x : Int) W hg hd hs => FinishTask_any A1 c1 g A0 c0 d x w.heap.size w1.heap.size w.heap.size w1.heap.size W hg hs hd hs hl9 hd9)
      clear HHV HL CS hvd hLC
      go_wp2
      go_loopw [6, 7, 8] (fun i _ _ wr => ∃ k : Nat, i = .int .i64 (k : Int) ∧ Below W5.heap.size W5 wr) (fun i _ _ _ => g.length + 1 - (intOf i).toNat)
      case atStart => exact ⟨0, rfl, Below.refl _ _⟩
      case round =>
        obtain ⟨i, rfl, hbr⟩ := hrel
        have sr := hbr.size
        have HBR := Lib.hid hbr
        have HGr := Lib.hid (HG5.out.below hbr hs5)
        have HDr := Lib.hid (HD5.out.below hbr hs5)
        have HQr := Lib.hid (HQ5.out.below hbr hs25)
        clear hbr
        by_cases hi : i < g.length
        · obtain ⟨hx1, hx2⟩ := HX.out i
          have d4 : (i : Int) < (g.length : Int) := by omega
          have c6 := CF.out (i : Int) wr HGr.out HDr.out (Nat.le_trans hs5 sr)
          rw [← hx1] at c6
          generalize Bs.finL g d (i : Int) = FL at *
          have C6 := Lib.hid c6
          clear c6 hx1
          go_wp2_with fail
          refine (C6.out).mono ?_
          rintro e w6 ⟨⟨A6, c6, rfl, ho6⟩, hb6⟩
          have s6 := hb6.size
          have HB6 := Lib.hid (HBR.out.trans (hb6.mono sr))
          have c7 := lisIn_any A2 c2 L (i : Int) _ _ w6 (HQr.out.below hb6 (Nat.le_trans hs25 sr)) (by omega)
          have c8 := lisIn_any A0 c0 d (i : Int) _ _ w6 (HDr.out.below hb6 (Nat.le_trans hs5 sr)) (by omega)
          clear ho6 hb6 C6
          generalize L.contains (i : Int) = bu at *
          cases bu
          · have C7 := Lib.hid c7
            clear c7 c8 hx2
            go_wp2_with fail
            refine (C7.out).mono ?_
            rintro e w7 ⟨rfl, rfl⟩
            go_wp2_with fail
            refine (C7.out).mono ?_
            rintro e w8 ⟨rfl, rfl⟩
            go_wp2
            go_roundw
            case rel => exact ⟨i + 1, by go_num, HB6.out⟩
            case measure => simp [intOf]; omega
          · rw [hx2 rfl] at c8
            have C7 := Lib.hid c7
            have C8 := Lib.hid c8
            clear c7 c8 hx2
            go_wp2_with fail
            refine (C7.out).mono ?_
            rintro e w7 ⟨rfl, rfl⟩
            go_wp2_with fail
            refine (C7.out).mono ?_
            rintro e w8 ⟨rfl, rfl⟩
            go_wp2_with fail
            refine (C8.out).mono ?_
            rintro e w9 ⟨rfl, rfl⟩
            go_wp2
            go_roundw
            case rel => exact ⟨i + 1, by go_num, HB6.out⟩
            case measure => simp [intOf]; omega
        · by_cases h0 : L.length = 0
          · have hdl := HE.out h0
            have heq : ((d.length : Int) == (g.length : Int)) = true := by rw [beq_iff_eq]; omega
            clear h0 hdl
            go_wp2
            go_ret
            exact ⟨rfl, HB5.out.trans (HBR.out.mono (Nat.le_trans s1 hs5))⟩
          · have hp : decide ((0 : Int) < (L.length : Int)) = true := by simp; omega
            have hp' : decide (0 < L.length) = true := by simp; omega
            clear h0
            by_cases hdl : d.length = g.length
            · have heq : ((d.length : Int) == (g.length : Int)) = true := by rw [beq_iff_eq]; omega
              clear hdl
              go_wp2
              go_ret
              exact ⟨rfl, HB5.out.trans (HBR.out.mono (Nat.le_trans s1 hs5))⟩
            · have heq : ((d.length : Int) == (g.length : Int)) = false := by rw [beq_eq_false_iff_ne]; omega
              clear hdl
              go_wp2
              go_ret
              exact ⟨rfl, HB5.out.trans (HBR.out.mono (Nat.le_trans s1 hs5))⟩
end Go.Proofs.Ytcddjgiclnnilaa
