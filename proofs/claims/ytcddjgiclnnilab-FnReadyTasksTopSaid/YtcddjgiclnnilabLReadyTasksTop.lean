/-
  THE WALK OF laws.FnReadyTasksTop.
-/
import Derived.Test.YtcddjgiclnnilabX6
import Derived.Test.YtcddjgiclnnilabRI
namespace Go.Proofs.Ytcddjgiclnnilab
open Go.RowKit
set_option maxRecDepth 20000 in
set_option maxHeartbeats 6400000 in
theorem fnReadyTasksTop_walk (A : Option Addr) (c : Nat) (l : List Int) (w : World) (hb : RB w 0 w.heap.size A l) (hlc : l.length ≤ c ∧ c ≤ maxLen) :
    Calls Try.prog 7 #[.slice A l.length c] w fun e w' => e = .returned (.bool true) ∧ Below w.heap.size w w' := by
  have hl63 : l.length ≤ 9223372036854775807 := by have := hlc.2; unfold maxLen at this; omega
  by_cases hbig : 1048576 < l.length
  · go_enter Try.func7, Try.ntmps7
    go_wp2
    go_ret
    exact ⟨rfl, Below.refl _ _⟩
  · have C1 := Lib.hid (DrawReadyTasks_any A c l w hb hlc.1 hlc.2)
    clear hb
    go_enter Try.func7, Try.ntmps7
    go_wp2_with fail
    refine (C1.out).mono ?_
    rintro e w1 ⟨⟨A1, c1, g, A0, c0, d, rfl, hg, hg16, hgc, hcm, hd, hd100, hdc, hdm⟩, hb1⟩
    have HG := Lib.hid hg
    have HD := Lib.hid hd
    have s1 := hb1.size
    have hl9 : g.length ≤ 9223372036854775807 := by omega
    have hd9 : d.length ≤ 9223372036854775807 := by omega
    obtain ⟨L, hL⟩ : ∃ L, L = Bs.readyL g d := ⟨_, rfl⟩
    have c2 := ReadyTasks_any A1 c1 g A0 c0 d w.heap.size w1.heap.size w.heap.size w1.heap.size w1 HG.out (Nat.le_refl _) HD.out (Nat.le_refl _) hl9 hd9
    have hlen : L.length ≤ 1000 := by rw [hL]; exact ReadyTasks_len100 g d (by omega) (by omega)
    rw [← hL] at c2
    have C2 := Lib.hid c2
    have CS := Lib.hid (fun w2 hg hd hs => ReadyTasksS_any A1 c1 g A0 c0 d w.heap.size w1.heap.size w.heap.size w1.heap.size w2 hg hs hd hs hl9 hd9)
    rw [← hL] at CS
    have HL := Lib.hid hL
    have HB1 := Lib.hid hb1
    clear C1 hg hd hL c2 hb1
    go_wp2_with fail
    refine (C2.out).mono ?_
    rintro e w2 hr2
    obtain ⟨A2, c2, rfl, q2, hb2, hlc2, hcm2⟩ := hr2.ri
    have s2 := hb2.size
    have HQ2 := Lib.hid q2
    have HG2 := Lib.hid (HG.out.below hb2 (Nat.le_refl _))
    have HD2 := Lib.hid (HD.out.below hb2 (Nat.le_refl _))
    have HB2 := Lib.hid (HB1.out.trans (hb2.mono s1))
    have C3 := Lib.hid (CS.out w2 HG2.out HD2.out s2)
    clear hr2 q2 hb2 C2 HG HD HB1
    go_wp2_with fail
    refine (C3.out).mono ?_
    rintro e w3 hr3
    obtain ⟨A3, c3, rfl, q3, hb3, hlc3, hcm3⟩ := hr3.ri
    have s3 := hb3.size
    have C4 := Lib.hid (equalInts_same A2 c2 A3 c3 L _ _ _ _ w3 (HQ2.out.below hb3 (Nat.le_refl _)) q3 (by omega))
    have HG3 := Lib.hid (HG2.out.below hb3 s2)
    have HD3 := Lib.hid (HD2.out.below hb3 s2)
    have HQ3 := Lib.hid (HQ2.out.below hb3 (Nat.le_refl _))
    have HB3 := Lib.hid (HB2.out.trans (hb3.mono (Nat.le_trans s1 s2)))
    clear hr3 q3 hb3 C3 HQ2 HB2 HG2 HD2
    go_wp2_with fail
    refine (C4.out).mono ?_
    rintro e w4 ⟨rfl, n, rfl⟩
    clear C4
    obtain ⟨W3, rfl⟩ : ∃ W3, W3 = w3 := ⟨_, rfl⟩
    have hs3 : w1.heap.size ≤ (W3.drewN n).heap.size := Nat.le_trans s2 s3
    have C5 := ValidGraph_any A1 c1 g w.heap.size w1.heap.size (W3.drewN n) (HG3.out.drewN n) hs3 hl9
    obtain ⟨hv, hhv⟩ : ∃ hv, hv = Bs.valid g := ⟨_, rfl⟩
    rw [← hhv] at C5
    have HHV := Lib.hid hhv
    have C5 := Lib.hid C5
    clear hhv
    go_wp2_with fail
    refine (C5.out).mono ?_
    rintro e w5 ⟨rfl, hb5⟩
    have s5 := hb5.size
    have HG5 := Lib.hid ((HG3.out.drewN n).below hb5 hs3)
    have HD5 := Lib.hid ((HD3.out.drewN n).below hb5 hs3)
    have HQ5 := Lib.hid ((HQ3.out.drewN n).below hb5 s3)
    have HB5 := Lib.hid (((HB3.out.drewN n).trans (hb5.mono (Nat.le_trans (Nat.le_trans s1 s2) s3))))
    clear hb5 C5 HG3 HD3 HQ3 HB3
    obtain ⟨W5, rfl⟩ : ∃ W5, W5 = w5 := ⟨_, rfl⟩
    have hs5 : w1.heap.size ≤ W5.heap.size := Nat.le_trans hs3 s5
    have hs25 : w2.heap.size ≤ W5.heap.size := Nat.le_trans s3 s5
    cases hv
    · clear HHV HL
      have hsA : w1.heap.size ≤ (W5).heap.size := hs5
      go_wp2_with fail
      refine (CS.out (W5) HG5.out HD5.out hsA).mono ?_
      rintro e wA hrA
      obtain ⟨AA, cA, rfl, qA, hbA, _, _⟩ := hrA.ri
      have sA := hbA.size
      have CB := Lib.hid (equalInts_same A2 c2 AA cA L _ _ _ _ wA (HQ5.out.below hbA (by first | exact hsA | omega)) qA (by omega))
      have HBA := Lib.hid (HB5.out.trans (hbA.mono (Nat.le_trans s1 hsA)))
      clear hrA qA hbA
      go_wp2_with fail
      refine (CB.out).mono ?_
      rintro e wB ⟨rfl, nB, rfl⟩
      go_wp2
      go_ret
      exact ⟨rfl, HBA.out.drewN _⟩
    · have hvv : Bs.valid g = true := HHV.out.symm
      obtain ⟨O, hO⟩ : ∃ O, O = Bs.topL g := ⟨_, rfl⟩
      have hOT : O = Bs.top g := by rw [hO]; unfold Bs.topL; rw [hvv]; rfl
      have hOl : O.length = g.length := by rw [hOT]; exact valid_full hvv
      have c6 := fun W hg hs => TopOrder_any A1 c1 g w.heap.size w1.heap.size W hg hs hl9
      rw [← hO] at c6
      have C6 := Lib.hid c6
      have CR := Lib.hid (fun A0 c0 (d : List Int) lo' hi' W hg hs hd hh' hd9 => ReadyTasks_any A1 c1 g A0 c0 d w.heap.size w1.heap.size lo' hi' W hg hs hd hh' hl9 hd9)
      have CF := Lib.hid (fun A0 c0 (d : List Int) (x : Int) lo' hi' W hg hs hd hh' hd9 => FinishTask_any A1 c1 g A0 c0 d x w.heap.size w1.heap.size lo' hi' W hg hs hd hh' hl9 hd9)
      have HT := Lib.hid (fun (d : List Int) (hd : Bs.vdone g d = true) (k : Nat) (hk : k < O.length) (hm : ∀ i : Nat, (i : Int) ∈ d ↔ (i : Int) ∈ O.take k) => show (∃ r, Bs.readyC g d = O[k] :: r) ∧ Bs.finOk g d O[k] = true ∧ ∀ i : Nat, (i : Int) ∈ Bs.finC g d O[k] ↔ (i : Int) ∈ O.take (k + 1) from by subst hOT; exact Bs.top_ready hvv hd hk hm)
      have HV0 := Lib.hid (show Bs.vdone g [] = true from by rw [Bs.vdone_nil]; exact hvv)
      have hol := hOl
      clear HHV HL CS hvv hO hOT c6
      have hal := Below.alloc (Below.refl W5.heap.size W5) (Nat.le_refl _) (.cells #[] 3)
      have HAL := Lib.hid hal
      have C6 := Lib.hid (C6.out _ (HG5.out.below hal hs5) (Nat.le_trans hs5 hal.size))
      clear hal
      go_wp2_with fail
      refine (C6.out).mono ?_
      rintro e w6 hr6
      obtain ⟨A6, c6, rfl, q6, hb6, hlc6, hcm6⟩ := hr6.ri
      have s6a := HAL.out.size
      have s6 := hb6.size
      have HB6 := Lib.hid (HAL.out.trans (hb6.mono s6a))
      have HO6 := Lib.hid (q6.more (lo' := W5.heap.size) s6a (Nat.le_refl _))
      clear hr6 q6 hb6 C6
      obtain ⟨W6, rfl⟩ : ∃ W6, W6 = w6 := ⟨_, rfl⟩
      have hs6 : W5.heap.size ≤ W6.heap.size := Nat.le_trans s6a s6
      go_wp2
      go_loopw [6, 8, 9, 10, 11] (fun v i _ _ _ wr => ∃ (k : Nat) (A7 : Option Addr) (c7 : Nat) (now : List Int), i = .int .i64 (k : Int) ∧ v = .slice A7 now.length c7 ∧ k ≤ O.length ∧ now.length = k ∧ Bs.vdone g now = true ∧ (∀ i : Nat, (i : Int) ∈ now ↔ (i : Int) ∈ O.take k) ∧ RI wr W5.heap.size wr.heap.size A7 now ∧ Below W6.heap.size W6 wr) (fun _ i _ _ _ _ => O.length + 1 - (intOf i).toNat)
      case atStart => exact ⟨0, _, _, [], rfl, rfl, Nat.zero_le _, rfl, HV0.out, by simp, RI.nil, Below.refl _ _⟩
      case round =>
        obtain ⟨k, A7, c7, now, rfl, rfl, hk, hnl, hvd, hmem, hri, hbr⟩ := hrel
        have sr := hbr.size
        have HBR := Lib.hid hbr
        have HGr := Lib.hid (HG5.out.below (HB6.out.trans (hbr.mono hs6)) hs5)
        have HOr := Lib.hid (HO6.out.below hbr (Nat.le_refl _))
        have HNr := Lib.hid hri
        have HNL := Lib.hid hnl
        have hn16 : now.length ≤ 16 := by omega
        clear hbr hri hnl
        by_cases hi : k < O.length
        · obtain ⟨⟨rr, hrr⟩, hok, hmem2⟩ := HT.out now hvd k hi hmem
          obtain ⟨f1, f2, f3, f4, f5, f6, f7⟩ := Bs.fin_law hok
          obtain ⟨bo, oo, rfl, _, _, hco⟩ := HOr.out k hi
          have hfl : Bs.finL g now O[k] = Bs.finC g now O[k] := finL_yes hok
          have hrl : Bs.readyL g now = O[k] :: rr := by rw [readyL_yes hvd]; exact hrr
          have hrrl := readyL_len g now
          rw [hrl, List.length_cons] at hrrl
          have c8 := CR.out A7 c7 now W5.heap.size wr.heap.size wr HGr.out (by omega) HNr.out (Nat.le_refl _) (by omega)
          have c9 := fun W hg hs hd hh => CF.out A7 c7 now O[k] W5.heap.size wr.heap.size W hg hs hd hh (by omega)
          rw [hrl] at c8
          rw [hfl, hok] at c9
          have b0 : (0 : Int) ≤ (k : Int) := by omega
          have b1 : (k : Int) < (O.length : Int) := by omega
          have HM2 := Lib.hid hmem2
          have HF4 := Lib.hid f4
          have HF5 := Lib.hid f5
          clear hrr hok hmem2 f1 f2 f3 f4 f5 f6 f7 hfl hrl hmem hvd
          generalize O[k] = x at *
          generalize Bs.finC g now x = FL at *
          obtain ⟨R, hR⟩ : ∃ R, R = x :: rr := ⟨_, rfl⟩
          rw [← hR] at c8
          have hR0 : 0 < R.length := by rw [hR]; simp
          have hRx : R[0] = x := by subst hR; rfl
          have hRl : R.length ≤ 100 := by rw [hR, List.length_cons]; omega
          have HRX := Lib.hid hRx
          have e1 : ((R.length : Int) == 0) = false := by rw [beq_eq_false_iff_ne]; omega
          have C8 := Lib.hid c8
          have C9 := Lib.hid c9
          clear c8 c9 hR hRx
          go_wp2_with fail
          refine (C8.out).mono ?_
          rintro e w8 hr8
          obtain ⟨A8, c8, rfl, q8, hb8, hlc8, hcm8⟩ := hr8.ri
          have s8 := hb8.size
          obtain ⟨b8, o8, rfl, _, hb8l, hc8⟩ := q8 0 hR0
          rw [Nat.add_zero, HRX.out] at hc8
          have hco8 := (hb8.cell (p := ⟨bo, oo + k, none⟩) (show bo < wr.heap.size from by omega)).trans hco
          have HB8 := Lib.hid (HBR.out.trans (hb8.mono sr))
          have HN8 := Lib.hid (HNr.out.below hb8 (Nat.le_refl _))
          have C9 := fun j => Lib.hid (C9.out (w8.drewN j) ((HGr.out.below hb8 (by omega)).drewN j) (show w1.heap.size ≤ w8.heap.size by omega) (HN8.out.drewN j) (show wr.heap.size ≤ w8.heap.size by omega))
          have hR0i : (0 : Int) < (R.length : Int) := by omega
          have hxx : (x != x) = false := by simp
          clear hr8 q8 hb8 C8
          go_wp2
          go_quiet (fail)
          go_wp2_with fail
          refine ((C9 _).out).mono ?_
          rintro e w9 ⟨⟨A9, c9, rfl, ho9⟩, hb9⟩
          have s9 : w8.heap.size ≤ w9.heap.size := hb9.size
          have HN9 := Lib.hid (ho9.ri.more (lo' := W5.heap.size) (show W5.heap.size ≤ w8.heap.size by omega) (Nat.le_refl _))
          have HB9 := Lib.hid ((HB8.out.drewN _).trans (hb9.mono (show W6.heap.size ≤ w8.heap.size by omega)))
          clear ho9 hb9 C9
          go_wp2
          go_roundw
          case rel => exact ⟨k + 1, A9, c9, FL, by go_num, rfl, by omega, by rw [HF4.out, HNL.out], HF5.out, HM2.out, HN9.out, HB9.out⟩
          case measure => simp [intOf]; omega
        · have heq : ((now.length : Int) == (g.length : Int)) = true := by rw [beq_iff_eq]; have := HNL.out; omega
          go_wp2
          go_ret
          exact ⟨rfl, HB5.out.trans ((HB6.out.trans (HBR.out.mono hs6)).mono (Nat.le_trans s1 hs5))⟩
end Go.Proofs.Ytcddjgiclnnilab
