/-
  THE WALK OF laws.FnStaleTasksDone.
-/
import Derived.Test.YtggekdohcancbaaK17
import Derived.Test.YtggekdohcancbaaX13
import Derived.Test.YtggekdohcancbaaW91
import Derived.Test.YtggekdohcancbaaMath72
import Derived.Test.YtggekdohcancbaaL1
import Derived.Test.YtggekdohcancbaaRI
import Derived.Test.YtggekdohcancbaaK7
namespace Go.Proofs.Ytggekdohcancbaa
open Go.RowKit
set_option maxRecDepth 20000 in
set_option maxHeartbeats 6400000 in
theorem fnStaleTasksDone_walk (A : Option Addr) (c : Nat) (l : List Int) (w : World) (hb : RB w 0 w.heap.size A l) (hlc : l.length ≤ c ∧ c ≤ maxLen) :
    Calls Try.prog 5 #[.slice A l.length c] w fun e w' => e = .returned (.bool true) ∧ Below w.heap.size w w' := by
  have hl63 : l.length ≤ 9223372036854775807 := by have := hlc.2; unfold maxLen at this; omega
  by_cases hbig : 1048576 < l.length
  · go_enter Try.func5, Try.ntmps5
    go_wp2
    go_ret
    exact ⟨rfl, Below.refl _ _⟩
  · have C1 := Lib.hid (DrawStaleTasks_any A c l w hb hlc.1 hlc.2)
    clear hb
    go_enter Try.func5, Try.ntmps5
    go_wp2_with fail
    refine (C1.out).mono ?_
    rintro e w1 ⟨⟨A1, c1, g, A0, c0, d, rfl, hg, hg16, hgc, hcm, hd, hd100, hdc, hdm⟩, hb1⟩
    have HG := Lib.hid hg
    have HD := Lib.hid hd
    have s1 := hb1.size
    have hl9 : g.length ≤ 9223372036854775807 := by omega
    have hd9 : d.length ≤ 9223372036854775807 := by omega
    obtain ⟨L, hL⟩ : ∃ L, L = Bs.staleL g d := ⟨_, rfl⟩
    have c2 := StaleTasks_any A1 c1 g A0 c0 d w.heap.size w1.heap.size w.heap.size w1.heap.size w1 HG.out (Nat.le_refl _) HD.out (Nat.le_refl _) hl9 hd9
    have hlen : L.length ≤ 1000 := by rw [hL]; exact StaleTasks_len100 g d (by omega) (by omega)
    rw [← hL] at c2
    have C2 := Lib.hid c2
    have CS := Lib.hid (fun w2 hg hd hs => StaleTasksS_any A1 c1 g A0 c0 d w.heap.size w1.heap.size w.heap.size w1.heap.size w2 hg hs hd hs hl9 hd9)
    rw [← hL] at CS
    have HL := Lib.hid hL
    have HB1 := Lib.hid hb1
    clear C1 hg hd hL c2 hb1
    go_wp2_with fail
    refine (C2.out).mono ?_
    rintro e w2 hr2
    obtain ⟨A2, c2, rfl, q2, hb2, hlc2, hcm2⟩ := hr2.ri
    have s2 := hb2.size
    have HQ2 := Lib.hid q2
    have HG2 := Lib.hid (HG.out.below hb2 (Nat.le_refl _))
    have HD2 := Lib.hid (HD.out.below hb2 (Nat.le_refl _))
    have HB2 := Lib.hid (HB1.out.trans (hb2.mono s1))
    have C3 := Lib.hid (CS.out w2 HG2.out HD2.out s2)
    clear hr2 q2 hb2 C2 HG HD HB1
    go_wp2_with fail
    refine (C3.out).mono ?_
    rintro e w3 hr3
    obtain ⟨A3, c3, rfl, q3, hb3, hlc3, hcm3⟩ := hr3.ri
    have s3 := hb3.size
    have C4 := Lib.hid (equalInts_same A2 c2 A3 c3 L _ _ _ _ w3 (HQ2.out.below hb3 (Nat.le_refl _)) q3 (by omega))
    have HG3 := Lib.hid (HG2.out.below hb3 s2)
    have HD3 := Lib.hid (HD2.out.below hb3 s2)
    have HQ3 := Lib.hid (HQ2.out.below hb3 (Nat.le_refl _))
    have HB3 := Lib.hid (HB2.out.trans (hb3.mono (Nat.le_trans s1 s2)))
    clear hr3 q3 hb3 C3 HQ2 HB2 HG2 HD2
    go_wp2_with fail
    refine (C4.out).mono ?_
    rintro e w4 ⟨rfl, n, rfl⟩
    clear C4
    obtain ⟨W3, rfl⟩ : ∃ W3, W3 = w3 := ⟨_, rfl⟩
    have hs23 : w2.heap.size ≤ (W3.drewN n).heap.size := s3
    have hs3 : w1.heap.size ≤ (W3.drewN n).heap.size := Nat.le_trans s2 s3
    by_cases h0 : L.length = 0
    · have hq0 : ((L.length : Int) == 0) = true := by simp [h0]
      clear h0 HL
      have hsA : w1.heap.size ≤ (W3.drewN n).heap.size := hs3
      go_wp2_with fail
      refine (CS.out (W3.drewN n) (HG3.out.drewN n) (HD3.out.drewN n) hsA).mono ?_
      rintro e wA hrA
      obtain ⟨AA, cA, rfl, qA, hbA, _, _⟩ := hrA.ri
      have sA := hbA.size
      have CB := Lib.hid (equalInts_same A2 c2 AA cA L _ _ _ _ wA ((HQ3.out.drewN n).below hbA (by first | exact hsA | omega)) qA (by omega))
      have HBA := Lib.hid ((HB3.out.drewN n).trans (hbA.mono (Nat.le_trans s1 hsA)))
      clear hrA qA hbA
      go_wp2_with fail
      refine (CB.out).mono ?_
      rintro e wB ⟨rfl, nB, rfl⟩
      go_wp2
      go_ret
      exact ⟨rfl, HBA.out.drewN _⟩
    · have hq0 : ((L.length : Int) == 0) = false := by rw [beq_eq_false_iff_ne]; omega
      have hok := sta_can HL.out h0
      have hLC := sta_is HL.out hok
      have h8 := Bs.fine_len (valid_fine (Bs.staOk_iff.1 hok).1)
      have HLC := Lib.hid (fun i (hi : i < g.length) => show L.contains (i : Int) = Bs.stB g d i from by rw [hLC, Bs.stale_has hi])
      have hvd := Bs.sta_done hok
      have hg4 := HG3.out.drewN n
      have hq4 := HQ3.out.drewN n
      have hb4 := HB3.out.drewN n
      generalize W3.drewN n = W4 at *
      have CV := Lib.hid (fun A5 c5 (P : List Int) W (hb : Below w1.heap.size W4 W) (hr : RI W W4.heap.size W.heap.size A5 P) (hP : P.length ≤ 8) => ValidDone_any A1 c1 g A5 c5 P w.heap.size w1.heap.size W4.heap.size W.heap.size W (hg4.below hb (Nat.le_refl _)) (Nat.le_trans hs3 hb.size) hr (Nat.le_refl _) hl9 (by omega))
      have CL := Lib.hid (fun z W (hb : Below W4.heap.size W4 W) => lisIn_any A2 c2 L z _ _ W (hq4.below hb hs23) (by omega))
      have HB4 := Lib.hid hb4
      have s4 := hb4.size
      have hPS := fun k => Bs.pick_snoc k (fun i => !Bs.stB g d i)
      have hPK := fun k => Bs.pick_skip k (fun i => !Bs.stB g d i)
      have hPL := fun k => Bs.pick_len k (fun i => !Bs.stB g d i)
      have HPS := Lib.hid hPS
      have HPK := Lib.hid hPK
      have HPL := Lib.hid hPL
      have HVD := Lib.hid hvd
      have HO0 := Lib.hid (OI.new W4 W4.heap.size (Nat.le_refl _))
      have HBE := Lib.hid (Below.alloc (Below.refl W4.heap.size W4) (Nat.le_refl _) (.cells #[] 3))
      clear HL h0 hok hLC hg4 hq4 hb4 CS HG3 HD3 HQ3 HB3 hPS hPK hPL hvd
      generalize hst : (fun i => !Bs.stB g d i) = np at *
      clear hst
      go_wp2
      go_loopw [6, 7] (fun v i wr => ∃ (k : Nat) (A5 : Option Addr) (c5 : Nat), k ≤ g.length ∧ i = .int .i64 k ∧ v = .slice A5 (Bs.pick k np).length c5 ∧ OI wr W4.heap.size A5 c5 (Bs.pick k np) ∧ Below W4.heap.size W4 wr) (fun _ i _ => g.length - (intOf i).toNat)
      case atStart => exact ⟨0, _, _, Nat.zero_le _, rfl, rfl, HO0.out, HBE.out⟩
      case round =>
        obtain ⟨k, A5, c5, hk, rfl, rfl, ho, hb⟩ := hrel
        have sr := hb.size
        have hpl := HPL.out k
        by_cases hlt : k < g.length
        · have c6 := CL.out (k : Int) wr hb
          rw [HLC.out k hlt] at c6
          have hps := HPS.out k
          have hpk := HPK.out k
          have HO := Lib.hid ho
          have HBk := Lib.hid hb
          clear ho hb HPS HPK HPL HLC CL CV
          generalize Bs.pick k np = P at *
          cases hs : Bs.stB g d k
          · rw [hs] at c6 hps
            have C6 := Lib.hid c6
            have HP := Lib.hid (hps rfl)
            clear c6 hps hpk hs
            go_wp2_with (first | (go_at_call 19; (with_reducible refine (C6.out).mono ?_); rintro e w' ⟨rfl, rfl⟩) | (at_builtin; go_loud (refine push_int rfl _ _ rfl W4.heap.size A5 c5 P (k : Int) rfl (HO.out.alloc _) (World.heap _).size 1 rfl (by simp [go_sem]) (by omega) (by simp; omega) ?_; intro A7 c7 w7 ho7 hb7 _)))
            go_roundw
            case rel => exact ⟨k + 1, A7, c7, by omega, by go_num, by rw [HP.out, List.length_append]; rfl, by rw [HP.out]; exact ho7, (HBk.out.alloc sr _).trans hb7⟩
            case measure => simp [intOf]; omega
          · rw [hs] at c6 hpk
            have C6 := Lib.hid c6
            have HP := Lib.hid (hpk rfl)
            clear c6 hps hpk hs
            go_wp2_with (go_at_call 19; (with_reducible refine (C6.out).mono ?_); rintro e w' ⟨rfl, rfl⟩)
            go_roundw
            case rel => exact ⟨k + 1, A5, c5, by omega, by go_num, by rw [HP.out], by rw [HP.out]; exact HO.out, HBk.out⟩
            case measure => simp [intOf]; omega
        · obtain rfl : k = g.length := by omega
          have hbw : Below w1.heap.size W4 wr := hb.mono hs3
          have c6 := CV.out A5 c5 (Bs.pick g.length np) wr hbw ho.ri (by omega)
          rw [HVD.out] at c6
          have C6 := Lib.hid c6
          have HBF := Lib.hid (HB4.out.trans (hbw.mono s1))
          have sF := HBF.out.size
          clear c6 ho hb hbw HVD
          go_wp2_with fail
          with_reducible refine (C6.out).mono ?_
          rintro e w7 ⟨rfl, hb7⟩
          have HB7 := Lib.hid (HBF.out.trans (hb7.mono sF))
          clear hb7
          go_wp2
          go_ret
          exact ⟨rfl, HB7.out⟩
end Go.Proofs.Ytggekdohcancbaa
