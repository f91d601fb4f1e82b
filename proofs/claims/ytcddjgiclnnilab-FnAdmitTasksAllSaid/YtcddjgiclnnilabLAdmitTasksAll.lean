/-
  THE WALK OF laws.FnAdmitTasksAll.
-/
import Derived.Test.YtcddjgiclnnilabX7
import Derived.Test.YtcddjgiclnnilabRI
import Derived.Test.YtcddjgiclnnilabW41
import Derived.Test.YtcddjgiclnnilabR8
import Derived.Test.YtcddjgiclnnilabMath33
import Derived.Test.YtcddjgiclnnilabMath34
import Derived.Test.YtcddjgiclnnilabMath35
namespace Go.Proofs.Ytcddjgiclnnilab
open Go.RowKit
set_option maxRecDepth 20000 in
set_option maxHeartbeats 6400000 in
theorem fnAdmitTasksAll_walk (A : Option Addr) (c : Nat) (l : List Int) (w : World) (hb : RB w 0 w.heap.size A l) (hlc : l.length ≤ c ∧ c ≤ maxLen) :
    Calls Try.prog 3 #[.slice A l.length c] w fun e w' => e = .returned (.bool true) ∧ Below w.heap.size w w' := by
  have hl63 : l.length ≤ 9223372036854775807 := by have := hlc.2; unfold maxLen at this; omega
  by_cases hbig : 1048576 < l.length
  · go_enter Try.func3, Try.ntmps3
    go_wp2
    go_ret
    exact ⟨rfl, Below.refl _ _⟩
  · have C1 := Lib.hid (DrawAdmitTasks_any A c l w hb hlc.1 hlc.2)
    clear hb
    go_enter Try.func3, Try.ntmps3
    go_wp2_with fail
    refine (C1.out).mono ?_
    rintro e w1 ⟨⟨A1, c1, g, Am, cm, m, Ar, cr, r, Al, cl, q, wk, rfl, hg, hg16, hgc, hcm, hm, hm100, hmc, hmm, hr, hr100, hrc, hrm, hq, hq100, hqc, hqm⟩, hb1⟩
    have HG := Lib.hid hg
    have HM := Lib.hid hm
    have HR := Lib.hid hr
    have HLI := Lib.hid hq
    have s1 := hb1.size
    have hl9 : g.length ≤ 9223372036854775807 := by omega
    have hm9 : m.length ≤ 9223372036854775807 := by omega
    have hr9 : r.length ≤ 9223372036854775807 := by omega
    have hq9 : q.length ≤ 9223372036854775807 := by omega
    have hcl9 : cl ≤ 9223372036854775807 := by unfold maxLen at hqm; omega
    obtain ⟨L, hL⟩ : ∃ L, L = Bs.admL g m r q wk := ⟨_, rfl⟩
    have c2 := AdmitTasks_any A1 c1 g Am cm m Ar cr r Al cl q wk w.heap.size w1.heap.size w.heap.size w1.heap.size w.heap.size w1.heap.size w.heap.size w1.heap.size w1 HG.out (Nat.le_refl _) HM.out (Nat.le_refl _) HR.out (Nat.le_refl _) HLI.out (Nat.le_refl _) hl9 hm9 hr9 hq9
    have hlen : L.length ≤ 1000 := by rw [hL]; have := Bs.admL_len g m r q wk; omega
    rw [← hL] at c2
    have C2 := Lib.hid c2
    have CS := Lib.hid (fun w2 hg hm hr hq hs => AdmitTasksS_any A1 c1 g Am cm m Ar cr r Al cl q wk w.heap.size w1.heap.size w.heap.size w1.heap.size w.heap.size w1.heap.size w.heap.size w1.heap.size w2 hg hs hm hs hr hs hq hs hl9 hm9 hr9 hqc hcl9)
    rw [← hL] at CS
    have HL := Lib.hid hL
    have HB1 := Lib.hid hb1
    clear C1 hg hm hr hq hL c2 hb1
    go_wp2_with fail
    with_reducible refine (C2.out).mono ?_
    rintro e w2 hr2
    obtain ⟨A2, c2, rfl, q2, hb2, hlc2, hcm2⟩ := hr2.ri
    have s2 := hb2.size
    have HQ2 := Lib.hid q2
    have HG2 := Lib.hid (HG.out.below hb2 (Nat.le_refl _))
    have HM2 := Lib.hid (HM.out.below hb2 (Nat.le_refl _))
    have HR2 := Lib.hid (HR.out.below hb2 (Nat.le_refl _))
    have HI2 := Lib.hid (HLI.out.below hb2 (Nat.le_refl _))
    have HB2 := Lib.hid (HB1.out.trans (hb2.mono s1))
    have C3 := Lib.hid (CS.out w2 HG2.out HM2.out HR2.out HI2.out s2)
    clear hr2 q2 hb2 C2 HG HM HR HLI HB1
    go_wp2_with fail
    with_reducible refine (C3.out).mono ?_
    rintro e w3 hr3
    obtain ⟨A3, c3, rfl, q3, hb3, hlc3, hcm3⟩ := hr3.ri
    have s3 := hb3.size
    have C4 := Lib.hid (equalInts_same A2 c2 A3 c3 L _ _ _ _ w3 (HQ2.out.below hb3 (Nat.le_refl _)) q3 (by omega))
    have HG3 := Lib.hid (HG2.out.below hb3 s2)
    have HM3 := Lib.hid (HM2.out.below hb3 s2)
    have HR3 := Lib.hid (HR2.out.below hb3 s2)
    have HI3 := Lib.hid (HI2.out.below hb3 s2)
    have HQ3 := Lib.hid (HQ2.out.below hb3 (Nat.le_refl _))
    have HB3 := Lib.hid (HB2.out.trans (hb3.mono (Nat.le_trans s1 s2)))
    clear hr3 q3 hb3 C3 HQ2 HB2 HG2 HM2 HR2 HI2
    go_wp2_with fail
    with_reducible refine (C4.out).mono ?_
    rintro e w4 ⟨rfl, n, rfl⟩
    clear C4
    obtain ⟨W3, rfl⟩ : ∃ W3, W3 = w3 := ⟨_, rfl⟩
    have hs3 : w1.heap.size ≤ (W3.drewN n).heap.size := Nat.le_trans s2 s3
    by_cases h0 : L.length = 0
    · have hq0 : ((L.length : Int) == 0) = true := by simp [h0]
      clear h0 HL
      have hsA : w1.heap.size ≤ (W3.drewN n).heap.size := hs3
      have hsB : w2.heap.size ≤ (W3.drewN n).heap.size := by first | exact s3 | exact hs25 | omega
      go_wp2_with fail
      with_reducible refine (CS.out (W3.drewN n) (HG3.out.drewN n) (HM3.out.drewN n) (HR3.out.drewN n) (HI3.out.drewN n) hsA).mono ?_
      rintro e wA hrA
      obtain ⟨AA, cA, rfl, qA, hbA, _, _⟩ := hrA.ri
      have sA := hbA.size
      have CB := Lib.hid (equalInts_same A2 c2 AA cA L _ _ _ _ wA ((HQ3.out.drewN n).below hbA (by first | exact hsA | exact hsB | omega)) qA (by omega))
      have HBA := Lib.hid ((HB3.out.drewN n).trans (hbA.mono (Nat.le_trans s1 hsA)))
      clear hrA qA hbA
      go_wp2_with fail
      with_reducible refine (CB.out).mono ?_
      rintro e wB ⟨rfl, nB, rfl⟩
      go_wp2
      go_ret
      exact ⟨rfl, HBA.out.drewN _⟩
    · have hq0 : ((L.length : Int) == 0) = false := by rw [beq_eq_false_iff_ne]; omega
      have hw : IntKind.i64.wrap ((r.length : Int) + (L.length : Int)) = (r.length : Int) + (L.length : Int) := IntWalk.i64_in _ ⟨by omega, by omega⟩
      by_cases hwk : (r.length : Int) + (L.length : Int) = wk
      · have hq2 : ((r.length : Int) + (L.length : Int) == wk) = true := by rw [beq_iff_eq]; exact hwk
        clear h0 HL hwk
        have hsA : w1.heap.size ≤ (W3.drewN n).heap.size := hs3
        have hsB : w2.heap.size ≤ (W3.drewN n).heap.size := by first | exact s3 | exact hs25 | omega
        go_wp2_with fail
        with_reducible refine (CS.out (W3.drewN n) (HG3.out.drewN n) (HM3.out.drewN n) (HR3.out.drewN n) (HI3.out.drewN n) hsA).mono ?_
        rintro e wA hrA
        obtain ⟨AA, cA, rfl, qA, hbA, _, _⟩ := hrA.ri
        have sA := hbA.size
        have CB := Lib.hid (equalInts_same A2 c2 AA cA L _ _ _ _ wA ((HQ3.out.drewN n).below hbA (by first | exact hsA | exact hsB | omega)) qA (by omega))
        have HBA := Lib.hid ((HB3.out.drewN n).trans (hbA.mono (Nat.le_trans s1 hsA)))
        clear hrA qA hbA
        go_wp2_with fail
        with_reducible refine (CB.out).mono ?_
        rintro e wB ⟨rfl, nB, rfl⟩
        go_wp2
        go_ret
        exact ⟨rfl, HBA.out.drewN _⟩
      · have hq2 : ((r.length : Int) + (L.length : Int) == wk) = false := by rw [beq_eq_false_iff_ne]; exact hwk
        have HALL := Lib.hid (Bs.adm_all HL.out h0 hwk)
        have CR := Lib.hid (fun A7 c7 (q : List Int) lo' hi' W hg hs hm hr hh hq => RunsTogether_any A1 c1 g Am cm m A7 c7 q w.heap.size w1.heap.size w.heap.size w1.heap.size lo' hi' W hg hs hm hs hr hh hl9 hm9 hq)
        obtain ⟨W4, hW4⟩ : ∃ W4, W4 = W3.drewN n := ⟨_, rfl⟩
        have HG4 := Lib.hid (show RG W4 w.heap.size w1.heap.size A1 g from by rw [hW4]; exact HG3.out.drewN n)
        have HM4 := Lib.hid (show RI W4 w.heap.size w1.heap.size Am m from by rw [hW4]; exact HM3.out.drewN n)
        have HR4 := Lib.hid (show RI W4 w.heap.size w1.heap.size Ar r from by rw [hW4]; exact HR3.out.drewN n)
        have HI4 := Lib.hid (show RI W4 w.heap.size w1.heap.size Al q from by rw [hW4]; exact HI3.out.drewN n)
        have HQ4 := Lib.hid (show RI W4 w1.heap.size w2.heap.size A2 L from by rw [hW4]; exact HQ3.out.drewN n)
        have HB4 := Lib.hid (show Below w.heap.size w W4 from by rw [hW4]; exact HB3.out.drewN n)
        have hs4 : w1.heap.size ≤ W4.heap.size := by rw [hW4]; exact hs3
        have hs24 : w2.heap.size ≤ W4.heap.size := by rw [hW4]; exact s3
        rw [← hW4]
        clear h0 HL CS hW4 HG3 HM3 HR3 HI3 HQ3 HB3 hwk
        go_wp2
        clear hw
        go_loopw [9, 10, 11] (fun i _ _ wr => ∃ k : Nat, i = .int .i64 (k : Int) ∧ Below W4.heap.size W4 wr) (fun i _ _ _ => q.length + 1 - (intOf i).toNat)
        case atStart => exact ⟨0, rfl, Below.refl _ _⟩
        case round =>
          obtain ⟨i, rfl, hbo⟩ := hrel
          have so := hbo.size
          have HBo := Lib.hid hbo
          clear hbo
          obtain ⟨WO, rfl⟩ : ∃ WO, WO = wr := ⟨_, rfl⟩
          by_cases hi : i < q.length
          · have hxa := HALL.out i hi
            obtain ⟨bq, oq, rfl, _, _, _⟩ := HI4.out i hi
            have i0 : (0 : Int) ≤ (i : Int) := by omega
            have i1 : (i : Int) < (q.length : Int) := by omega
            have HCQ := Lib.hid (fun (W : World) (hb : Below W4.heap.size W4 W) => show W.cell? ⟨bq, oq + i, none⟩ = some (.int .i64 q[i]) from by
              obtain ⟨b', o', he, _, _, hc⟩ := (HI4.out.below hb hs4) i hi
              cases he
              exact hc)
            generalize q[i] = x at *
            have HXA := Lib.hid hxa
            clear hxa
            go_wp2
            go_loopw [10, 11] (fun s i wr => ∃ (k : Nat) (A3 : Option Addr) (c3 : Nat), k ≤ g.length ∧ i = .int .i64 (k : Int) ∧ s = .slice A3 (Bs.nowX r L x k).length c3 ∧ (Bs.nowX r L x k).length ≤ k ∧ OI wr W4.heap.size A3 c3 (Bs.nowX r L x k) ∧ Below W4.heap.size W4 wr) (fun _ i _ => g.length - (intOf i).toNat)
            case atStart => exact ⟨0, _, _, Nat.zero_le _, rfl, rfl, Nat.zero_le _, OI.new _ _ (by omega), HBo.out.alloc so _⟩
            case round =>
              obtain ⟨k, A3', c3', hk, rfl, rfl, hnl, ho, hb⟩ := hrel
              have sr := hb.size
              have HBr := Lib.hid hb
              have HOr := Lib.hid ho
              have hsr : w1.heap.size ≤ wr.heap.size := by omega
              have HGr := Lib.hid (HG4.out.below hb hs4)
              have HMr := Lib.hid (HM4.out.below hb hs4)
              have HRr := Lib.hid (HR4.out.below hb hs4)
              have HQr := Lib.hid (HQ4.out.below hb hs24)
              have hcx := HCQ.out wr hb
              clear hb ho
              by_cases hlt : k < g.length
              · have e1 : decide ((k : Int) < (g.length : Int)) = true := by simp; omega
                have c7 := lisIn_any Ar cr r (k : Int) _ _ wr HRr.out hr9
                have c8 := lisIn_any A2 c2 L (k : Int) _ _ wr HQr.out (by omega)
                have hps := Bs.nowX_succ r L x k
                generalize r.contains (k : Int) = b1 at *
                generalize L.contains (k : Int) = b2 at *
                have C7 := Lib.hid c7
                have C8 := Lib.hid c8
                generalize hb3 : (x == (k : Int)) = b3 at *
                have HPS := Lib.hid hps
                clear c7 c8 hps HXA CR HALL
                generalize Bs.nowX r L x k = N at *
                cases b1
                · cases b2
                  · cases b3
                    · have HN := Lib.hid (show Bs.nowX r L x (k + 1) = N from HPS.out)
                      go_wp2_with fail
                      with_reducible refine (C7.out).mono ?_
                      rintro e w7 ⟨rfl, rfl⟩
                      go_wp2_with fail
                      with_reducible refine (C8.out).mono ?_
                      rintro e w8 ⟨rfl, rfl⟩
                      go_wp2
                      go_roundw
                      case rel => exact ⟨k + 1, A3', c3', by omega, by go_num, by rw [HN.out], by rw [HN.out]; omega, by rw [HN.out]; exact HOr.out, HBr.out⟩
                      case measure => simp [intOf]; omega
                    · have HN := Lib.hid (show Bs.nowX r L x (k + 1) = N ++ [(k : Int)] from HPS.out)
                      go_wp2_with fail
                      with_reducible refine (C7.out).mono ?_
                      rintro e w7 ⟨rfl, rfl⟩
                      go_wp2_with fail
                      with_reducible refine (C8.out).mono ?_
                      rintro e w8 ⟨rfl, rfl⟩
                      go_wp2_with (at_builtin; go_loud (refine push_int rfl _ _ rfl W4.heap.size A3' c3' N (k : Int) rfl (HOr.out.alloc _) wr.heap.size 1 rfl (by simp [go_sem]) (by omega) (by simp; omega) ?_; intro A5 c5 w6 ho6 hb6 _; have HO6 := Lib.hid ho6; have HB6 := Lib.hid ((HBr.out.alloc sr _).trans hb6); clear ho6 hb6))
                      go_wp2
                      go_roundw
                      case rel => exact ⟨k + 1, A5, c5, by omega, by go_num, by rw [HN.out, List.length_append]; rfl, by rw [HN.out, List.length_append]; simp; omega, by rw [HN.out]; exact HO6.out, HB6.out⟩
                      case measure => simp [intOf]; omega
                  · have HN := Lib.hid (show Bs.nowX r L x (k + 1) = N ++ [(k : Int)] from by have h := HPS.out; simp only [Bool.false_or, Bool.true_or, if_true] at h; exact h)
                    clear hb3
                    go_wp2_with fail
                    with_reducible refine (C7.out).mono ?_
                    rintro e w7 ⟨rfl, rfl⟩
                    go_wp2_with fail
                    with_reducible refine (C8.out).mono ?_
                    rintro e w8 ⟨rfl, rfl⟩
                    go_wp2_with (at_builtin; go_loud (refine push_int rfl _ _ rfl W4.heap.size A3' c3' N (k : Int) rfl (HOr.out.alloc _) wr.heap.size 1 rfl (by simp [go_sem]) (by omega) (by simp; omega) ?_; intro A5 c5 w6 ho6 hb6 _; have HO6 := Lib.hid ho6; have HB6 := Lib.hid ((HBr.out.alloc sr _).trans hb6); clear ho6 hb6))
                    go_wp2
                    go_roundw
                    case rel => exact ⟨k + 1, A5, c5, by omega, by go_num, by rw [HN.out, List.length_append]; rfl, by rw [HN.out, List.length_append]; simp; omega, by rw [HN.out]; exact HO6.out, HB6.out⟩
                    case measure => simp [intOf]; omega
                · have HN := Lib.hid (show Bs.nowX r L x (k + 1) = N ++ [(k : Int)] from by have h := HPS.out; simp only [Bool.true_or, if_true] at h; exact h)
                  clear hb3
                  go_wp2_with fail
                  with_reducible refine (C7.out).mono ?_
                  rintro e w7 ⟨rfl, rfl⟩
                  go_wp2_with (at_builtin; go_loud (refine push_int rfl _ _ rfl W4.heap.size A3' c3' N (k : Int) rfl (HOr.out.alloc _) wr.heap.size 1 rfl (by simp [go_sem]) (by omega) (by simp; omega) ?_; intro A5 c5 w6 ho6 hb6 _; have HO6 := Lib.hid ho6; have HB6 := Lib.hid ((HBr.out.alloc sr _).trans hb6); clear ho6 hb6))
                  go_wp2
                  go_roundw
                  case rel => exact ⟨k + 1, A5, c5, by omega, by go_num, by rw [HN.out, List.length_append]; rfl, by rw [HN.out, List.length_append]; simp; omega, by rw [HN.out]; exact HO6.out, HB6.out⟩
                  case measure => simp [intOf]; omega
              · have hkg : k = g.length := by omega
                have e1 : decide ((k : Int) < (g.length : Int)) = false := by simp; omega
                have c7 := lisIn_any A2 c2 L x _ _ wr HQr.out (by omega)
                have hxf := HXA.out
                rw [← hkg] at hxf
                generalize L.contains x = b1 at *
                generalize Bs.nowX r L x k = N at *
                have C7 := Lib.hid c7
                have hN9 : N.length ≤ 1000 := by omega
                clear c7 HXA HALL hkg
                cases b1
                · have c9 := CR.out A3' c3' N W4.heap.size wr.heap.size wr HGr.out hsr HMr.out HOr.out.ri (Nat.le_refl _) (by omega)
                  rw [hxf rfl] at c9
                  have C9 := Lib.hid c9
                  clear c9 hxf CR
                  go_wp2_with fail
                  with_reducible refine (C7.out).mono ?_
                  rintro e w7 ⟨rfl, rfl⟩
                  go_wp2_with fail
                  with_reducible refine (C9.out).mono ?_
                  rintro e w8 ⟨rfl, hb8⟩
                  have HB8 := Lib.hid (HBr.out.trans (hb8.mono sr))
                  clear hb8
                  go_wp2
                  go_roundw
                  case rel => exact ⟨i + 1, by go_num, HB8.out⟩
                  case measure => simp [intOf]; omega
                · clear hxf CR
                  go_wp2_with fail
                  with_reducible refine (C7.out).mono ?_
                  rintro e w7 ⟨rfl, rfl⟩
                  go_wp2
                  go_roundw
                  case rel => exact ⟨i + 1, by go_num, HBr.out⟩
                  case measure => simp [intOf]; omega
          · go_wp2
            go_ret
            exact ⟨rfl, HB4.out.trans (HBo.out.mono (Nat.le_trans s1 hs4))⟩
end Go.Proofs.Ytcddjgiclnnilab
