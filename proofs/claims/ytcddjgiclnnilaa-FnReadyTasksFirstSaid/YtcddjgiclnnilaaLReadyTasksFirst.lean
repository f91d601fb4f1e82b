/-
  THE WALK OF laws.FnReadyTasksFirst.
-/
import Derived.Test.YtcddjgiclnnilaaX6
import Derived.Test.YtcddjgiclnnilaaRI
namespace Go.Proofs.Ytcddjgiclnnilaa
open Go.RowKit
set_option maxRecDepth 20000 in
set_option maxHeartbeats 6400000 in
theorem fnReadyTasksFirst_walk (A : Option Addr) (c : Nat) (l : List Int) (w : World) (hb : RB w 0 w.heap.size A l) (hlc : l.length ≤ c ∧ c ≤ maxLen) :
    Calls Try.prog 5 #[.slice A l.length c] w fun e w' => e = .returned (.bool true) ∧ Below w.heap.size w w' := by
  have hl63 : l.length ≤ 9223372036854775807 := by have := hlc.2; unfold maxLen at this; omega
  by_cases hbig : 1048576 < l.length
  · go_enter Try.func5, Try.ntmps5
    go_wp2
    go_ret
    exact ⟨rfl, Below.refl _ _⟩
  · have C1 := Lib.hid (DrawReadyTasks_any A c l w hb hlc.1 hlc.2)
    clear hb
    go_enter Try.func5, Try.ntmps5
    go_wp2_with fail
    refine (C1.out).mono ?_
    rintro e w1 ⟨⟨A1, c1, g, A0, c0, d, rfl, hg, hg16, hgc, hcm, hd, hd100, hdc, hdm⟩, hb1⟩
    have HG := Lib.hid hg
    have HD := Lib.hid hd
    have s1 := hb1.size
    have hl9 : g.length ≤ 9223372036854775807 := by omega
    have hd9 : d.length ≤ 9223372036854775807 := by omega
    obtain ⟨L, hL⟩ : ∃ L, L = Bs.readyL g d := ⟨_, rfl⟩
    have c2 := ReadyTasks_any A1 c1 g A0 c0 d w.heap.size w1.heap.size w.heap.size w1.heap.size w1 HG.out (Nat.le_refl _) HD.out (Nat.le_refl _) hl9 hd9
    have hlen : L.length ≤ 1000 := by rw [hL]; exact ReadyTasks_len100 g d (by omega) (by omega)
    rw [← hL] at c2
    have C2 := Lib.hid c2
    have CS := Lib.hid (fun w2 hg hd hs => ReadyTasksS_any A1 c1 g A0 c0 d w.heap.size w1.heap.size w.heap.size w1.heap.size w2 hg hs hd hs hl9 hd9)
    rw [← hL] at CS
    have HL := Lib.hid hL
    have HB1 := Lib.hid hb1
    clear C1 hg hd hL c2 hb1
    go_wp2_with fail
    refine (C2.out).mono ?_
    rintro e w2 hr2
    obtain ⟨A2, c2, rfl, q2, hb2, hlc2, hcm2⟩ := hr2.ri
    have s2 := hb2.size
    have HQ2 := Lib.hid q2
    have HG2 := Lib.hid (HG.out.below hb2 (Nat.le_refl _))
    have HD2 := Lib.hid (HD.out.below hb2 (Nat.le_refl _))
    have HB2 := Lib.hid (HB1.out.trans (hb2.mono s1))
    have C3 := Lib.hid (CS.out w2 HG2.out HD2.out s2)
    clear hr2 q2 hb2 C2 HG HD HB1
    go_wp2_with fail
    refine (C3.out).mono ?_
    rintro e w3 hr3
    obtain ⟨A3, c3, rfl, q3, hb3, hlc3, hcm3⟩ := hr3.ri
    have s3 := hb3.size
    have C4 := Lib.hid (equalInts_same A2 c2 A3 c3 L _ _ _ _ w3 (HQ2.out.below hb3 (Nat.le_refl _)) q3 (by omega))
    have HG3 := Lib.hid (HG2.out.below hb3 s2)
    have HD3 := Lib.hid (HD2.out.below hb3 s2)
    have HQ3 := Lib.hid (HQ2.out.below hb3 (Nat.le_refl _))
    have HB3 := Lib.hid (HB2.out.trans (hb3.mono (Nat.le_trans s1 s2)))
    clear hr3 q3 hb3 C3 HQ2 HB2 HG2 HD2
    go_wp2_with fail
    refine (C4.out).mono ?_
    rintro e w4 ⟨rfl, n, rfl⟩
    clear C4
    obtain ⟨W3, rfl⟩ : ∃ W3, W3 = w3 := ⟨_, rfl⟩
    have hs3 : w1.heap.size ≤ (W3.drewN n).heap.size := Nat.le_trans s2 s3
    have C5 := ValidGraph_any A1 c1 g w.heap.size w1.heap.size (W3.drewN n) (HG3.out.drewN n) hs3 hl9
    obtain ⟨hv, hhv⟩ : ∃ hv, hv = Bs.valid g := ⟨_, rfl⟩
    rw [← hhv] at C5
    have HHV := Lib.hid hhv
    have C5 := Lib.hid C5
    clear hhv
    go_wp2_with fail
    refine (C5.out).mono ?_
    rintro e w5 ⟨rfl, hb5⟩
    have s5 := hb5.size
    have HG5 := Lib.hid ((HG3.out.drewN n).below hb5 hs3)
    have HD5 := Lib.hid ((HD3.out.drewN n).below hb5 hs3)
    have HQ5 := Lib.hid ((HQ3.out.drewN n).below hb5 s3)
    have HB5 := Lib.hid (((HB3.out.drewN n).trans (hb5.mono (Nat.le_trans (Nat.le_trans s1 s2) s3))))
    clear hb5 C5 HG3 HD3 HQ3 HB3
    obtain ⟨W5, rfl⟩ : ∃ W5, W5 = w5 := ⟨_, rfl⟩
    have hs5 : w1.heap.size ≤ W5.heap.size := Nat.le_trans hs3 s5
    have hs25 : w2.heap.size ≤ W5.heap.size := Nat.le_trans s3 s5
    cases hv
    · clear HHV HL
      have hsA : w1.heap.size ≤ (W5).heap.size := hs5
      go_wp2_with fail
      refine (CS.out (W5) HG5.out HD5.out hsA).mono ?_
      rintro e wA hrA
      obtain ⟨AA, cA, rfl, qA, hbA, _, _⟩ := hrA.ri
      have sA := hbA.size
      have CB := Lib.hid (equalInts_same A2 c2 AA cA L _ _ _ _ wA (HQ5.out.below hbA (by first | exact hsA | omega)) qA (by omega))
      have HBA := Lib.hid (HB5.out.trans (hbA.mono (Nat.le_trans s1 hsA)))
      clear hrA qA hbA
      go_wp2_with fail
      refine (CB.out).mono ?_
      rintro e wB ⟨rfl, nB, rfl⟩
      go_wp2
      go_ret
      exact ⟨rfl, HBA.out.drewN _⟩
    · obtain ⟨R, hR⟩ : ∃ R, R = Bs.readyC g [] := ⟨_, rfl⟩
      have hRL : Bs.readyL g [] = R := by unfold Bs.readyL; rw [Bs.vdone_nil, ← HHV.out, hR]; rfl
      have HX := Lib.hid (fun i (hi : i < g.length) => show R.contains (i : Int) = ((g[i].needs.length : Int) == 0) from by rw [hR]; exact Bs.first_law hi)
      have hrl : R.length ≤ 1000 := by rw [hR]; have := Bs.readyC_len g []; omega
      have c6 := ReadyTasks_any A1 c1 g none 0 [] w.heap.size w1.heap.size 0 0 W5 HG5.out hs5 RI.nil (Nat.zero_le _) hl9 (by simp)
      rw [hRL] at c6
      have C6 := Lib.hid c6
      clear HHV HL CS c6 hRL hR
      go_wp2_with fail
      refine (C6.out).mono ?_
      rintro e w6 hr6
      obtain ⟨A6, c6, rfl, q6, hb6, hlc6, hcm6⟩ := hr6.ri
      have HG6 := Lib.hid (HG5.out.below hb6 hs5)
      have HB6 := Lib.hid (HB5.out.trans (hb6.mono (Nat.le_trans s1 hs5)))
      have HR6 := Lib.hid q6
      clear hr6 q6 hb6 C6 HG5 HD5 HQ5 HB5
      obtain ⟨W6, rfl⟩ : ∃ W6, W6 = w6 := ⟨_, rfl⟩
      go_wp2
      go_loopw [7] (fun i wr => ∃ k : Nat, i = .int .i64 (k : Int) ∧ ∃ n, wr = W6.drewN n) (fun i _ => g.length + 1 - (intOf i).toNat)
      case atStart => exact ⟨0, rfl, 0, rfl⟩
      case round =>
        obtain ⟨i, rfl, m, rfl⟩ := hrel
        by_cases hi : i < g.length
        · obtain ⟨b1, o1, N, cN, rfl, _, _, k0, k1, k2, k3, hnc, hcN, hN⟩ := HG6.out i hi
          have hx := HX.out i hi
          have d2 : (i : Int) < (g.length : Int) := by omega
          have C7 := fun j => lisIn_quiet2 A6 c6 R (i : Int) _ _ W6 HR6.out (by omega) m j
          have C8 := lisIn_any A6 c6 R (i : Int) _ _ (W6.drewN m) HR6.out (by omega)
          generalize R.contains (i : Int) = bu at *
          have C7 := fun j => Lib.hid (C7 j)
          have C8 := Lib.hid C8
          replace hx := hx.symm
          clear k0 k2 k3 hN hnc
          cases bu
          all_goals
            go_wp2
            first
              | (go_quiet ((go_at_call 24; exact (C7 _).out)); go_wp2; go_roundw; (case rel => exact ⟨i + 1, by go_num, _, by first | rfl | rw [World.drewN_drewN]⟩); (case measure => simp [intOf]; omega))
              | (refine (C8.out).mono ?_; rintro e w8 ⟨rfl, rfl⟩; go_wp2; go_roundw; (case rel => exact ⟨i + 1, by go_num, _, by first | rfl | rw [World.drewN_drewN]⟩); (case measure => simp [intOf]; omega))
        · go_wp2
          go_ret
          exact ⟨rfl, HB6.out.drewN _⟩
end Go.Proofs.Ytcddjgiclnnilaa
