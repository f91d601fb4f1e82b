/-
  THE WALK OF laws.FnWaitsFor.
-/
import Derived.Test.YtcddjgiclnnilaaX6
import Derived.Test.YtcddjgiclnnilaaRI
namespace Go.Proofs.Ytcddjgiclnnilaa
open Go.RowKit
set_option maxRecDepth 20000 in
set_option maxHeartbeats 6400000 in
theorem fnWaitsFor_walk (A : Option Addr) (c : Nat) (l : List Int) (w : World) (hb : RB w 0 w.heap.size A l) (hlc : l.length ≤ c ∧ c ≤ maxLen) :
    Calls Try.prog 9 #[.slice A l.length c] w fun e w' => e = .returned (.bool true) ∧ Below w.heap.size w w' := by
  have hl63 : l.length ≤ 9223372036854775807 := by have := hlc.2; unfold maxLen at this; omega
  by_cases hbig : 1048576 < l.length
  · go_enter Try.func9, Try.ntmps9
    go_wp2
    go_ret
    exact ⟨rfl, Below.refl _ _⟩
  · have C1 := Lib.hid (DrawWaitsFor_any A c l w hb hlc.1 hlc.2)
    clear hb
    go_enter Try.func9, Try.ntmps9
    go_wp2_with fail
    refine (C1.out).mono ?_
    rintro e w1 ⟨⟨A1, c1, g, A0, c0, d, a, rfl, hg, hg16, hgc, hcm, hd, hd100, hdc, hdm⟩, hb1⟩
    have HG := Lib.hid hg
    have HD := Lib.hid hd
    have s1 := hb1.size
    have hl9 : g.length ≤ 9223372036854775807 := by omega
    have hd9 : d.length ≤ 9223372036854775807 := by omega
    obtain ⟨L, hL⟩ : ∃ L, L = Bs.waitsL g d a := ⟨_, rfl⟩
    have c2 := WaitsFor_any A1 c1 g A0 c0 d a w.heap.size w1.heap.size w.heap.size w1.heap.size w1 HG.out (Nat.le_refl _) HD.out (Nat.le_refl _) hl9 hd9
    have hlen : L.length ≤ 1000 := by rw [hL]; exact WaitsFor_len100 g d a (by omega) (by omega)
    rw [← hL] at c2
    have C2 := Lib.hid c2
    have CS := Lib.hid (fun w2 hg hd hs => WaitsForS_any A1 c1 g A0 c0 d a w.heap.size w1.heap.size w.heap.size w1.heap.size w2 hg hs hd hs hl9 hd9)
    rw [← hL] at CS
    have HL := Lib.hid hL
    have HB1 := Lib.hid hb1
    clear C1 hg hd hL c2 hb1
    go_wp2_with fail
    refine (C2.out).mono ?_
    rintro e w2 hr2
    obtain ⟨A2, c2, rfl, q2, hb2, hlc2, hcm2⟩ := hr2.ri
    have s2 := hb2.size
    have HQ2 := Lib.hid q2
    have HG2 := Lib.hid (HG.out.below hb2 (Nat.le_refl _))
    have HD2 := Lib.hid (HD.out.below hb2 (Nat.le_refl _))
    have HB2 := Lib.hid (HB1.out.trans (hb2.mono s1))
    have C3 := Lib.hid (CS.out w2 HG2.out HD2.out s2)
    clear hr2 q2 hb2 C2 HG HD HB1
    go_wp2_with fail
    refine (C3.out).mono ?_
    rintro e w3 hr3
    obtain ⟨A3, c3, rfl, q3, hb3, hlc3, hcm3⟩ := hr3.ri
    have s3 := hb3.size
    have C4 := Lib.hid (equalInts_same A2 c2 A3 c3 L _ _ _ _ w3 (HQ2.out.below hb3 (Nat.le_refl _)) q3 (by omega))
    have HG3 := Lib.hid (HG2.out.below hb3 s2)
    have HD3 := Lib.hid (HD2.out.below hb3 s2)
    have HQ3 := Lib.hid (HQ2.out.below hb3 (Nat.le_refl _))
    have HB3 := Lib.hid (HB2.out.trans (hb3.mono (Nat.le_trans s1 s2)))
    clear hr3 q3 hb3 C3 HQ2 HB2 HG2 HD2
    go_wp2_with fail
    refine (C4.out).mono ?_
    rintro e w4 ⟨rfl, n, rfl⟩
    clear C4
    obtain ⟨W3, rfl⟩ : ∃ W3, W3 = w3 := ⟨_, rfl⟩
    have hs3 : w1.heap.size ≤ (W3.drewN n).heap.size := Nat.le_trans s2 s3
    have C5 := ValidDone_any A1 c1 g A0 c0 d w.heap.size w1.heap.size w.heap.size w1.heap.size (W3.drewN n) (HG3.out.drewN n) hs3 (HD3.out.drewN n) hs3 hl9 hd9
    obtain ⟨hv, hhv⟩ : ∃ hv, hv = Bs.vdone g d := ⟨_, rfl⟩
    rw [← hhv] at C5
    have HHV := Lib.hid hhv
    have C5 := Lib.hid C5
    clear hhv
    go_wp2_with fail
    refine (C5.out).mono ?_
    rintro e w5 ⟨rfl, hb5⟩
    have s5 := hb5.size
    have HG5 := Lib.hid ((HG3.out.drewN n).below hb5 hs3)
    have HD5 := Lib.hid ((HD3.out.drewN n).below hb5 hs3)
    have HQ5 := Lib.hid ((HQ3.out.drewN n).below hb5 s3)
    have HB5 := Lib.hid (((HB3.out.drewN n).trans (hb5.mono (Nat.le_trans (Nat.le_trans s1 s2) s3))))
    clear hb5 C5 HG3 HD3 HQ3 HB3
    obtain ⟨W5, rfl⟩ : ∃ W5, W5 = w5 := ⟨_, rfl⟩
    have hs5 : w1.heap.size ≤ W5.heap.size := Nat.le_trans hs3 s5
    have hs25 : w2.heap.size ≤ W5.heap.size := Nat.le_trans s3 s5
    cases hv
    · clear HHV HL
      have hsA : w1.heap.size ≤ (W5).heap.size := hs5
      go_wp2_with fail
      refine (CS.out (W5) HG5.out HD5.out hsA).mono ?_
      rintro e wA hrA
      obtain ⟨AA, cA, rfl, qA, hbA, _, _⟩ := hrA.ri
      have sA := hbA.size
      have CB := Lib.hid (equalInts_same A2 c2 AA cA L _ _ _ _ wA (HQ5.out.below hbA (by first | exact hsA | omega)) qA (by omega))
      have HBA := Lib.hid (HB5.out.trans (hbA.mono (Nat.le_trans s1 hsA)))
      clear hrA qA hbA
      go_wp2_with fail
      refine (CB.out).mono ?_
      rintro e wB ⟨rfl, nB, rfl⟩
      go_wp2
      go_ret
      exact ⟨rfl, HBA.out.drewN _⟩
    · by_cases hz0 : a < 0
      · have d0 : decide (a < 0) = true := by simpa using hz0
        clear hz0 HHV HL
        have hsA : w1.heap.size ≤ (W5).heap.size := hs5
        go_wp2_with fail
        refine (CS.out (W5) HG5.out HD5.out hsA).mono ?_
        rintro e wA hrA
        obtain ⟨AA, cA, rfl, qA, hbA, _, _⟩ := hrA.ri
        have sA := hbA.size
        have CB := Lib.hid (equalInts_same A2 c2 AA cA L _ _ _ _ wA (HQ5.out.below hbA (by first | exact hsA | omega)) qA (by omega))
        have HBA := Lib.hid (HB5.out.trans (hbA.mono (Nat.le_trans s1 hsA)))
        clear hrA qA hbA
        go_wp2_with fail
        refine (CB.out).mono ?_
        rintro e wB ⟨rfl, nB, rfl⟩
        go_wp2
        go_ret
        exact ⟨rfl, HBA.out.drewN _⟩
      · by_cases hz1 : (g.length : Int) ≤ a
        · have d0 : decide (a < 0) = false := by simpa using hz0
          have d1 : decide ((g.length : Int) ≤ a) = true := by simpa using hz1
          clear hz0 hz1 HHV HL
          have hsA : w1.heap.size ≤ (W5).heap.size := hs5
          go_wp2_with fail
          refine (CS.out (W5) HG5.out HD5.out hsA).mono ?_
          rintro e wA hrA
          obtain ⟨AA, cA, rfl, qA, hbA, _, _⟩ := hrA.ri
          have sA := hbA.size
          have CB := Lib.hid (equalInts_same A2 c2 AA cA L _ _ _ _ wA (HQ5.out.below hbA (by first | exact hsA | omega)) qA (by omega))
          have HBA := Lib.hid (HB5.out.trans (hbA.mono (Nat.le_trans s1 hsA)))
          clear hrA qA hbA
          go_wp2_with fail
          refine (CB.out).mono ?_
          rintro e wB ⟨rfl, nB, rfl⟩
          go_wp2
          go_ret
          exact ⟨rfl, HBA.out.drewN _⟩
        · obtain ⟨v, rfl⟩ : ∃ v : Nat, a = (v : Int) := ⟨a.toNat, by omega⟩
          have hv : v < g.length := by omega
          have d0 : decide ((v : Int) < 0) = false := by simp
          have d1 : decide ((g.length : Int) ≤ (v : Int)) = false := by simp; omega
          have d1' : decide (g.length ≤ v) = false := by simp; omega
          have d2 : (0 : Int) ≤ (v : Int) := by omega
          have d3 : (v : Int) < (g.length : Int) := by omega
          have hvd : Bs.vdone g d = true := HHV.out.symm
          have hLC : L = Bs.waitsC g d (v : Int) := by rw [HL.out]; exact waitsL_yes hvd (by simp; omega)
          obtain ⟨h1, h2⟩ := Bs.waits_law hvd hv
          rw [← hLC] at h1 h2
          obtain ⟨R, hR⟩ : ∃ R, R = Bs.readyL g d := ⟨_, rfl⟩
          have hRC : R = Bs.readyC g d := by rw [hR]; exact readyL_yes hvd
          have hrl := readyL_len g d
          rw [← hR] at hrl
          rw [← hRC] at h2
          have c6 := fun W hg hd hs => ReadyTasks_any A1 c1 g A0 c0 d w.heap.size w1.heap.size w.heap.size w1.heap.size W hg hs hd hs hl9 hd9
          rw [← hR] at c6
          have C6 := Lib.hid c6
          have H1 := Lib.hid h1
          have H2 := Lib.hid h2
          clear hz0 hz1 CS HHV HL hvd hLC h1 h2 hR hRC c6
          go_wp2
          go_loopw [7] (fun i wr => ∃ k : Nat, i = .int .i64 (k : Int) ∧ ∃ n, wr = W5.drewN n) (fun i _ => L.length + 1 - (intOf i).toNat)
          case atStart => exact ⟨0, rfl, 0, rfl⟩
          case round =>
            obtain ⟨k, rfl, m, rfl⟩ := hrel
            by_cases hi : k < L.length
            · obtain ⟨b, o, rfl, _, _, hc0⟩ := HQ5.out k hi
              obtain ⟨x1, x2⟩ := H1.out L[k] (List.getElem_mem hi)
              obtain ⟨bg, og, N, cN, rfl, _, _, k0, k1, k2, k3, hnc, hcN, hN⟩ := HG5.out v hv
              have b0 : (0 : Int) ≤ (k : Int) := by omega
              have b1 : (k : Int) < (L.length : Int) := by omega
              generalize L[k] = x at *
              have c7 := fun j => lisIn_quiet2 N cN g[v].needs x _ _ W5 hN (by omega) m j
              have c8 := fun j => lisIn_quiet2 A0 c0 d x _ _ W5 HD5.out (by omega) m j
              have c9 := lisIn_any N cN g[v].needs x _ _ (W5.drewN m) (hN.drewN m) (by omega)
              have c10 := lisIn_any A0 c0 d x _ _ (W5.drewN m) (HD5.out.drewN m) (by omega)
              rw [x1] at c7 c9
              rw [x2] at c8 c10
              have C7 := fun j => Lib.hid (c7 j)
              have C8 := fun j => Lib.hid (c8 j)
              have C9 := Lib.hid c9
              have C10 := Lib.hid c10
              clear c7 c8 c9 c10 x1 x2 k0 k2 k3 hN hnc
              generalize g[v].needs = nd at *
              go_wp2
              first
                | (go_quiet ((first | (go_at_call 24; with_reducible exact (C7 _).out) | (go_at_call 24; with_reducible exact (C8 _).out))); go_wp2; go_roundw; (case rel => exact ⟨k + 1, by go_num, _, by first | rfl | rw [World.drewN_drewN]⟩); (case measure => simp [intOf]; omega))
                | (refine (C9.out).mono ?_; rintro e w8 ⟨rfl, rfl⟩; go_wp2_with fail; refine (C10.out).mono ?_; rintro e w9 ⟨rfl, rfl⟩; go_wp2; go_roundw; (case rel => exact ⟨k + 1, by go_num, _, by first | rfl | rw [World.drewN_drewN]⟩); (case measure => simp [intOf]; omega))
            · have c7 := lisIn_any A0 c0 d (v : Int) _ _ (W5.drewN m) (HD5.out.drewN m) (by omega)
              generalize d.contains (v : Int) = bd at *
              have C7 := Lib.hid c7
              have C6 := Lib.hid (C6.out (W5.drewN m) (HG5.out.drewN m) (HD5.out.drewN m) hs5)
              clear c7
              go_wp2_with fail
              refine (C7.out).mono ?_
              rintro e w7 ⟨rfl, rfl⟩
              cases bd
              · have h2 := H2.out
                rw [Bool.false_or] at h2
                have H3 := Lib.hid h2
                clear h2
                go_wp2_with fail
                refine (C6.out).mono ?_
                rintro e w8 hr8
                obtain ⟨A8, c8, rfl, q8, hb8, hlc8, hcm8⟩ := hr8.ri
                have c9 := lisIn_any A8 c8 R (v : Int) _ _ w8 q8 (by omega)
                rw [← H3.out] at c9
                have HB8 := Lib.hid ((HB5.out.drewN m).trans (hb8.mono (Nat.le_trans s1 hs5)))
                generalize ((L.length : Int) == 0) = bl at *
                have C9 := Lib.hid c9
                have hbb : (bl == bl) = true := by cases bl <;> rfl
                clear hr8 q8 hb8 c9 H3
                go_wp2_with fail
                refine (C9.out).mono ?_
                rintro e w9 ⟨rfl, rfl⟩
                go_wp2
                go_ret
                exact ⟨rfl, HB8.out⟩
              · have h2 := H2.out
                rw [Bool.true_or] at h2
                go_wp2
                go_ret
                exact ⟨rfl, HB5.out.drewN _⟩
end Go.Proofs.Ytcddjgiclnnilaa
