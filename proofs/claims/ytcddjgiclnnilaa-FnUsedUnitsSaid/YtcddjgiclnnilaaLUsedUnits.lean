/-
  THE WALK OF laws.FnUsedUnits.
-/
import Derived.Test.YtcddjgiclnnilaaX6
import Derived.Test.YtcddjgiclnnilaaRI
import Derived.Test.YtcddjgiclnnilaaLSum
import Derived.Test.YtcddjgiclnnilaaMath32
namespace Go.Proofs.Ytcddjgiclnnilaa
open Go.RowKit
set_option maxRecDepth 20000 in
set_option maxHeartbeats 6400000 in
theorem fnUsedUnits_walk (A : Option Addr) (c : Nat) (l : List Int) (w : World) (hb : RB w 0 w.heap.size A l) (hlc : l.length ≤ c ∧ c ≤ maxLen) :
    Calls Try.prog 11 #[.slice A l.length c] w fun e w' => e = .returned (.bool true) ∧ Below w.heap.size w w' := by
  have hl63 : l.length ≤ 9223372036854775807 := by have := hlc.2; unfold maxLen at this; omega
  by_cases hbig : 1048576 < l.length
  · go_enter Try.func11, Try.ntmps11
    go_wp2
    go_ret
    exact ⟨rfl, Below.refl _ _⟩
  · have C1 := Lib.hid (DrawUsedUnits_any A c l w hb hlc.1 hlc.2)
    clear hb
    go_enter Try.func11, Try.ntmps11
    go_wp2_with fail
    refine (C1.out).mono ?_
    rintro e w1 ⟨⟨A1, c1, g, A0, c0, d, rfl, hg, hg16, hgc, hcm, hd, hd100, hdc, hdm⟩, hb1⟩
    have HG := Lib.hid hg
    have HD := Lib.hid hd
    have s1 := hb1.size
    have hl9 : g.length ≤ 9223372036854775807 := by omega
    have hd9 : d.length ≤ 9223372036854775807 := by omega
    obtain ⟨L, hL⟩ : ∃ L, L = Bs.usedL g d := ⟨_, rfl⟩
    have c2 := UsedUnits_any A1 c1 g A0 c0 d w.heap.size w1.heap.size w.heap.size w1.heap.size w1 HG.out (Nat.le_refl _) HD.out (Nat.le_refl _) hl9 hd9
    have hlen : L.length ≤ 1000 := by rw [hL]; have := Bs.usedL_len g d; omega
    rw [← hL] at c2
    have C2 := Lib.hid c2
    have CS := Lib.hid (fun w2 hg hd hs => UsedUnitsS_any A1 c1 g A0 c0 d w.heap.size w1.heap.size w.heap.size w1.heap.size w2 hg hs hd hs hl9 hd9)
    rw [← hL] at CS
    have HL := Lib.hid hL
    have HB1 := Lib.hid hb1
    clear C1 hg hd hL c2 hb1
    go_wp2_with fail
    refine (C2.out).mono ?_
    rintro e w2 hr2
    obtain ⟨A2, c2, rfl, q2, hb2, hlc2, hcm2⟩ := hr2.ri
    have s2 := hb2.size
    have HQ2 := Lib.hid q2
    have HG2 := Lib.hid (HG.out.below hb2 (Nat.le_refl _))
    have HD2 := Lib.hid (HD.out.below hb2 (Nat.le_refl _))
    have HB2 := Lib.hid (HB1.out.trans (hb2.mono s1))
    have C3 := Lib.hid (CS.out w2 HG2.out HD2.out s2)
    clear hr2 q2 hb2 C2 HG HD HB1
    go_wp2_with fail
    refine (C3.out).mono ?_
    rintro e w3 hr3
    obtain ⟨A3, c3, rfl, q3, hb3, hlc3, hcm3⟩ := hr3.ri
    have s3 := hb3.size
    have C4 := Lib.hid (equalInts_same A2 c2 A3 c3 L _ _ _ _ w3 (HQ2.out.below hb3 (Nat.le_refl _)) q3 (by omega))
    have HG3 := Lib.hid (HG2.out.below hb3 s2)
    have HD3 := Lib.hid (HD2.out.below hb3 s2)
    have HQ3 := Lib.hid (HQ2.out.below hb3 (Nat.le_refl _))
    have HB3 := Lib.hid (HB2.out.trans (hb3.mono (Nat.le_trans s1 s2)))
    clear hr3 q3 hb3 C3 HQ2 HB2 HG2 HD2
    go_wp2_with fail
    refine (C4.out).mono ?_
    rintro e w4 ⟨rfl, n, rfl⟩
    clear C4
    obtain ⟨W3, rfl⟩ : ∃ W3, W3 = w3 := ⟨_, rfl⟩
    have hs3' : w2.heap.size ≤ (W3.drewN n).heap.size := s3
    by_cases h0 : L.length = 0
    · have hq : ((L.length : Int) == 0) = true := by simp [h0]
      clear h0 HL
      have hsA : w1.heap.size ≤ (W3.drewN n).heap.size := Nat.le_trans s2 s3
      go_wp2_with fail
      refine (CS.out (W3.drewN n) (HG3.out.drewN n) (HD3.out.drewN n) hsA).mono ?_
      rintro e wA hrA
      obtain ⟨AA, cA, rfl, qA, hbA, _, _⟩ := hrA.ri
      have sA := hbA.size
      have CB := Lib.hid (equalInts_same A2 c2 AA cA L _ _ _ _ wA ((HQ3.out.drewN n).below hbA (by first | exact hsA | exact hs3' | omega)) qA (by omega))
      have HBA := Lib.hid ((HB3.out.drewN n).trans (hbA.mono (Nat.le_trans s1 hsA)))
      clear hrA qA hbA
      go_wp2_with fail
      refine (CB.out).mono ?_
      rintro e wB ⟨rfl, nB, rfl⟩
      go_wp2
      go_ret
      exact ⟨rfl, HBA.out.drewN _⟩
    · have hq : ((L.length : Int) == 0) = false := by rw [beq_eq_false_iff_ne]; omega
      by_cases hd0 : d.length = 0
      · have hq2 : ((d.length : Int) == 0) = true := by simp [hd0]
        clear h0 hd0 HL
        have hsA : w1.heap.size ≤ (W3.drewN n).heap.size := Nat.le_trans s2 s3
        go_wp2_with fail
        refine (CS.out (W3.drewN n) (HG3.out.drewN n) (HD3.out.drewN n) hsA).mono ?_
        rintro e wA hrA
        obtain ⟨AA, cA, rfl, qA, hbA, _, _⟩ := hrA.ri
        have sA := hbA.size
        have CB := Lib.hid (equalInts_same A2 c2 AA cA L _ _ _ _ wA ((HQ3.out.drewN n).below hbA (by first | exact hsA | exact hs3' | omega)) qA (by omega))
        have HBA := Lib.hid ((HB3.out.drewN n).trans (hbA.mono (Nat.le_trans s1 hsA)))
        clear hrA qA hbA
        go_wp2_with fail
        refine (CB.out).mono ?_
        rintro e wB ⟨rfl, nB, rfl⟩
        go_wp2
        go_ret
        exact ⟨rfl, HBA.out.drewN _⟩
      · have hq2 : ((d.length : Int) == 0) = false := by rw [beq_eq_false_iff_ne]; omega
        have hd1 : 0 < d.length := by omega
        obtain ⟨P, hP⟩ : ∃ P, P = Bs.usedL g (d.take 1) := ⟨_, rfl⟩
        obtain ⟨Q, hQ⟩ : ∃ Q, Q = Bs.usedL g d.tail := ⟨_, rfl⟩
        obtain ⟨hL3, hP3, hQ3, hval, hpos, v, hv, hdv, hsum⟩ := Bs.used_law HL.out hP hQ h0 hd1
        obtain ⟨b, o, rfl, hbl, hbh, hcd⟩ := HD3.out 0 hd1
        rw [Nat.add_zero, hdv] at hcd
        have hs3 : w1.heap.size ≤ (W3.drewN n).heap.size := Nat.le_trans s2 s3
        have e1 : (d.take 1).length = 1 := by rw [List.length_take]; omega
        have e2 : d.tail.length = d.length - 1 := List.length_tail
        have c5 := UsedUnits_any A1 c1 g (some ⟨b, o, none⟩) c0 (d.take 1) w.heap.size w1.heap.size w.heap.size w1.heap.size (W3.drewN n) (HG3.out.drewN n) hs3 ((HD3.out.take 1).drewN n) hs3 hl9 (by omega)
        rw [← hP, e1] at c5
        have c6 := fun A7 c0' W hg hd hs => UsedUnits_any A1 c1 g A7 c0' d.tail w.heap.size w1.heap.size w.heap.size w1.heap.size W hg hs hd hs hl9 (by omega)
        rw [← hQ, e2] at c6
        have HDZ := Lib.hid (fun (hd2 : d.length ≤ 1) (W : World) => show RI W w.heap.size w1.heap.size (some ⟨b, o, none⟩) d.tail from by intro k hk; exact absurd hk (by omega))
        have HDT := Lib.hid (show RI W3 w.heap.size w1.heap.size (some ⟨b, o + 1, none⟩) d.tail from HD3.out.tail)
        have C5 := Lib.hid c5
        have C6 := Lib.hid c6
        have HVAL := Lib.hid hval
        have HPOS := Lib.hid hpos
        have HSUM := Lib.hid hsum
        have HL3 := Lib.hid hL3
        have HP3 := Lib.hid hP3
        have HQ3' := Lib.hid hQ3
        have hP1 : P.length ≤ 1000 := by omega
        have f1 : (1 : Int) ≤ (c0 : Int) := by omega
        have f2 : (1 : Int) ≤ (d.length : Int) := by omega
        have f3 : (d.length : Int) ≤ (c0 : Int) := by omega
        have f4 : 1 ≤ c0 := by omega
        have f5 : 1 ≤ d.length := by omega
        clear c5 c6 hP hQ h0 hd0 HL CS hval hpos hsum hL3 hP3 hQ3 e1 e2 hdv
        go_wp2_with fail
        with_reducible refine (C5.out).mono ?_
        rintro e w5 hr5
        obtain ⟨A5, c5, rfl, q5, hb5, hlc5, hcm5⟩ := hr5.ri
        have s5 := hb5.size
        have HG5 := Lib.hid ((HG3.out.drewN n).below hb5 hs3)
        have HDT5 := Lib.hid ((HDT.out.drewN n).below hb5 hs3)
        have HQ5 := Lib.hid ((HQ3.out.drewN n).below hb5 s3)
        have HB5 := Lib.hid (((HB3.out.drewN n).trans (hb5.mono (Nat.le_trans (Nat.le_trans s1 s2) s3))))
        have HP5 := Lib.hid q5
        have hcd5 := (hb5.cell (p := ⟨b, o, none⟩) (show b < (W3.drewN n).heap.size from Nat.lt_of_lt_of_le hbh hs3)).trans hcd
        have hs5 : w1.heap.size ≤ w5.heap.size := Nat.le_trans hs3 s5
        have hs25 : w2.heap.size ≤ w5.heap.size := Nat.le_trans s3 s5
        have C6a := fun c0' => Lib.hid (C6.out _ c0' w5 HG5.out HDT5.out hs5)
        have C6b := fun c0' hd2 => Lib.hid (C6.out _ c0' w5 HG5.out (HDZ.out hd2 w5) hs5)
        clear hr5 q5 hb5 C5 HG3 HQ3 HB3 HD3 HDT hcd C6
        go_wp2_with fail
        all_goals
          first
            | with_reducible refine ((C6a _).out).mono ?_
            | with_reducible refine ((C6b _ (by omega)).out).mono ?_
          rintro e w6 hr6
          obtain ⟨A6, c6, rfl, q6, hb6, hlc6, hcm6⟩ := hr6.ri
          have HG6 := Lib.hid (HG5.out.below hb6 hs5)
          have HQ6 := Lib.hid (HQ5.out.below hb6 hs25)
          have HP6 := Lib.hid (HP5.out.below hb6 (Nat.le_refl _))
          have HB6 := Lib.hid (HB5.out.trans (hb6.mono (Nat.le_trans s1 hs5)))
          have HR6 := Lib.hid q6
          have hcd6 := (hb6.cell (p := ⟨b, o, none⟩) (show b < w5.heap.size from Nat.lt_of_lt_of_le hbh hs5)).trans hcd5
          clear hr6 q6 hb6 C6a C6b HG5 HQ5 HB5 HP5 HDT5 hcd5 HDZ
          obtain ⟨W6, rfl⟩ : ∃ W6, W6 = w6 := ⟨_, rfl⟩
          go_wp2
          go_loopw [8] (fun i wr => ∃ k : Nat, k ≤ L.length ∧ i = .int .i64 (k : Int) ∧ ∃ n, wr = W6.drewN n) (fun i _ => L.length + 1 - (intOf i).toNat)
          case atStart => exact ⟨0, Nat.zero_le _, rfl, 0, rfl⟩
          case round =>
            obtain ⟨k, hkl, rfl, m, rfl⟩ := hrel
            by_cases hi : k < L.length
            · have hk3 : k < 3 := by have := HL3.out; omega
              have hip : k < P.length := by have := HP3.out; omega
              have hiq : k < Q.length := by have := HQ3'.out; omega
              obtain ⟨x0, x1, x2, x3, x4⟩ := HVAL.out k hk3
              rw [Bs.giZ_at hi, Bs.giZ_at hip, Bs.giZ_at hiq] at x0
              rw [Bs.giZ_at hip] at x1 x2
              rw [Bs.giZ_at hiq] at x3 x4
              obtain ⟨b2, o2, rfl, _, _, hc0⟩ := HQ6.out k hi
              obtain ⟨b3, o3, rfl, _, _, hc1⟩ := HP6.out k hip
              obtain ⟨b4, o4, rfl, _, _, hc2⟩ := HR6.out k hiq
              have b0 : (0 : Int) ≤ (k : Int) := by omega
              have b1 : (k : Int) < (L.length : Int) := by omega
              have d1 : decide ((P.length : Int) ≤ (k : Int)) = false := by simp; omega
              have d1' : decide (P.length ≤ k) = false := by simp; omega
              have d2 : decide ((Q.length : Int) ≤ (k : Int)) = false := by simp; omega
              have d2' : decide (Q.length ≤ k) = false := by simp; omega
              have d3 : (k : Int) < (P.length : Int) := by omega
              have d4 : (k : Int) < (Q.length : Int) := by omega
              generalize L[k] = x at *
              generalize P[k] = y at *
              generalize Q[k] = z at *
              have hw : IntKind.i64.wrap (y + z) = x := by rw [← x0]; exact IntWalk.i64_in _ ⟨by omega, by omega⟩
              have hne : (x != x) = false := by simp
              clear x0 x1 x2 x3 x4 hip hiq
              go_wp2
              go_quiet (fail)
              go_wp2
              go_roundw
              case rel => exact ⟨k + 1, by omega, by go_num, _, by first | rfl | rw [World.drewN_drewN]⟩
              case measure => simp [intOf]; omega
            · obtain ⟨bg, og, N, cN, rfl, _, _, k0, k1, k2, k3, hnc, hcN, hN⟩ := HG6.out v hv
              have C7 := fun m' j => lsum_quiet A5 c5 P _ _ W6 HP6.out hP1 HPOS.out m' j
              rw [HSUM.out] at C7
              have C7 := fun m' j => Lib.hid (C7 m' j)
              have d5 : (v : Int) < (g.length : Int) := by omega
              have d6 : (0 : Int) ≤ (v : Int) := by omega
              have d7 : (0 : Int) < (d.length : Int) := by omega
              have heq : (g[v].units == g[v].units) = true := by simp
              clear hN hnc k0 k1 k2
              generalize g[v].units = uv at *
              go_wp2
              go_quiet ((go_at_call 40; exact (C7 _ _).out))
              go_wp2
              go_ret
              first | exact ⟨rfl, HB6.out.drewN _⟩ | exact ⟨rfl, (HB6.out.drewN m).drewN _⟩ | (rw [World.drewN_drewN]; exact ⟨rfl, HB6.out.drewN _⟩)
end Go.Proofs.Ytcddjgiclnnilaa
