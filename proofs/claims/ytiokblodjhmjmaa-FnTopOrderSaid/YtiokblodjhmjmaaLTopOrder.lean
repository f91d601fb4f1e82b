/-
  THE WALK OF laws.FnTopOrder.
-/
import Derived.Test.YtiokblodjhmjmaaDrTopOrder
import Derived.Test.YtiokblodjhmjmaaL1
import Derived.Test.YtiokblodjhmjmaaLen
import Derived.Test.YtiokblodjhmjmaaMath4
namespace Go.Proofs.Ytiokblodjhmjmaa
open Go.RowKit
set_option maxRecDepth 20000 in
set_option maxHeartbeats 6400000 in
theorem fnTopOrder_walk (A : Option Addr) (c : Nat) (l : List Int) (w : World) (hb : RB w 0 w.heap.size A l) (hlc : l.length ≤ c ∧ c ≤ maxLen) :
    Calls Try.prog 4 #[.slice A l.length c] w fun e w' => e = .returned (.bool true) ∧ Below w.heap.size w w' := by
  have hl63 : l.length ≤ 9223372036854775807 := by have := hlc.2; unfold maxLen at this; omega
  by_cases hbig : 1048576 < l.length
  · go_enter Try.func4, Try.ntmps4
    go_wp2
    go_ret
    exact ⟨rfl, Below.refl _ _⟩
  · have C1 := Lib.hid (DrawTopOrder_any A c l w hb hlc.1 hlc.2)
    clear hb
    go_enter Try.func4, Try.ntmps4
    go_wp2_with fail
    refine (C1.out).mono ?_
    rintro e w1 ⟨⟨A1, c1, g, rfl, hg, hg16, hgc, hcm⟩, hb1⟩
    have HG := Lib.hid hg
    have s1 := hb1.size
    have hl9 : g.length ≤ 9223372036854775807 := by omega
    obtain ⟨L, hL⟩ : ∃ L, L = Bs.topL g := ⟨_, rfl⟩
    have c2 := TopOrder_any A1 c1 g w.heap.size w1.heap.size w1 HG.out (Nat.le_refl _) hl9
    have hlen := TopOrder_len g
    rw [← hL] at c2 hlen
    have C2 := Lib.hid c2
    have CS := Lib.hid (fun w2 hg hs => TopOrderS_any A1 c1 g w.heap.size w1.heap.size w2 hg hs hl9)
    rw [← hL] at CS
    have HL := Lib.hid hL
    clear C1 hg hL c2
    go_wp2_with fail
    refine (C2.out).mono ?_
    rintro e w2 hr2
    obtain ⟨A2, c2, rfl, q2, hb2, hlc2, hcm2⟩ := hr2.ri
    have g2 := HG.out.below hb2 (Nat.le_refl _)
    have s2 := hb2.size
    have C3 := Lib.hid (CS.out w2 g2 s2)
    have HQ2 := Lib.hid q2
    have HG2 := Lib.hid g2
    have HB2 := Lib.hid (hb1.trans (hb2.mono s1))
    clear hr2 q2 g2 hb2 C2
    go_wp2_with fail
    refine (C3.out).mono ?_
    rintro e w3 hr3
    obtain ⟨A3, c3, rfl, q3, hb3, hlc3, hcm3⟩ := hr3.ri
    have s3 := hb3.size
    have C4 := Lib.hid (equalInts_same A2 c2 A3 c3 L _ _ _ _ w3 (HQ2.out.below hb3 (Nat.le_refl _)) q3 (by omega))
    have HG3 := Lib.hid (HG2.out.below hb3 s2)
    have HQ3 := Lib.hid (HQ2.out.below hb3 (Nat.le_refl _))
    have HB3 := Lib.hid (HB2.out.trans (hb3.mono (Nat.le_trans s1 s2)))
    clear hr3 q3 hb3 C3 HQ2 HB2 HG2
    go_wp2_with fail
    refine (C4.out).mono ?_
    rintro e w4 ⟨rfl, n, rfl⟩
    clear C4
    obtain ⟨W3, rfl⟩ : ∃ W3, W3 = w3 := ⟨_, rfl⟩
    have hs3 : w1.heap.size ≤ (W3.drewN n).heap.size := Nat.le_trans s2 s3
    have c5 := ValidGraph_any A1 c1 g w.heap.size w1.heap.size (W3.drewN n) (HG3.out.drewN n) hs3 hl9
    cases hv : Bs.valid g
    · rw [hv] at c5
      have C5 := Lib.hid c5
      clear c5 hv HL
      go_wp2_with fail
      refine (C5.out).mono ?_
      rintro e w5 ⟨rfl, hb5⟩
      have s5 := hb5.size
      have HG5 := Lib.hid ((HG3.out.drewN n).below hb5 hs3)
      have HQ5 := Lib.hid ((HQ3.out.drewN n).below hb5 s3)
      have HB5 := Lib.hid (((HB3.out.drewN n).trans (hb5.mono (Nat.le_trans (Nat.le_trans s1 s2) s3))))
      clear hb5 C5
      have C6 := Lib.hid (CS.out w5 HG5.out (Nat.le_trans hs3 s5))
      go_wp2_with fail
      refine (C6.out).mono ?_
      rintro e w6 hr6
      obtain ⟨A6, c6, rfl, q6, hb6, _, _⟩ := hr6.ri
      have C7 := Lib.hid (equalInts_same A2 c2 A6 c6 L _ _ _ _ w6 (HQ5.out.below hb6 (Nat.le_trans s3 s5)) q6 (by omega))
      have HB6 := Lib.hid (HB5.out.trans (hb6.mono (Nat.le_trans (Nat.le_trans (Nat.le_trans s1 s2) s3) s5)))
      clear hr6 q6 hb6 C6
      go_wp2_with fail
      refine (C7.out).mono ?_
      rintro e w7 ⟨rfl, n7, rfl⟩
      go_wp2
      go_ret
      exact ⟨rfl, HB6.out.drewN _⟩
    · rw [hv] at c5
      have C5 := Lib.hid c5
      have hL := HL.out
      rw [topL_yes hv] at hL
      have HX := Lib.hid (top_law hv L hL)
      clear c5 hL HL CS
      go_wp2_with fail
      refine (C5.out).mono ?_
      rintro e w5 ⟨rfl, hb5⟩
      have s5 := hb5.size
      have HG5 := Lib.hid ((HG3.out.drewN n).below hb5 hs3)
      have HQ5 := Lib.hid ((HQ3.out.drewN n).below hb5 s3)
      have HB5 := Lib.hid (((HB3.out.drewN n).trans (hb5.mono (Nat.le_trans (Nat.le_trans s1 s2) s3))))
      clear hb5 C5 HG3 HQ3 HB3
      obtain ⟨W5, rfl⟩ : ∃ W5, W5 = w5 := ⟨_, rfl⟩
      obtain ⟨hlen, hX⟩ := HX.out
      have HX := Lib.hid hX
      have hll := Nat.le_of_eq hlen
      have hlen' : ((L.length : Int) == (g.length : Int)) = true := by rw [beq_iff_eq]; omega
      clear hX hlen
      go_wp2
      go_loopw [5, 6, 7] (fun i _ _ wr => ∃ k : Nat, i = .int .i64 (k : Int) ∧ ∃ n, wr = W5.drewN n) (fun i _ _ _ => L.length + 1 - (intOf i).toNat)
      case atStart => exact ⟨0, rfl, 0, rfl⟩
      case round =>
        obtain ⟨i, rfl, m, rfl⟩ := hrel
        by_cases hi : i < L.length
        · obtain ⟨b, o, rfl, _, _, hc0⟩ := HQ5.out i hi
          obtain ⟨x0, x1, x2, x3⟩ := HX.out i hi
          have hT := HQ5.out.take i
          have et : (L.take i).length = i := by rw [List.length_take]; omega
          have C8 := fun q m j => lisIn_quiet2 (some ⟨b, o, none⟩) c2 (L.take i) q _ _ W5 hT (by omega) m j
          rw [et] at C8
          have HC := Lib.hid C8
          have hx2 : (L.take i).contains L[i] = false := by simpa using x2
          have H3 := Lib.hid x3
          have H2 := Lib.hid hx2
          have e1 : (0 : Int) ≤ (i : Int) := by omega
          have e2 : (i : Int) < (L.length : Int) := by omega
          have e3 : (i : Int) ≤ (c2 : Int) := by omega
          have e4 : (0 : Int) ≤ (c2 : Int) := by omega
          clear x2 x3 hx2 C8 hT et
          generalize L.take i = pre at *
          generalize L[i] = x at *
          obtain ⟨v, rfl⟩ : ∃ v : Nat, x = (v : Int) := ⟨x.toNat, by omega⟩
          have hv : v < g.length := by omega
          obtain ⟨b1, o1, N, cN, rfl, _, _, k0, k1, k2, k3, hnc, hcN, hN⟩ := HG5.out v hv
          have d1 : decide ((v : Int) < 0) = false := by simp
          have d2 : decide ((g.length : Int) ≤ (v : Int)) = false := by simp; omega
          rw [Int.toNat_natCast, need_at hv] at H3
          have HN := Lib.hid hN
          clear k0 k2 k3 hN
          have C9 := fun j => Lib.hid (HC.out (v : Int) m j)
          rw [H2.out] at C9
          generalize g[v].needs = nd at *
          go_wp2
          go_quiet ((go_at_call 22; exact (C9 _).out))
          go_wp2
          go_loopw [7] (fun j wr => ∃ k : Nat, j = .int .i64 (k : Int) ∧ ∃ n, wr = W5.drewN n) (fun j _ => nd.length + 1 - (intOf j).toNat)
          case atStart => exact ⟨0, rfl, _, by first | rfl | rw [World.drewN_drewN]⟩
          case round =>
            obtain ⟨j, rfl, m2, rfl⟩ := hrel
            by_cases hj : j < nd.length
            · obtain ⟨bn, on, rfl, _, _, hcn⟩ := HN.out j hj
              have hmem := H3.out nd[j] (List.getElem_mem hj)
              generalize nd[j] = y at *
              have hy : pre.contains y = true := by simpa using hmem
              have C10 := fun j => Lib.hid (HC.out y m2 j)
              rw [hy] at C10
              clear hy hmem
              go_wp2
              go_quiet ((go_at_call 22; exact (C10 _).out))
              go_wp2
              go_roundw
              case rel => exact ⟨j + 1, by go_num, _, by first | rfl | rw [World.drewN_drewN]⟩
              case measure => simp [intOf]; omega
            · go_wp2
              go_roundw
              case rel => exact ⟨i + 1, by go_num, _, by first | rfl | rw [World.drewN_drewN]⟩
              case measure => simp [intOf]; omega
        · go_wp2
          go_ret
          exact ⟨rfl, HB5.out.drewN _⟩
end Go.Proofs.Ytiokblodjhmjmaa
