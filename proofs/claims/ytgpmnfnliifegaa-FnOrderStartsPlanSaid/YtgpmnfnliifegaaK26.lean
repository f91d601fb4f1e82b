/-
  MERGED TEXTS: X9 X12.
-/
import Derived.Test.YtgpmnfnliifegaaK17
import Derived.Test.YtgpmnfnliifegaaDrCountOrders
import Derived.Test.YtgpmnfnliifegaaK1
namespace Go.Proofs.Ytgpmnfnliifegaa
open Go.RowKit
set_option maxRecDepth 20000 in
set_option maxHeartbeats 3200000 in
theorem DrawOrderStarts_any (A : Option Addr) (c : Nat) (l : List Int) (w : World) (hb : RB w 0 w.heap.size A l) (hl : l.length ≤ c) (hc : c ≤ maxLen) :
    Calls Try.prog 32 #[.slice A l.length c] w (DrawGLNL w) := by
  have C1 := Lib.hid (newReader_any A c l w hb hl hc)
  clear hb
  go_enter Try.func32, Try.ntmps32
  go_wp2_with fail
  refine (C1.out).mono ?_
  rintro e w1 ⟨rb, rfl, hs1, hf1⟩
  have hrlo := hs1.rd.1
  have C2 := Lib.hid (smallGraph_any w.heap.size rb 0 w1 hs1 (by omega))
  have HF := Lib.hid hf1
  clear hs1 hf1 C1
  go_wp2_with fail
  refine (C2.out).mono ?_
  rintro e w2 hG
  obtain ⟨A2, c2, g, rfl, hg, hg16, hgc, hcm, hrd, hf2⟩ := hG.open_
  have hrb := hrd.lt
  have s2 := hf2.1.size
  have HG := Lib.hid hg
  have HF2 := Lib.hid (HF.out.1.trans hf2.1)
  have HRD := Lib.hid hrd
  have s0 := HF2.out.size
  clear hG hg hrd hf2 C2
  have C3 := Lib.hid (someRoomX w.heap.size rb _ w2 HRD.out (by omega))
  go_wp2_with fail
  refine (C3.out).mono ?_
  rintro e w3 ⟨⟨A3, c3, m, rfl, hl3, hlc3, hcm3, hlm3⟩, hs3, hf3⟩
  have s3 := hf3.size
  have C4 := Lib.hid (someWorkersX w.heap.size rb _ w3 hs3 (by omega))
  have HF3 := Lib.hid hf3
  have HL3 := Lib.hid hl3
  clear hl3 hs3 hf3 C3 HRD
  go_wp2_with fail
  refine (C4.out).mono ?_
  rintro e w4 ⟨⟨x, rfl⟩, hs4, hf4⟩
  have s4 := hf4.size
  have HF24 := Lib.hid (HF3.out.trans hf4)
  have HF34 := Lib.hid hf4
  obtain ⟨P4, hP4⟩ : ∃ P4, P4 = 0 + 1001 + 7 + 1 := ⟨_, rfl⟩
  rw [← hP4] at hs4
  have hP4b : P4 ≤ 2000 := by omega
  clear hP4
  have HFIN := Lib.hid (fun (A' : Option Addr) (c' : Nat) (L : List Int) W (hO : OI W w4.heap.size A' c' L) (hLg : L.length ≤ g.length) (hR : RD W w.heap.size rb (P4 + L.length)) (hF : Fx rb w4 W) => show Calls Try.prog 78 #[.pointer (some ⟨rb, 0, none⟩), .slice A' L.length c', .int .i64 5] W fun e w9 => ∃ A9 c9 l9, e = .returned (.slice A9 (List.length l9) c9) ∧ RG w9 w.heap.size w9.heap.size A2 g ∧ RI w9 w.heap.size w9.heap.size A3 m ∧ RI w9 w.heap.size w9.heap.size A9 l9 ∧ l9.length ≤ 100 ∧ l9.length ≤ c9 ∧ c9 ≤ maxLen ∧ Below w.heap.size w w9 from by
    have hsz := hF.size
    refine (spoilX A' c' L w.heap.size rb _ _ _ 5 W hR (by omega) hO.ri (Nat.le_refl _) (by omega)).mono ?_
    rintro e w9 ⟨⟨A9, c9, l9, rfl, hl9, hlc9, hcm9, hlm9⟩, hs9, hf9⟩
    have s9 := hf9.size
    have hf49 := hF.trans hf9
    refine ⟨A9, c9, l9, rfl, (HG.out.fx (HF24.out.trans hf49) (Nat.le_refl _)).rg.more (hi' := w9.heap.size) (Nat.le_refl _) (by omega), (HL3.out.fx (HF34.out.trans hf49) hrb (Nat.le_refl _)).more s0 (by omega), hl9.more (by omega) (Nat.le_refl _), by omega, hlc9, hcm9, HF2.out.trans ((HF24.out.trans hf49).below hrlo hrb)⟩)
  have HGK := Lib.hid (fun W (hF : Fx rb w4 W) => (HG.out.fx (HF24.out.trans hF) (Nat.le_refl _)).rg)
  have HO0 := Lib.hid (OI.new w4 w4.heap.size (Nat.le_refl _))
  have HR0 := Lib.hid (hs4.after ((Below.refl w4.heap.size w4).alloc (Nat.le_refl _) (.cells #[] 3)))
  have HX0 := Lib.hid ((Fx.refl rb w4).alloc (.cells #[] 3))
  have hrb4 : rb < w4.heap.size := by omega
  have hg24 : w2.heap.size ≤ w4.heap.size := by omega
  clear hs4 hf4 C4 HG HF24 HF34 HL3 HF2 HF3 HF
  go_wp2
  go_loopw [10] (fun vl wr => ∃ (A' : Option Addr) (c' : Nat) (L : List Int), vl = .slice A' L.length c' ∧ L.length ≤ g.length ∧ OI wr w4.heap.size A' c' L ∧ RD wr w.heap.size rb (P4 + L.length) ∧ Fx rb w4 wr) (fun vl _ => g.length - lenOf vl)
  case atStart => exact ⟨_, _, [], rfl, Nat.zero_le _, HO0.out, HR0.out, HX0.out⟩
  case round =>
    obtain ⟨A5, c5, L, rfl, hL, hO, hR, hX⟩ := hrel
    clear HO0 HR0 HX0
    have sX := hX.size
    by_cases hlt : L.length < g.length
    · have HGW := Lib.hid (HGK.out wr hX)
      have HO := Lib.hid hO
      have HR := Lib.hid hR
      have HX := Lib.hid hX
      have HC0 := Lib.hid (OI.new wr wr.heap.size (Nat.le_refl _))
      have HB0 := Lib.hid ((Below.refl wr.heap.size wr).alloc (Nat.le_refl _) (.cells #[] 3))
      obtain ⟨W0, hW0⟩ : ∃ W0, W0 = wr := ⟨_, rfl⟩
      rw [← hW0] at HGW HO HR HX HC0 HB0 sX ⊢
      clear hO hR hX hW0 wr HGK
      go_wp2
      go_loopw [11, 12] (fun vc i wr => ∃ (k : Nat) (A6 : Option Addr) (c6 : Nat) (q : List Int), k ≤ g.length ∧ vc = .slice A6 q.length c6 ∧ i = .int .i64 k ∧ q.length ≤ k ∧ OI wr W0.heap.size A6 c6 q ∧ Below W0.heap.size W0 wr) (fun _ i _ => g.length - (intOf i).toNat)
      case atStart => exact ⟨0, _, _, [], Nat.zero_le _, rfl, rfl, Nat.le_refl _, HC0.out, HB0.out⟩
      case round =>
        clear HC0 HB0
        obtain ⟨k, A6, c6, q, hk, rfl, rfl, hq, hC, hb⟩ := hrel
        have sb := hb.size
        by_cases hkl : k < g.length
        · obtain ⟨bg, og, N, cN, rfl, _, hgh, k0, k1, k2, k3, hlN, hcN, hN⟩ := (HGW.out.below hb (by omega)) k hkl
          have hLr := (HO.out.below hb (Nat.le_refl _)).ri
          have hnl : g[k].needs.length ≤ 9223372036854775807 := by omega
          have q1 := isIn_any A5 c5 L (k : Int) _ _ wr hLr (by omega)
          have q2 := allDone_any N cN g[k].needs A5 c5 L _ _ _ _ wr hN hLr hnl (by omega)
          have HC := Lib.hid hC
          have HB := Lib.hid hb
          have i0 : (0 : Int) ≤ (k : Int) := by omega
          have i1 : (k : Int) < (g.length : Int) := by omega
          clear hN hLr hC hb k0 k2 k3
          generalize L.contains (k : Int) = b1 at *
          generalize (g[k].needs.all fun x => L.contains x) = b2 at *
          have C5 := Lib.hid q1
          have C6 := Lib.hid q2
          clear q1 q2
          cases b1
          · cases b2
            · go_wp2_with fail
              with_reducible refine (C5.out).mono ?_
              rintro e w5 ⟨rfl, rfl⟩
              go_wp2_with fail
              with_reducible refine (C6.out).mono ?_
              rintro e w5 ⟨rfl, rfl⟩
              go_wp2
              go_roundw
              case rel => exact ⟨k + 1, A6, c6, q, by omega, rfl, by go_num, by omega, HC.out, HB.out⟩
              case measure => simp [intOf]; omega
            · have HC2 := Lib.hid (HC.out.alloc (.cells #[.int .i64 (k : Int)] 3))
              have HB2 := Lib.hid (HB.out.alloc sb (.cells #[.int .i64 (k : Int)] 3))
              go_wp2_with fail
              with_reducible refine (C5.out).mono ?_
              rintro e w5 ⟨rfl, rfl⟩
              go_wp2_with fail
              with_reducible refine (C6.out).mono ?_
              rintro e w5 ⟨rfl, rfl⟩
              go_wp2_with (first
                | (at_builtin; refine push_int rfl _ _ rfl W0.heap.size A6 c6 q (k : Int) rfl HC2.out wr.heap.size 1 rfl (by simp [go_sem]) (by omega) (by simp; omega) ?_; intro A7 c7 w7 ho7 hb7 _; have HC7 := Lib.hid ho7; have HB7 := Lib.hid (HB2.out.trans hb7); clear ho7 hb7))
              go_roundw
              case rel => exact ⟨k + 1, A7, c7, q ++ [(k : Int)], by omega, by rw [List.length_append]; rfl, by go_num, by rw [List.length_append]; simp; omega, HC7.out, HB7.out⟩
              case measure => simp [intOf]; omega
          · clear C6
            go_wp2_with fail
            with_reducible refine (C5.out).mono ?_
            rintro e w5 ⟨rfl, rfl⟩
            go_wp2
            go_roundw
            case rel => exact ⟨k + 1, A6, c6, q, by omega, rfl, by go_num, by omega, HC.out, HB.out⟩
            case measure => simp [intOf]; omega
        · obtain rfl : k = g.length := by omega
          have hO2 := HO.out.below hb (Nat.le_refl _)
          have hR2 := HR.out.after hb
          have hX2 := HX.out.then_ (hb.mono sX)
          by_cases hq0 : q.length = 0
          · have e0 : ((q.length : Int) == 0) = true := by simp [hq0]
            have C7 := Lib.hid (HFIN.out A5 c5 L wr hO2 hL hR2 hX2)
            clear hO2 hR2 hX2 hC hb hq0 HFIN HO HR HX
            go_wp2_with fail
            with_reducible refine (C7.out).mono ?_
            rintro e w9 ⟨A9, c9, l9, rfl, hg9, hm9, hl9, hl100, hlc9, hcm9, hb9⟩
            have HG9 := Lib.hid hg9
            have HM9 := Lib.hid hm9
            have HL9 := Lib.hid hl9
            have HB9 := Lib.hid hb9
            clear hg9 hm9 hl9 hb9 C7
            go_wp2
            refine bodyPost_ret (results_four rfl _ _ _) rfl ?_
            exact ⟨⟨A2, c2, g, A3, c3, m, x, A9, c9, l9, rfl, HG9.out, hg16, hgc, hcm, HM9.out, by omega, hlc3, hcm3, HL9.out, hl100, hlc9, hcm9⟩, HB9.out⟩
          · have e0 : ((q.length : Int) == 0) = false := by rw [beq_eq_false_iff_ne]; omega
            have C7 := Lib.hid (pickX q.length w.heap.size rb _ wr hR2 (by omega) (by omega))
            have HO2 := Lib.hid hO2
            have HX2 := Lib.hid hX2
            have HC := Lib.hid hC
            clear hO2 hR2 hX2 hC HO HR HX HFIN HGW
            go_wp2_with fail
            with_reducible refine (C7.out).mono ?_
            rintro e w5 ⟨⟨j, rfl, hj, _⟩, hs5, hf5⟩
            have hj := hj (by omega)
            have s5 := hf5.size
            have HO5 := Lib.hid (HO2.out.fx hf5 hrb4)
            have HC5 := HC.out.fx hf5 (by omega)
            obtain ⟨b, o, rfl, hb1, hb2, hcj⟩ := HC5.ri.at_ hj
            have HX5 := Lib.hid (HX2.out.trans hf5)
            have HS5 := Lib.hid hs5
            obtain ⟨y, hy⟩ : ∃ y, y = q[j] := ⟨_, rfl⟩
            rw [← hy] at hcj
            have HO6 := Lib.hid (HO5.out.alloc (.cells #[.int .i64 y] 3))
            have HX6 := Lib.hid (HX5.out.alloc (.cells #[.int .i64 y] 3))
            have HS6 := Lib.hid (hs5.after ((Below.refl w5.heap.size w5).alloc (Nat.le_refl _) (.cells #[.int .i64 y] 3)))
            have j0 : (0 : Int) ≤ (j : Int) := by omega
            have j1 : (j : Int) < (q.length : Int) := by omega
            have hlt2 := hlt
            clear hs5 hf5 C7 hb HC5 HC HO2 HX2 hy hlt
            go_wp2_with (first
              | (at_builtin; refine push_int rfl _ _ rfl w4.heap.size A5 c5 L y rfl HO6.out w5.heap.size 1 rfl (by simp [go_sem]) (by omega) (by simp; omega) ?_; intro A7 c7 w7 ho7 hb7 _; have HO7 := Lib.hid ho7; have HS7 := Lib.hid (HS6.out.below hb7 hrb4); have HX7 := Lib.hid (HX6.out.then_ hb7); clear ho7 hb7))
            go_roundw
            case rel => exact ⟨A7, c7, L ++ [y], by rw [List.length_append]; rfl, by rw [List.length_append]; simp; omega, HO7.out, by rw [List.length_append]; simpa [Nat.add_assoc] using HS7.out, HX7.out⟩
            case measure => simp [lenOf]; omega
    · have C7 := Lib.hid (HFIN.out A5 c5 L wr hO hL hR hX)
      clear hO hR hX HFIN
      go_wp2_with fail
      with_reducible refine (C7.out).mono ?_
      rintro e w9 ⟨A9, c9, l9, rfl, hg9, hm9, hl9, hl100, hlc9, hcm9, hb9⟩
      have HG9 := Lib.hid hg9
      have HM9 := Lib.hid hm9
      have HL9 := Lib.hid hl9
      have HB9 := Lib.hid hb9
      clear hg9 hm9 hl9 hb9 C7
      go_wp2
      refine bodyPost_ret (results_four rfl _ _ _) rfl ?_
      exact ⟨⟨A2, c2, g, A3, c3, m, x, A9, c9, l9, rfl, HG9.out, hg16, hgc, hcm, HM9.out, by omega, hlc3, hcm3, HL9.out, hl100, hlc9, hcm9⟩, HB9.out⟩
end Go.Proofs.Ytgpmnfnliifegaa
namespace Go.Proofs.Ytgpmnfnliifegaa
open Go.RowKit
theorem DrawBestOrder_any (A : Option Addr) (c : Nat) (l : List Int) (w : World) (hb : RB w 0 w.heap.size A l) (hl : l.length ≤ c) (hc : c ≤ maxLen) :
    Calls Try.prog 67 #[.slice A l.length c] w (DrawGLN w) := by
  have C1 := Lib.hid (newReader_any A c l w hb hl hc)
  clear hb
  go_enter Try.func67, Try.ntmps67
  go_wp2_with fail
  refine (C1.out).mono ?_
  rintro e w1 ⟨rb, rfl, hs1, hf1⟩
  have hrlo := hs1.rd.1
  have C2 := Lib.hid (smallGraph_any w.heap.size rb 0 w1 hs1 (by omega))
  have HF := Lib.hid hf1
  clear hs1 hf1 C1
  go_wp2_with fail
  refine (C2.out).mono ?_
  rintro e w2 hG
  obtain ⟨A2, c2, g, rfl, hg, hg16, hgc, hcm, hrd, hf2⟩ := hG.open_
  have hrb := hrd.lt
  have s2 := hf2.1.size
  have HG := Lib.hid hg
  have HF2 := Lib.hid (HF.out.1.trans hf2.1)
  have HRD := Lib.hid hrd
  have s0 := HF2.out.size
  clear hG hg hrd hf2 C2
  have C3 := Lib.hid (someRoomX w.heap.size rb _ w2 HRD.out (by omega))
  go_wp2_with fail
  refine (C3.out).mono ?_
  rintro e w3 ⟨⟨A3, c3, l3, rfl, hl3, hlc3, hcm3, hlm3⟩, hs3, hf3⟩
  have s3 := hf3.size
  have C4 := Lib.hid (someWorkersX w.heap.size rb _ w3 hs3 (by omega))
  have HF3 := Lib.hid hf3
  have HL3 := Lib.hid hl3
  clear hl3 hs3 hf3 C3 HRD
  go_wp2_with fail
  refine (C4.out).mono ?_
  rintro e w4 ⟨⟨x, rfl⟩, hs4, hf4⟩
  have s4 := hf4.size
  have hf24 := HF3.out.trans hf4
  have HG4 := Lib.hid ((HG.out.fx hf24 (Nat.le_refl _)).rg.more (hi' := w4.heap.size) (Nat.le_refl _) (by omega))
  have HL3' := Lib.hid ((HL3.out.fx hf4 hrb (Nat.le_refl _)).more s0 s4)
  have HB4 := Lib.hid (HF2.out.trans (hf24.below hrlo hrb))
  clear hs4 hf4 C4 hf24
  go_wp2
  go_ret3
  exact ⟨⟨A2, c2, g, A3, c3, l3, x, rfl, HG4.out, hg16, hgc, hcm, HL3'.out, by omega, hlc3, hcm3⟩, HB4.out⟩
theorem DrawBestTime_any (A : Option Addr) (c : Nat) (l : List Int) (w : World) (hb : RB w 0 w.heap.size A l) (hl : l.length ≤ c) (hc : c ≤ maxLen) :
    Calls Try.prog 29 #[.slice A l.length c] w (DrawGLN w) := by
  have C1 := Lib.hid (DrawBestOrder_any A c l w hb hl hc)
  clear hb
  go_enter Try.func29, Try.ntmps29
  go_wp2_with fail
  refine (C1.out).mono ?_
  rintro e w1 ⟨⟨A2, c2, g, A3, c3, l3, x, rfl, h1⟩, h2⟩
  have H1 := Lib.hid h1
  have H2 := Lib.hid h2
  clear h1 h2
  go_wp2
  go_ret3
  exact ⟨⟨A2, c2, g, A3, c3, l3, x, rfl, H1.out⟩, H2.out⟩
end Go.Proofs.Ytgpmnfnliifegaa
