/-
  THE WALK OF laws.FnSlackTimesMore.
-/
import Derived.Test.YtiokblodjhmjmabDrSlackTimes
import Derived.Test.YtiokblodjhmjmabL1
import Derived.Test.YtiokblodjhmjmabW20
import Derived.Test.YtiokblodjhmjmabOU
namespace Go.Proofs.Ytiokblodjhmjmab
open Go.RowKit
set_option maxRecDepth 20000 in
set_option maxHeartbeats 6400000 in
theorem fnSlackTimesMore_walk (A : Option Addr) (c : Nat) (l : List Int) (w : World) (hb : RB w 0 w.heap.size A l) (hlc : l.length ≤ c ∧ c ≤ maxLen) :
    Calls Try.prog 6 #[.slice A l.length c] w fun e w' => e = .returned (.bool true) ∧ Below w.heap.size w w' := by
  have hl63 : l.length ≤ 9223372036854775807 := by have := hlc.2; unfold maxLen at this; omega
  by_cases hbig : 1048576 < l.length
  · go_enter Try.func6, Try.ntmps6
    go_wp2
    go_ret
    exact ⟨rfl, Below.refl _ _⟩
  · have C1 := Lib.hid (DrawSlackTimes_any A c l w hb hlc.1 hlc.2)
    clear hb
    go_enter Try.func6, Try.ntmps6
    go_wp2_with fail
    refine (C1.out).mono ?_
    rintro e w1 ⟨⟨A1, c1, g, rfl, hg, hg16, hgc, hcm⟩, hb1⟩
    have HG := Lib.hid hg
    have s1 := hb1.size
    have hl9 : g.length ≤ 9223372036854775807 := by omega
    obtain ⟨L, hL⟩ : ∃ L, L = slackL g := ⟨_, rfl⟩
    have c2 := SlackTimes_any A1 c1 g w.heap.size w1.heap.size w1 HG.out (Nat.le_refl _) hl9
    have hlen := SlackTimes_len g
    rw [← hL] at c2 hlen
    have C2 := Lib.hid c2
    have CS := Lib.hid (fun w2 hg hs => SlackTimesS_any A1 c1 g w.heap.size w1.heap.size w2 hg hs hl9)
    rw [← hL] at CS
    have HL := Lib.hid hL
    clear C1 hg hL c2
    go_wp2_with fail
    refine (C2.out).mono ?_
    rintro e w2 hr2
    obtain ⟨A2, c2, rfl, q2, hb2, hlc2, hcm2⟩ := hr2.ri
    have g2 := HG.out.below hb2 (Nat.le_refl _)
    have s2 := hb2.size
    have C3 := Lib.hid (CS.out w2 g2 s2)
    have HQ2 := Lib.hid q2
    have HG2 := Lib.hid g2
    have HB2 := Lib.hid (hb1.trans (hb2.mono s1))
    clear hr2 q2 g2 hb2 C2
    go_wp2_with fail
    refine (C3.out).mono ?_
    rintro e w3 hr3
    obtain ⟨A3, c3, rfl, q3, hb3, hlc3, hcm3⟩ := hr3.ri
    have s3 := hb3.size
    have C4 := Lib.hid (equalInts_same A2 c2 A3 c3 L _ _ _ _ w3 (HQ2.out.below hb3 (Nat.le_refl _)) q3 (by omega))
    have HG3 := Lib.hid (HG2.out.below hb3 s2)
    have HQ3 := Lib.hid (HQ2.out.below hb3 (Nat.le_refl _))
    have HB3 := Lib.hid (HB2.out.trans (hb3.mono (Nat.le_trans s1 s2)))
    clear hr3 q3 hb3 C3 HQ2 HB2 HG2
    go_wp2_with fail
    refine (C4.out).mono ?_
    rintro e w4 ⟨rfl, n, rfl⟩
    clear C4
    obtain ⟨W3, rfl⟩ : ∃ W3, W3 = w3 := ⟨_, rfl⟩
    by_cases hlen : L.length = g.length
    · have hne : ((L.length : Int) != (g.length : Int)) = false := by simp [hlen]
      obtain ⟨N, hN⟩ : ∃ N, N = longL g := ⟨_, rfl⟩
      have hsl := fun h0 => Bs.slack_law HL.out hlen h0
      rw [← hN] at hsl
      have HX := Lib.hid (fun (h0 : 0 < g.length) => Bs.more_law hN (hsl h0).1)
      have HS := Lib.hid (fun (h0 : 0 < g.length) => (hsl h0).2)
      have c5 := LongestTime_any A1 c1 g w.heap.size w1.heap.size (W3.drewN n) (HG3.out.drewN n) (Nat.le_trans s2 s3) hl9
      rw [← hN] at c5
      have C5 := Lib.hid c5
      have hll := Nat.le_of_eq hlen.symm
      clear c5 HL CS hN hsl hlen
      go_wp2_with fail
      refine (C5.out).mono ?_
      rintro e w5 ⟨rfl, hb5⟩
      have s5 := hb5.size
      have HG5 := Lib.hid ((HG3.out.drewN n).below hb5 (Nat.le_trans s2 s3))
      have HQ5 := Lib.hid ((HQ3.out.drewN n).below hb5 s3)
      have HB5 := Lib.hid (((HB3.out.drewN n).trans (hb5.mono (Nat.le_trans (Nat.le_trans s1 s2) s3))))
      clear hb5 C5 HG3 HQ3 HB3
      obtain ⟨W5, rfl⟩ : ∃ W5, W5 = w5 := ⟨_, rfl⟩
      have hs5 : w1.heap.size ≤ W5.heap.size := Nat.le_trans (Nat.le_trans s2 s3) s5
      have hs25 : w2.heap.size ≤ W5.heap.size := Nat.le_trans s3 s5
      go_wp2
      go_loopw [6, 7] (fun i _ wr => ∃ k : Nat, k ≤ g.length ∧ i = .int .i64 k ∧ Below W5.heap.size W5 wr) (fun i _ _ => g.length + 1 - (intOf i).toNat)
      case atStart => exact ⟨0, Nat.zero_le _, rfl, Below.refl _ _⟩
      case round =>
        obtain ⟨k, hk, rfl, hbr⟩ := hrel
        have sr := hbr.size
        have HBR := Lib.hid hbr
        have HGr := Lib.hid (HG5.out.below hbr hs5)
        have HQr := Lib.hid (HQ5.out.below hbr hs25)
        clear hbr
        by_cases hv : k < g.length
        · have hkL : k < L.length := by omega
          obtain ⟨b2, o2, rfl, _, hb2l, hc0⟩ := HQr.out k hkL
          obtain ⟨h8, hn2, hn0, hX⟩ := HX.out (by omega)
          obtain ⟨x0, x1, x2⟩ := HS.out (by omega) k hkL
          have b0 : (0 : Int) ≤ (k : Int) := by omega
          have b1 : (k : Int) < (L.length : Int) := by omega
          have b2' : (k : Int) < (g.length : Int) := by omega
          generalize hx : L[k] = y at *
          clear hx
          obtain ⟨b, o, rs, rfl, hbl, hrl, hrows⟩ := HGr.out.rows (by omega)
          have HCF := Lib.hid (fun j u hu => ((Below.alloc (Below.refl wr.heap.size wr) (Nat.le_refl _) (.cells #[] 30)).cell (p := ⟨b, o + j, none⟩) (show b < wr.heap.size from by omega)).trans (rows_cells hrl hrows j u hu))
          obtain ⟨u0, u1, u2⟩ := hX k hv
          have h2 : Bs.valid (Bs.setT g k (g[k].time + (y + 1))) = true → longL (Bs.setT g k (g[k].time + (y + 1))) = N + 1 := by intro hval; have h1 := u2 (y + 1) (by omega) hval; have h4 := h1.1; omega
          rw [show g[k].time + (y + 1) = g[k].time + y + 1 from by omega] at h2
          have H2 := Lib.hid h2
          have HRO := Lib.hid hrows
          have hp1 : ([] : List RW).length + rs.length ≤ 1000000000 := by simp only [List.length_nil]; omega
          obtain ⟨WR, rfl⟩ : ∃ WR, WR = wr := ⟨_, rfl⟩
          obtain ⟨T, hT⟩ : ∃ T, T = g[k].time := ⟨_, rfl⟩
          have HTT := Lib.hid hT
          rw [← hT] at u0 u1 H2
          clear u2 hrows hT x2 h2 hX
          have hb2w : b2 < WR.heap.size := by omega
          have d1 : decide (y < 0) = false := by simp; omega
          go_wp2_with (at_builtin; go_loud (refine push_rows rfl _ _ rfl WR.heap.size (some ⟨WR.heap.size, 0, none⟩) 0 [] rs rfl (OU.nil WR WR.heap.size (Nat.le_refl _)) b o c1 (by rw [hrl]; rfl) HCF.out hp1 (by simp) ?_; intro A5 c5 w6 ho5 hb5; obtain ⟨bb, hA5, hbb, hltb, q0, f0, s6, hb6, hall⟩ := copied ho5 hb5 hrl HRO.out s1 (Nat.le_trans hs5 sr) hv; subst hA5; rw [← HTT.out] at q0; have HAL := Lib.hid (hall 1); have hc6 := (hb6.cell (p := ⟨b2, o2 + k, none⟩) hb2w).trans hc0; clear hall ho5 hb5 hb6))
          have hne2 : bb ≠ b2 := by omega
          have hw : IntKind.i64.wrap (T + y) = T + y := IntWalk.i64_in _ ⟨by omega, by omega⟩
          have hw1 : IntKind.i64.wrap (T + y + 1) = T + y + 1 := IntWalk.i64_in _ ⟨by omega, by omega⟩
          go_region_law (fail)
          all_goals
            obtain ⟨R7, B7⟩ := HAL.out (T + y + 1)
            replace R7 : RG (w6.setCell ⟨bb, k * 4, none⟩ (.int .i64 (T + y + 1))).drew w.heap.size w6.heap.size (some ⟨bb, 0, none⟩) (Bs.setT g k (T + y + 1)) := R7
            replace B7 : Below WR.heap.size WR (w6.setCell ⟨bb, k * 4, none⟩ (.int .i64 (T + y + 1))).drew := B7
            have hc7 : (w6.setCell ⟨bb, k * 4, none⟩ (.int .i64 (T + y + 1))).cell? ⟨b2, o2 + k, none⟩ = some (.int .i64 y) := (World.cell?_setCell_far w6 _ _ _ hne2).trans hc6
            obtain ⟨G, hG⟩ : ∃ G, G = Bs.setT g k (T + y + 1) := ⟨_, rfl⟩
            have hGl : G.length = g.length := by rw [hG]; exact Bs.setT_len _ _ _
            have h3 := H2.out
            rw [← hG] at R7 h3
            have c7 := ValidGraph_any (some ⟨bb, 0, none⟩) c5 G w.heap.size w6.heap.size _ R7 (by simp) (by omega)
            have c8 := fun W hg hs => LongestTime_any (some ⟨bb, 0, none⟩) c5 G w.heap.size w6.heap.size W hg hs (by omega)
            rw [hGl] at c7 c8
            generalize longL G = K at *
            generalize Bs.valid G = vg at *
            have C7 := Lib.hid c7
            have C8 := Lib.hid c8
            have HR7 := Lib.hid R7
            have HB7 := Lib.hid B7
            have H3 := Lib.hid h3
            clear c7 c8 R7 B7 h3 hG hGl HAL H2 hw hw1
            go_wp2_with fail
            refine (C7.out).mono ?_
            rintro e w7 ⟨rfl, hb7⟩
            have s7 : w6.heap.size ≤ w7.heap.size := by have := hb7.size; simpa using this
            have C8 := Lib.hid (C8.out w7 (HR7.out.below hb7 (by simp)) s7)
            have HB8 := Lib.hid (HB7.out.trans (hb7.mono (by simp; omega)))
            clear hb7 C7
            cases vg
            · have HB9 := Lib.hid (HBR.out.trans (HB8.out.mono sr))
              go_wp2
              go_roundw
              case rel => exact ⟨k + 1, by omega, by go_num, HB9.out⟩
              case measure => simp [intOf]; omega
            · have hk1 := H3.out rfl
              go_wp2_with fail
              refine (C8.out).mono ?_
              rintro e w8 ⟨rfl, hb8⟩
              have HB9 := Lib.hid (HBR.out.trans ((HB8.out.trans (hb8.mono (by omega))).mono sr))
              clear hb8 C8
              have hne3 : (K != N + 1) = false := by simp [hk1]
              clear hk1
              have hw : IntKind.i64.wrap (N + 1) = N + 1 := IntWalk.i64_in _ ⟨by omega, by omega⟩
              go_wp2
              go_roundw
              case rel => exact ⟨k + 1, by omega, by go_num, HB9.out⟩
              case measure => simp [intOf]; omega
        · go_wp2
          go_ret
          exact ⟨rfl, HB5.out.trans (HBR.out.mono (Nat.le_trans s1 hs5))⟩
    · have hne : ((L.length : Int) != (g.length : Int)) = true := by simp; omega
      clear hlen HL
      have hs3 : w1.heap.size ≤ (W3.drewN n).heap.size := Nat.le_trans s2 s3
      go_wp2_with fail
      refine (CS.out (W3.drewN n) (HG3.out.drewN n) hs3).mono ?_
      rintro e w5 hr5
      obtain ⟨A5, c5, rfl, q5, hb5, _, _⟩ := hr5.ri
      have s5 := hb5.size
      have C6 := Lib.hid (equalInts_same A2 c2 A5 c5 L _ _ _ _ w5 ((HQ3.out.drewN n).below hb5 s3) q5 (by omega))
      have HB5 := Lib.hid (((HB3.out.drewN n).trans (hb5.mono (Nat.le_trans (Nat.le_trans s1 s2) s3))))
      clear hr5 q5 hb5
      go_wp2_with fail
      refine (C6.out).mono ?_
      rintro e w6 ⟨rfl, n6, rfl⟩
      go_wp2
      go_ret
      exact ⟨rfl, HB5.out.drewN _⟩
end Go.Proofs.Ytiokblodjhmjmab
