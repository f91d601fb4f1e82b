/-
  THE WALK OF laws.FnTailTimesHeads.
-/
import Derived.Test.YtiokblodjhmjmaaDrTailTimes
import Derived.Test.YtiokblodjhmjmaaL1
import Derived.Test.YtiokblodjhmjmaaMath5
import Derived.Test.YtiokblodjhmjmaaW15
import Derived.Test.YtiokblodjhmjmaaW18
namespace Go.Proofs.Ytiokblodjhmjmaa
open Go.RowKit
set_option maxRecDepth 20000 in
set_option maxHeartbeats 6400000 in
theorem fnTailTimesHeads_walk (A : Option Addr) (c : Nat) (l : List Int) (w : World) (hb : RB w 0 w.heap.size A l) (hlc : l.length ≤ c ∧ c ≤ maxLen) :
    Calls Try.prog 13 #[.slice A l.length c] w fun e w' => e = .returned (.bool true) ∧ Below w.heap.size w w' := by
  have hl63 : l.length ≤ 9223372036854775807 := by have := hlc.2; unfold maxLen at this; omega
  by_cases hbig : 1048576 < l.length
  · go_enter Try.func13, Try.ntmps13
    go_wp2
    go_ret
    exact ⟨rfl, Below.refl _ _⟩
  · have C1 := Lib.hid (DrawTailTimes_any A c l w hb hlc.1 hlc.2)
    clear hb
    go_enter Try.func13, Try.ntmps13
    go_wp2_with fail
    refine (C1.out).mono ?_
    rintro e w1 ⟨⟨A1, c1, g, rfl, hg, hg16, hgc, hcm⟩, hb1⟩
    have HG := Lib.hid hg
    have s1 := hb1.size
    have hl9 : g.length ≤ 9223372036854775807 := by omega
    obtain ⟨L, hL⟩ : ∃ L, L = if Bs.valid g then Bs.tailsC g else [] := ⟨_, rfl⟩
    have c2 := TailTimes_any A1 c1 g w.heap.size w1.heap.size w1 HG.out (Nat.le_refl _) hl9
    have hlen := TailTimes_len g
    rw [← hL] at c2 hlen
    have C2 := Lib.hid c2
    have CS := Lib.hid (fun w2 hg hs => TailTimesS_any A1 c1 g w.heap.size w1.heap.size w2 hg hs hl9)
    rw [← hL] at CS
    have HL := Lib.hid hL
    clear C1 hg hL c2
    go_wp2_with fail
    refine (C2.out).mono ?_
    rintro e w2 hr2
    obtain ⟨A2, c2, rfl, q2, hb2, hlc2, hcm2⟩ := hr2.ri
    have g2 := HG.out.below hb2 (Nat.le_refl _)
    have s2 := hb2.size
    have C3 := Lib.hid (CS.out w2 g2 s2)
    have HQ2 := Lib.hid q2
    have HG2 := Lib.hid g2
    have HB2 := Lib.hid (hb1.trans (hb2.mono s1))
    clear hr2 q2 g2 hb2 C2
    go_wp2_with fail
    refine (C3.out).mono ?_
    rintro e w3 hr3
    obtain ⟨A3, c3, rfl, q3, hb3, hlc3, hcm3⟩ := hr3.ri
    have s3 := hb3.size
    have C4 := Lib.hid (equalInts_same A2 c2 A3 c3 L _ _ _ _ w3 (HQ2.out.below hb3 (Nat.le_refl _)) q3 (by omega))
    have HG3 := Lib.hid (HG2.out.below hb3 s2)
    have HQ3 := Lib.hid (HQ2.out.below hb3 (Nat.le_refl _))
    have HB3 := Lib.hid (HB2.out.trans (hb3.mono (Nat.le_trans s1 s2)))
    clear hr3 q3 hb3 C3 HQ2 HB2 HG2
    go_wp2_with fail
    refine (C4.out).mono ?_
    rintro e w4 ⟨rfl, n, rfl⟩
    clear C4
    obtain ⟨W3, rfl⟩ : ∃ W3, W3 = w3 := ⟨_, rfl⟩
    by_cases hlen : L.length = g.length
    · have hne : ((L.length : Int) != (g.length : Int)) = false := by simp [hlen]
      have hs3 : w1.heap.size ≤ (W3.drewN n).heap.size := Nat.le_trans s2 s3
      obtain ⟨H, hH⟩ : ∃ H, H = if Bs.valid g then Bs.headsC g else [] := ⟨_, rfl⟩
      obtain ⟨nn, hnn⟩ : ∃ nn, nn = longL g := ⟨_, rfl⟩
      have F := Lib.hid (fun h0 => sum_law HL.out hH hnn hlen h0)
      have c5 := HeadTimes_any A1 c1 g w.heap.size w1.heap.size (W3.drewN n) (HG3.out.drewN n) hs3 hl9
      rw [← hH] at c5
      have C5 := Lib.hid c5
      have hHl := HeadTimes_len g
      rw [← hH] at hHl
      have C6 := Lib.hid (fun W hg hs => LongestTime_any A1 c1 g w.heap.size w1.heap.size W hg hs hl9)
      rw [← hnn] at C6
      have hll := Nat.le_of_eq hlen.symm
      have hlg : g.length ≤ L.length := by omega
      clear HL hlen c5 hH hnn CS
      go_wp2_with fail
      refine (C5.out).mono ?_
      rintro e w5 hr5
      obtain ⟨A5, c5, rfl, q5, hb5, hlc5, hcm5⟩ := hr5.ri
      have s5 := hb5.size
      have HG5 := Lib.hid ((HG3.out.drewN n).below hb5 hs3)
      have HQ5 := Lib.hid ((HQ3.out.drewN n).below hb5 s3)
      have HB5 := Lib.hid (((HB3.out.drewN n).trans (hb5.mono (Nat.le_trans (Nat.le_trans s1 s2) s3))))
      have HH5 := Lib.hid q5
      clear hr5 q5 hb5 C5 HG3 HQ3 HB3
      have C6 := Lib.hid (C6.out w5 HG5.out (Nat.le_trans hs3 s5))
      go_wp2_with fail
      refine (C6.out).mono ?_
      rintro e w6 ⟨rfl, hb6⟩
      have HG6 := Lib.hid (HG5.out.below hb6 (Nat.le_trans hs3 s5))
      have HQ6 := Lib.hid (HQ5.out.below hb6 (Nat.le_trans s3 s5))
      have HH6 := Lib.hid (HH5.out.below hb6 (Nat.le_refl _))
      have HB6 := Lib.hid (HB5.out.trans (hb6.mono (Nat.le_trans (Nat.le_trans (Nat.le_trans s1 s2) s3) s5)))
      clear hb6 C6 HG5 HQ5 HH5 HB5
      obtain ⟨W6, rfl⟩ : ∃ W6, W6 = w6 := ⟨_, rfl⟩
      by_cases h0 : g.length = 0
      · have hq : ((g.length : Int) == 0) = true := by simp [h0]
        have h0' : g.length ≤ 0 := by omega
        clear h0
        go_wp2
        go_loopw [7, 8] (fun s i wr => s = .bool true ∧ i = .int .i64 0 ∧ wr = W6) (fun _ _ _ => 0)
        case atStart => exact ⟨rfl, rfl, rfl⟩
        case round =>
          obtain ⟨rfl, rfl, rfl⟩ := hrel
          go_wp2
          go_ret
          exact ⟨rfl, HB6.out⟩
      · have hq : ((g.length : Int) == 0) = false := by rw [beq_eq_false_iff_ne]; omega
        obtain ⟨hHg, hF, hany⟩ := F.out (by omega)
        have HF := Lib.hid hF
        have hHg1 := Nat.le_of_eq hHg
        have hHg2 := Nat.le_of_eq hHg.symm
        have HIT := Lib.hid (fun j => any_range (fun i => Bs.gi H i + Bs.gi L i == nn) j)
        generalize (fun i => Bs.gi H i + Bs.gi L i == nn) = hit at *
        have HA := Lib.hid hany
        clear hany hF F h0 hHg
        go_wp2
        go_loopw [7, 8] (fun s i wr => ∃ k : Nat, i = .int .i64 (k : Int) ∧ s = .bool ((List.range k).any hit) ∧ k ≤ g.length ∧ ∃ n, wr = W6.drewN n) (fun _ i _ => g.length + 1 - (intOf i).toNat)
        case atStart => exact ⟨0, rfl, rfl, Nat.zero_le _, 0, rfl⟩
        case round =>
          obtain ⟨i, rfl, rfl, hig, m, rfl⟩ := hrel
          by_cases hi : i < g.length
          · have hiL : i < L.length := by omega
            have hiH : i < H.length := by omega
            obtain ⟨b, o, rfl, _, _, hc0⟩ := HQ6.out i hiL
            obtain ⟨b1, o1, rfl, _, _, hc1⟩ := HH6.out i hiH
            obtain ⟨t0, t1, t2, t3, t4⟩ := HF.out i hi
            have hit1 := HIT.out i
            rw [gi_at hiL, gi_at hiH] at t4 hit1
            rw [gi_at hiH] at t0 t1
            rw [gi_at hiL] at t2 t3
            have d0 : (0 : Int) ≤ (i : Int) := by omega
            have d1 : (i : Int) < (L.length : Int) := by omega
            have d2 : (i : Int) < (H.length : Int) := by omega
            have d3 : (i : Int) < (g.length : Int) := by omega
            generalize L[i] = y at *
            generalize H[i] = x at *
            have hd2 : decide (nn < x + y) = false := by simp; omega
            have hw : IntKind.i64.wrap (x + y) = x + y := IntWalk.i64_in _ ⟨by omega, by omega⟩
            have H1 := Lib.hid hit1
            clear hit1
            generalize (List.range i).any hit = sb at *
            cases sb
            · by_cases heq : x + y = nn
              · have hq3 : (x + y == nn) = true := by simp [heq]
                have H1 := Lib.hid (show (List.range (i + 1)).any hit = true from by rw [H1.out, hq3]; rfl)
                clear heq
                go_wp2
                go_quiet (fail)
                go_wp2
                go_quiet (fail)
                go_wp2
                go_roundw
                case rel => exact ⟨i + 1, by go_num, by rw [H1.out], by omega, _, by first | rfl | rw [World.drewN_drewN]⟩
                case measure => simp [intOf]; omega
              · have hq3 : (x + y == nn) = false := by simp [heq]
                have H1 := Lib.hid (show (List.range (i + 1)).any hit = false from by rw [H1.out, hq3]; rfl)
                clear heq
                go_wp2
                go_quiet (fail)
                go_wp2
                go_quiet (fail)
                go_wp2
                go_roundw
                case rel => exact ⟨i + 1, by go_num, by rw [H1.out], by omega, _, by first | rfl | rw [World.drewN_drewN]⟩
                case measure => simp [intOf]; omega
            · have H1 := Lib.hid (show (List.range (i + 1)).any hit = true from by rw [H1.out]; rfl)
              go_wp2
              go_quiet (fail)
              go_wp2
              go_quiet (fail)
              go_wp2
              go_roundw
              case rel => exact ⟨i + 1, by go_num, by rw [H1.out], by omega, _, by first | rfl | rw [World.drewN_drewN]⟩
              case measure => simp [intOf]; omega
          · have hsb : (List.range i).any hit = true := by rw [show i = g.length from by omega]; exact HA.out
            generalize (List.range i).any hit = sb at *
            subst hsb
            go_wp2
            go_ret
            exact ⟨rfl, HB6.out.drewN _⟩
    · have hne : ((L.length : Int) != (g.length : Int)) = true := by simp; omega
      clear hlen HL
      have hs3 : w1.heap.size ≤ (W3.drewN n).heap.size := Nat.le_trans s2 s3
      go_wp2_with fail
      refine (CS.out (W3.drewN n) (HG3.out.drewN n) hs3).mono ?_
      rintro e w5 hr5
      obtain ⟨A5, c5, rfl, q5, hb5, _, _⟩ := hr5.ri
      have s5 := hb5.size
      have C6 := Lib.hid (equalInts_same A2 c2 A5 c5 L _ _ _ _ w5 ((HQ3.out.drewN n).below hb5 s3) q5 (by omega))
      have HB5 := Lib.hid (((HB3.out.drewN n).trans (hb5.mono (Nat.le_trans (Nat.le_trans s1 s2) s3))))
      clear hr5 q5 hb5
      go_wp2_with fail
      refine (C6.out).mono ?_
      rintro e w6 ⟨rfl, n6, rfl⟩
      go_wp2
      go_ret
      exact ⟨rfl, HB5.out.drewN _⟩
end Go.Proofs.Ytiokblodjhmjmaa
