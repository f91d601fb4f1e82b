/-
  THE WALK OF laws.FnStaleTasks.
-/
import Derived.Test.YtggekdohcancbaaK17
import Derived.Test.YtggekdohcancbaaX13
import Derived.Test.YtggekdohcancbaaW91
import Derived.Test.YtggekdohcancbaaMath72
import Derived.Test.YtggekdohcancbaaL1
import Derived.Test.YtggekdohcancbaaK5
namespace Go.Proofs.Ytggekdohcancbaa
open Go.RowKit
set_option maxRecDepth 20000 in
set_option maxHeartbeats 6400000 in
theorem fnStaleTasks_walk (A : Option Addr) (c : Nat) (l : List Int) (w : World) (hb : RB w 0 w.heap.size A l) (hlc : l.length ≤ c ∧ c ≤ maxLen) :
    Calls Try.prog 3 #[.slice A l.length c] w fun e w' => e = .returned (.bool true) ∧ Below w.heap.size w w' := by
  have hl63 : l.length ≤ 9223372036854775807 := by have := hlc.2; unfold maxLen at this; omega
  by_cases hbig : 1048576 < l.length
  · go_enter Try.func3, Try.ntmps3
    go_wp2
    go_ret
    exact ⟨rfl, Below.refl _ _⟩
  · have C1 := Lib.hid (DrawStaleTasks_any A c l w hb hlc.1 hlc.2)
    clear hb
    go_enter Try.func3, Try.ntmps3
    go_wp2_with fail
    refine (C1.out).mono ?_
    rintro e w1 ⟨⟨A1, c1, g, A0, c0, d, rfl, hg, hg16, hgc, hcm, hd, hd100, hdc, hdm⟩, hb1⟩
    have HG := Lib.hid hg
    have HD := Lib.hid hd
    have s1 := hb1.size
    have hl9 : g.length ≤ 9223372036854775807 := by omega
    have hd9 : d.length ≤ 9223372036854775807 := by omega
    obtain ⟨L, hL⟩ : ∃ L, L = Bs.staleL g d := ⟨_, rfl⟩
    have c2 := StaleTasks_any A1 c1 g A0 c0 d w.heap.size w1.heap.size w.heap.size w1.heap.size w1 HG.out (Nat.le_refl _) HD.out (Nat.le_refl _) hl9 hd9
    have hlen : L.length ≤ 1000 := by rw [hL]; exact StaleTasks_len100 g d (by omega) (by omega)
    rw [← hL] at c2
    have C2 := Lib.hid c2
    have CS := Lib.hid (fun w2 hg hd hs => StaleTasksS_any A1 c1 g A0 c0 d w.heap.size w1.heap.size w.heap.size w1.heap.size w2 hg hs hd hs hl9 hd9)
    rw [← hL] at CS
    have HL := Lib.hid hL
    have HB1 := Lib.hid hb1
    clear C1 hg hd hL c2 hb1
    go_wp2_with fail
    refine (C2.out).mono ?_
    rintro e w2 hr2
    obtain ⟨A2, c2, rfl, q2, hb2, hlc2, hcm2⟩ := hr2.ri
    have s2 := hb2.size
    have HQ2 := Lib.hid q2
    have HG2 := Lib.hid (HG.out.below hb2 (Nat.le_refl _))
    have HD2 := Lib.hid (HD.out.below hb2 (Nat.le_refl _))
    have HB2 := Lib.hid (HB1.out.trans (hb2.mono s1))
    have C3 := Lib.hid (CS.out w2 HG2.out HD2.out s2)
    clear hr2 q2 hb2 C2 HG HD HB1
    go_wp2_with fail
    refine (C3.out).mono ?_
    rintro e w3 hr3
    obtain ⟨A3, c3, rfl, q3, hb3, hlc3, hcm3⟩ := hr3.ri
    have s3 := hb3.size
    have C4 := Lib.hid (equalInts_same A2 c2 A3 c3 L _ _ _ _ w3 (HQ2.out.below hb3 (Nat.le_refl _)) q3 (by omega))
    have HG3 := Lib.hid (HG2.out.below hb3 s2)
    have HD3 := Lib.hid (HD2.out.below hb3 s2)
    have HQ3 := Lib.hid (HQ2.out.below hb3 (Nat.le_refl _))
    have HB3 := Lib.hid (HB2.out.trans (hb3.mono (Nat.le_trans s1 s2)))
    clear hr3 q3 hb3 C3 HQ2 HB2 HG2 HD2
    go_wp2_with fail
    refine (C4.out).mono ?_
    rintro e w4 ⟨rfl, n, rfl⟩
    clear C4
    obtain ⟨W3, rfl⟩ : ∃ W3, W3 = w3 := ⟨_, rfl⟩
    have hs23 : w2.heap.size ≤ (W3.drewN n).heap.size := s3
    have hs3 : w1.heap.size ≤ (W3.drewN n).heap.size := Nat.le_trans s2 s3
    by_cases h0 : L.length = 0
    · have hq0 : ((L.length : Int) == 0) = true := by simp [h0]
      clear h0 HL
      have hsA : w1.heap.size ≤ (W3.drewN n).heap.size := hs3
      go_wp2_with fail
      refine (CS.out (W3.drewN n) (HG3.out.drewN n) (HD3.out.drewN n) hsA).mono ?_
      rintro e wA hrA
      obtain ⟨AA, cA, rfl, qA, hbA, _, _⟩ := hrA.ri
      have sA := hbA.size
      have CB := Lib.hid (equalInts_same A2 c2 AA cA L _ _ _ _ wA ((HQ3.out.drewN n).below hbA (by first | exact hsA | omega)) qA (by omega))
      have HBA := Lib.hid ((HB3.out.drewN n).trans (hbA.mono (Nat.le_trans s1 hsA)))
      clear hrA qA hbA
      go_wp2_with fail
      refine (CB.out).mono ?_
      rintro e wB ⟨rfl, nB, rfl⟩
      go_wp2
      go_ret
      exact ⟨rfl, HBA.out.drewN _⟩
    · have hq0 : ((L.length : Int) == 0) = false := by rw [beq_eq_false_iff_ne]; omega
      have hok := sta_can HL.out h0
      have hLC := sta_is HL.out hok
      obtain ⟨hval, hin⟩ := Bs.staOk_iff.1 hok
      have h8 := Bs.fine_len (valid_fine hval)
      have HLC := Lib.hid (fun i (hi : i < g.length) => show L.contains (i : Int) = (d.contains (i : Int) || (d.take d.length).any fun x => Bs.reachB g i x.toNat) from by rw [hLC, Bs.stale_has hi, List.take_length]; rfl)
      have HU := Lib.hid (fun i (hi : i < g.length) j (hj : j < d.length) => And.intro (users_test hval (Bs.inG_mem hin d[j] (List.getElem_mem hj)) hi) (users_len hval (Bs.inG_mem hin d[j] (List.getElem_mem hj))))
      have hg4 := HG3.out.drewN n
      have hd4 := HD3.out.drewN n
      have hq4 := HQ3.out.drewN n
      have hb4 := HB3.out.drewN n
      generalize W3.drewN n = W4 at *
      have CU := Lib.hid (fun z W (hb : Below W4.heap.size W4 W) => AllUsers_any A1 c1 g z w.heap.size w1.heap.size W (hg4.below hb hs3) (Nat.le_trans hs3 hb.size) hl9)
      have CD := Lib.hid (fun z W (hb : Below W4.heap.size W4 W) => lisIn_any A0 c0 d z _ _ W (hd4.below hb hs3) hd9)
      have CL := Lib.hid (fun z W (hb : Below W4.heap.size W4 W) => lisIn_any A2 c2 L z _ _ W (hq4.below hb hs23) (by omega))
      have HD4 := Lib.hid (fun W (hb : Below W4.heap.size W4 W) => hd4.below hb hs3)
      have HB4 := Lib.hid hb4
      have s4 := hb4.size
      clear HL h0 hok hLC hval hin hg4 hd4 hq4 hb4 CS HG3 HD3 HQ3 HB3
      go_wp2
      go_loopw [6] (fun i wr => ∃ k : Nat, k ≤ g.length ∧ i = .int .i64 k ∧ Below W4.heap.size W4 wr) (fun i _ => g.length - (intOf i).toNat)
      case atStart => exact ⟨0, Nat.zero_le _, rfl, Below.refl _ _⟩
      case round =>
        obtain ⟨k, hk, rfl, hb⟩ := hrel
        have HBk := Lib.hid hb
        clear hb
        by_cases hlt : k < g.length
        · have C5 := Lib.hid (CD.out (k : Int) wr HBk.out)
          have HLk := Lib.hid (HLC.out k hlt)
          have HUk := Lib.hid (HU.out k hlt)
          clear HLC HU CD
          go_wp2_with fail
          with_reducible refine (C5.out).mono ?_
          rintro e _ ⟨rfl, rfl⟩
          generalize d.contains (k : Int) = fc at *
          go_wp2
          go_loopw [7, 8] (fun s j wr2 => ∃ (p : Nat) (b : Bool), p ≤ d.length ∧ j = .int .i64 p ∧ s = .bool b ∧ b = (fc || (d.take p).any fun x => Bs.reachB g k x.toNat) ∧ Below W4.heap.size W4 wr2) (fun _ j _ => d.length - (intOf j).toNat)
          case atStart => exact ⟨0, fc, Nat.zero_le _, rfl, rfl, by simp, HBk.out⟩
          case round =>
            obtain ⟨p, b, hp, rfl, rfl, hbe, hb⟩ := hrel
            have HBp := Lib.hid hb
            have sp := hb.size
            clear hb
            by_cases hlt2 : p < d.length
            · obtain ⟨bf, of, rfl, _, _, hcf⟩ := (HD4.out wr HBp.out).at_ hlt2
              obtain ⟨hu1, hu2⟩ := HUk.out p hlt2
              have C6 := Lib.hid (CU.out d[p] wr HBp.out)
              have HN := Lib.hid (show (fc || (d.take (p + 1)).any fun x => Bs.reachB g k x.toNat) = (b || Bs.reachB g k d[p].toNat) from by rw [any_tk2 hlt2, hbe, Bool.or_assoc])
              have HU1 := Lib.hid hu1
              have d1 : (p : Int) < (d.length : Int) := by omega
              clear hbe hu1 HLk
              generalize Bs.usersA g d[p] = M at *
              generalize Bs.reachB g k d[p].toNat = q at *
              generalize d[p] = x at *
              cases b
              · go_wp2_with fail
                with_reducible refine (C6.out).mono ?_
                rintro e w5 ⟨⟨A5, c5, rfl, ho5⟩, hb5⟩
                have C7 := Lib.hid (lisIn_any A5 c5 M (k : Int) _ _ w5 ho5.ri (by omega))
                rw [HU1.out] at C7
                have HB5 := Lib.hid (HBp.out.trans (hb5.mono sp))
                clear ho5 hb5 C6
                go_wp2_with fail
                with_reducible refine (C7.out).mono ?_
                rintro e _ ⟨rfl, rfl⟩
                go_wp2
                go_roundw
                case rel => exact ⟨p + 1, q, by omega, by go_num, by first | rfl | simp, by rw [HN.out]; rfl, HB5.out⟩
                case measure => simp [intOf]; omega
              · go_wp2_with fail
                go_roundw
                case rel => exact ⟨p + 1, true, by omega, by go_num, by first | rfl | simp, by rw [HN.out]; rfl, HBp.out⟩
                case measure => simp [intOf]; omega
            · obtain rfl : p = d.length := by omega
              have c6 := CL.out (k : Int) wr HBp.out
              rw [HLk.out, ← hbe] at c6
              have C6 := Lib.hid c6
              have hbb : (b != b) = false := by simp
              clear c6 hbe HLk HUk
              go_wp2_with fail
              with_reducible refine (C6.out).mono ?_
              rintro e _ ⟨rfl, rfl⟩
              go_wp2
              go_roundw
              case rel => exact ⟨k + 1, by omega, by go_num, HBp.out⟩
              case measure => simp [intOf]; omega
        · have HBF := Lib.hid (HB4.out.trans (HBk.out.mono s4))
          go_wp2
          go_ret
          exact ⟨rfl, HBF.out⟩
end Go.Proofs.Ytggekdohcancbaa
