/-
  THE WALK OF laws.FnStuckTasksNeeds.
-/
import Derived.Test.YtiokblodjhmjmaaDrStuckTasks
import Derived.Test.YtiokblodjhmjmaaL1
import Derived.Test.YtiokblodjhmjmaaW10
import Derived.Test.YtiokblodjhmjmaaLen
import Derived.Test.YtiokblodjhmjmaaMath6
namespace Go.Proofs.Ytiokblodjhmjmaa
open Go.RowKit
set_option maxRecDepth 20000 in
set_option maxHeartbeats 6400000 in
theorem fnStuckTasksNeeds_walk (A : Option Addr) (c : Nat) (l : List Int) (w : World) (hb : RB w 0 w.heap.size A l) (hlc : l.length ≤ c ∧ c ≤ maxLen) :
    Calls Try.prog 7 #[.slice A l.length c] w fun e w' => e = .returned (.bool true) ∧ Below w.heap.size w w' := by
  have hl63 : l.length ≤ 9223372036854775807 := by have := hlc.2; unfold maxLen at this; omega
  by_cases hbig : 1048576 < l.length
  · go_enter Try.func7, Try.ntmps7
    go_wp2
    go_ret
    exact ⟨rfl, Below.refl _ _⟩
  · have C1 := Lib.hid (DrawStuckTasks_any A c l w hb hlc.1 hlc.2)
    clear hb
    go_enter Try.func7, Try.ntmps7
    go_wp2_with fail
    refine (C1.out).mono ?_
    rintro e w1 ⟨⟨A1, c1, g, rfl, hg, hg16, hgc, hcm⟩, hb1⟩
    have HG := Lib.hid hg
    have s1 := hb1.size
    have hl9 : g.length ≤ 9223372036854775807 := by omega
    obtain ⟨L, hL⟩ : ∃ L, L = Bs.stuckL g := ⟨_, rfl⟩
    have c2 := StuckTasks_any A1 c1 g w.heap.size w1.heap.size w1 HG.out (Nat.le_refl _) hl9
    have hlen := StuckTasks_len g
    rw [← hL] at c2 hlen
    have C2 := Lib.hid c2
    have CS := Lib.hid (fun w2 hg hs => StuckTasksS_any A1 c1 g w.heap.size w1.heap.size w2 hg hs hl9)
    rw [← hL] at CS
    have HL := Lib.hid hL
    clear C1 hg hL c2
    go_wp2_with fail
    refine (C2.out).mono ?_
    rintro e w2 hr2
    obtain ⟨A2, c2, rfl, q2, hb2, hlc2, hcm2⟩ := hr2.ri
    have g2 := HG.out.below hb2 (Nat.le_refl _)
    have s2 := hb2.size
    have C3 := Lib.hid (CS.out w2 g2 s2)
    have HQ2 := Lib.hid q2
    have HG2 := Lib.hid g2
    have HB2 := Lib.hid (hb1.trans (hb2.mono s1))
    clear hr2 q2 g2 hb2 C2
    go_wp2_with fail
    refine (C3.out).mono ?_
    rintro e w3 hr3
    obtain ⟨A3, c3, rfl, q3, hb3, hlc3, hcm3⟩ := hr3.ri
    have s3 := hb3.size
    have C4 := Lib.hid (equalInts_same A2 c2 A3 c3 L _ _ _ _ w3 (HQ2.out.below hb3 (Nat.le_refl _)) q3 (by omega))
    have HG3 := Lib.hid (HG2.out.below hb3 s2)
    have HQ3 := Lib.hid (HQ2.out.below hb3 (Nat.le_refl _))
    have HB3 := Lib.hid (HB2.out.trans (hb3.mono (Nat.le_trans s1 s2)))
    clear hr3 q3 hb3 C3 HQ2 HB2 HG2
    go_wp2_with fail
    refine (C4.out).mono ?_
    rintro e w4 ⟨rfl, n, rfl⟩
    clear C4
    obtain ⟨W3, rfl⟩ : ∃ W3, W3 = w3 := ⟨_, rfl⟩
    by_cases h0 : L.length = 0
    · have hq : ((L.length : Int) == 0) = true := by simp [h0]
      clear h0 HL
      have hs3 : w1.heap.size ≤ (W3.drewN n).heap.size := Nat.le_trans s2 s3
      go_wp2_with fail
      refine (CS.out (W3.drewN n) (HG3.out.drewN n) hs3).mono ?_
      rintro e w5 hr5
      obtain ⟨A5, c5, rfl, q5, hb5, _, _⟩ := hr5.ri
      have s5 := hb5.size
      have C6 := Lib.hid (equalInts_same A2 c2 A5 c5 L _ _ _ _ w5 ((HQ3.out.drewN n).below hb5 s3) q5 (by omega))
      have HB5 := Lib.hid (((HB3.out.drewN n).trans (hb5.mono (Nat.le_trans (Nat.le_trans s1 s2) s3))))
      clear hr5 q5 hb5
      go_wp2_with fail
      refine (C6.out).mono ?_
      rintro e w6 ⟨rfl, n6, rfl⟩
      go_wp2
      go_ret
      exact ⟨rfl, HB5.out.drewN _⟩
    · have hq : ((L.length : Int) == 0) = false := by rw [beq_eq_false_iff_ne]; omega
      have HX := Lib.hid (stuck_law HL.out h0)
      clear HL CS h0
      go_wp2
      go_loopw [5, 6, 7] (fun i _ _ wr => ∃ k : Nat, i = .int .i64 (k : Int) ∧ ∃ n, wr = W3.drewN n) (fun i _ _ _ => g.length + 1 - (intOf i).toNat)
      case atStart => exact ⟨0, rfl, n, rfl⟩
      case round =>
        obtain ⟨i, rfl, m, rfl⟩ := hrel
        by_cases hi : i < g.length
        · obtain ⟨b1, o1, N, cN, rfl, _, _, k0, k1, k2, k3, hnc, hcN, hN⟩ := HG3.out i hi
          have hx := HX.out i hi
          have HN := Lib.hid hN
          have d2 : (i : Int) < (g.length : Int) := by omega
          clear k0 k2 k3 hN
          generalize g[i].needs = nd at *
          have HA := Lib.hid hx
          have HIT := Lib.hid (fun j (hj : j < nd.length) => any_take nd (fun x => L.contains x) j hj)
          clear hx
          obtain ⟨hit, hhit⟩ : ∃ hit, hit = (fun x => L.contains x) := ⟨_, rfl⟩
          rw [← hhit] at HA HIT
          have HH := Lib.hid hhit
          clear hhit
          go_wp2
          go_loopw [6, 7] (fun s j wr => ∃ k : Nat, j = .int .i64 (k : Int) ∧ s = .bool ((nd.take k).any hit) ∧ k ≤ nd.length ∧ ∃ n, wr = W3.drewN n) (fun _ j _ => nd.length + 1 - (intOf j).toNat)
          case atStart => exact ⟨0, rfl, by simp, Nat.zero_le _, _, by first | rfl | rw [World.drewN_drewN]⟩
          case round =>
            obtain ⟨j, rfl, rfl, hjl, m2, rfl⟩ := hrel
            by_cases hj : j < nd.length
            · obtain ⟨bn, on, rfl, _, _, hcn⟩ := HN.out j hj
              have hit1 := HIT.out j hj
              generalize nd[j] = x at *
              have C := lisIn_any A2 c2 L x _ _ (W3.drewN m2) HQ3.out (by omega)
              generalize L.contains x = hc at *
              have C := Lib.hid C
              have H1 := Lib.hid hit1
              clear hit1
              generalize (nd.take j).any hit = sb at *
              cases sb
              · cases hc
                · have H1 := Lib.hid (show (nd.take (j + 1)).any hit = false from by rw [H1.out]; rfl)
                  go_wp2_with fail
                  refine (C.out).mono ?_
                  rintro e w5 ⟨rfl, rfl⟩
                  go_wp2
                  go_roundw
                  case rel => exact ⟨j + 1, by go_num, by rw [H1.out], by omega, _, by first | rfl | rw [World.drewN_drewN]⟩
                  case measure => simp [intOf]; omega
                · have H1 := Lib.hid (show (nd.take (j + 1)).any hit = true from by rw [H1.out]; rfl)
                  go_wp2_with fail
                  refine (C.out).mono ?_
                  rintro e w5 ⟨rfl, rfl⟩
                  go_wp2
                  go_roundw
                  case rel => exact ⟨j + 1, by go_num, by rw [H1.out], by omega, _, by first | rfl | rw [World.drewN_drewN]⟩
                  case measure => simp [intOf]; omega
              · have H1 := Lib.hid (show (nd.take (j + 1)).any hit = true from by rw [H1.out]; rfl)
                go_wp2
                refine ⟨⟨j + 1, by go_num, by rw [H1.out], by omega, _, by first | rfl | rw [World.drewN_drewN]⟩, ?_⟩
                simp [intOf]; omega
            · have hsb : (nd.take j).any hit = L.contains (i : Int) := by rw [List.take_of_length_le (by omega)]; exact HA.out
              have C := lisIn_any A2 c2 L (i : Int) _ _ (W3.drewN m2) HQ3.out (by omega)
              generalize (nd.take j).any hit = sb at *
              subst hsb
              generalize L.contains (i : Int) = hc at *
              have C := Lib.hid C
              cases hc
              · go_wp2_with fail
                refine (C.out).mono ?_
                rintro e w5 ⟨rfl, rfl⟩
                go_wp2
                go_roundw
                case rel => exact ⟨i + 1, by go_num, _, by first | rfl | rw [World.drewN_drewN]⟩
                case measure => simp [intOf]; omega
              · go_wp2_with fail
                refine (C.out).mono ?_
                rintro e w5 ⟨rfl, rfl⟩
                go_wp2
                go_roundw
                case rel => exact ⟨i + 1, by go_num, _, by first | rfl | rw [World.drewN_drewN]⟩
                case measure => simp [intOf]; omega
        · go_wp2
          go_ret
          exact ⟨rfl, HB3.out.drewN _⟩
end Go.Proofs.Ytiokblodjhmjmaa
