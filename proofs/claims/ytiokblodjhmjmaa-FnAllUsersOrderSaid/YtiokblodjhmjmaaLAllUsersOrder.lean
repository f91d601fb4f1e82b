/-
  THE WALK OF laws.FnAllUsersOrder.
-/
import Derived.Test.YtiokblodjhmjmaaDA
import Derived.Test.YtiokblodjhmjmaaL1
import Derived.Test.YtiokblodjhmjmaaLen2
import Derived.Test.YtiokblodjhmjmaaMath9
import Derived.Test.YtiokblodjhmjmaaLen
import Derived.Test.YtiokblodjhmjmaaMath4
namespace Go.Proofs.Ytiokblodjhmjmaa
open Go.RowKit
set_option maxRecDepth 20000 in
set_option maxHeartbeats 6400000 in
theorem fnAllUsersOrder_walk (A : Option Addr) (c : Nat) (l : List Int) (w : World) (hb : RB w 0 w.heap.size A l) (hlc : l.length ≤ c ∧ c ≤ maxLen) :
    Calls Try.prog 10 #[.slice A l.length c] w fun e w' => e = .returned (.bool true) ∧ Below w.heap.size w w' := by
  have hl63 : l.length ≤ 9223372036854775807 := by have := hlc.2; unfold maxLen at this; omega
  by_cases hbig : 1048576 < l.length
  · go_enter Try.func10, Try.ntmps10
    go_wp2
    go_ret
    exact ⟨rfl, Below.refl _ _⟩
  · have C1 := Lib.hid (DrawAllUsers_any A c l w hb hlc.1 hlc.2)
    clear hb
    go_enter Try.func10, Try.ntmps10
    go_wp2_with fail
    refine (C1.out).mono ?_
    rintro e w1 ⟨⟨A1, c1, g, z, rfl, hg, hg16, hgc, hcm⟩, hb1⟩
    have HG := Lib.hid hg
    have s1 := hb1.size
    have hl9 : g.length ≤ 9223372036854775807 := by omega
    obtain ⟨L, hL⟩ : ∃ L, L = Bs.usersA g z := ⟨_, rfl⟩
    have c2 := AllUsers_any A1 c1 g z w.heap.size w1.heap.size w1 HG.out (Nat.le_refl _) hl9
    have hlen := AllUsers_len g z
    rw [← hL] at c2 hlen
    have C2 := Lib.hid c2
    have CS := Lib.hid (fun w2 hg hs => AllUsersS_any A1 c1 g z w.heap.size w1.heap.size w2 hg hs hl9)
    rw [← hL] at CS
    have HL := Lib.hid hL
    have HB1 := Lib.hid hb1
    clear C1 hg hL c2 hb1
    go_wp2_with fail
    refine (C2.out).mono ?_
    rintro e w2 hr2
    obtain ⟨A2, c2, rfl, q2, hb2, hlc2, hcm2⟩ := hr2.ri
    have g2 := HG.out.below hb2 (Nat.le_refl _)
    have s2 := hb2.size
    have C3 := Lib.hid (CS.out w2 g2 s2)
    have HQ2 := Lib.hid q2
    have HG2 := Lib.hid g2
    have HB2 := Lib.hid (HB1.out.trans (hb2.mono s1))
    clear hr2 q2 g2 hb2 C2 HG HB1
    go_wp2_with fail
    refine (C3.out).mono ?_
    rintro e w3 hr3
    obtain ⟨A3, c3, rfl, q3, hb3, hlc3, hcm3⟩ := hr3.ri
    have s3 := hb3.size
    have C4 := Lib.hid (equalInts_same A2 c2 A3 c3 L _ _ _ _ w3 (HQ2.out.below hb3 (Nat.le_refl _)) q3 (by omega))
    have HG3 := Lib.hid (HG2.out.below hb3 s2)
    have HQ3 := Lib.hid (HQ2.out.below hb3 (Nat.le_refl _))
    have HB3 := Lib.hid (HB2.out.trans (hb3.mono (Nat.le_trans s1 s2)))
    clear hr3 q3 hb3 C3 HQ2 HB2 HG2
    go_wp2_with fail
    refine (C4.out).mono ?_
    rintro e w4 ⟨rfl, n, rfl⟩
    clear C4
    obtain ⟨W3, rfl⟩ : ∃ W3, W3 = w3 := ⟨_, rfl⟩
    have hs3 : w1.heap.size ≤ (W3.drewN n).heap.size := Nat.le_trans s2 s3
    have C5 := ValidGraph_any A1 c1 g w.heap.size w1.heap.size (W3.drewN n) (HG3.out.drewN n) hs3 hl9
    obtain ⟨hv, hhv⟩ : ∃ hv, hv = Bs.valid g := ⟨_, rfl⟩
    rw [← hhv] at C5
    have HHV := Lib.hid hhv
    have C5 := Lib.hid C5
    clear hhv
    go_wp2_with fail
    refine (C5.out).mono ?_
    rintro e w5 ⟨rfl, hb5⟩
    have s5 := hb5.size
    have HG5 := Lib.hid ((HG3.out.drewN n).below hb5 hs3)
    have HQ5 := Lib.hid ((HQ3.out.drewN n).below hb5 s3)
    have HB5 := Lib.hid (((HB3.out.drewN n).trans (hb5.mono (Nat.le_trans (Nat.le_trans s1 s2) s3))))
    clear hb5 C5 HG3 HQ3 HB3
    obtain ⟨W5, rfl⟩ : ∃ W5, W5 = w5 := ⟨_, rfl⟩
    have hs5 : w1.heap.size ≤ W5.heap.size := Nat.le_trans hs3 s5
    have hs25 : w2.heap.size ≤ W5.heap.size := Nat.le_trans s3 s5
    cases hv
    · clear HHV HL
      have hsA : w1.heap.size ≤ (W5).heap.size := hs5
      go_wp2_with fail
      refine (CS.out (W5) HG5.out hsA).mono ?_
      rintro e wA hrA
      obtain ⟨AA, cA, rfl, qA, hbA, _, _⟩ := hrA.ri
      have sA := hbA.size
      have CB := Lib.hid (equalInts_same A2 c2 AA cA L _ _ _ _ wA (HQ5.out.below hbA (by first | exact hsA | omega)) qA (by omega))
      have HBA := Lib.hid (HB5.out.trans (hbA.mono (Nat.le_trans s1 hsA)))
      clear hrA qA hbA
      go_wp2_with fail
      refine (CB.out).mono ?_
      rintro e wB ⟨rfl, nB, rfl⟩
      go_wp2
      go_ret
      exact ⟨rfl, HBA.out.drewN _⟩
    · by_cases hz0 : z < 0
      · have d0 : decide (z < 0) = true := by simpa using hz0
        clear hz0 HHV HL
        have hsA : w1.heap.size ≤ (W5).heap.size := hs5
        go_wp2_with fail
        refine (CS.out (W5) HG5.out hsA).mono ?_
        rintro e wA hrA
        obtain ⟨AA, cA, rfl, qA, hbA, _, _⟩ := hrA.ri
        have sA := hbA.size
        have CB := Lib.hid (equalInts_same A2 c2 AA cA L _ _ _ _ wA (HQ5.out.below hbA (by first | exact hsA | omega)) qA (by omega))
        have HBA := Lib.hid (HB5.out.trans (hbA.mono (Nat.le_trans s1 hsA)))
        clear hrA qA hbA
        go_wp2_with fail
        refine (CB.out).mono ?_
        rintro e wB ⟨rfl, nB, rfl⟩
        go_wp2
        go_ret
        exact ⟨rfl, HBA.out.drewN _⟩
      · by_cases hz1 : (g.length : Int) ≤ z
        · have d0 : decide (z < 0) = false := by simpa using hz0
          have d1 : decide ((g.length : Int) ≤ z) = true := by simpa using hz1
          clear hz0 hz1 HHV HL
          have hsA : w1.heap.size ≤ (W5).heap.size := hs5
          go_wp2_with fail
          refine (CS.out (W5) HG5.out hsA).mono ?_
          rintro e wA hrA
          obtain ⟨AA, cA, rfl, qA, hbA, _, _⟩ := hrA.ri
          have sA := hbA.size
          have CB := Lib.hid (equalInts_same A2 c2 AA cA L _ _ _ _ wA (HQ5.out.below hbA (by first | exact hsA | omega)) qA (by omega))
          have HBA := Lib.hid (HB5.out.trans (hbA.mono (Nat.le_trans s1 hsA)))
          clear hrA qA hbA
          go_wp2_with fail
          refine (CB.out).mono ?_
          rintro e wB ⟨rfl, nB, rfl⟩
          go_wp2
          go_ret
          exact ⟨rfl, HBA.out.drewN _⟩
        · obtain ⟨v, rfl⟩ : ∃ v : Nat, z = (v : Int) := ⟨z.toNat, by omega⟩
          have hv : v < g.length := by omega
          have d0 : decide ((v : Int) < 0) = false := by simp
          have d1 : decide ((g.length : Int) ≤ (v : Int)) = false := by simp; omega
          have d1' : decide (g.length ≤ v) = false := by simp; omega
          have d2 : (0 : Int) ≤ (v : Int) := by omega
          have d3 : (v : Int) < (g.length : Int) := by omega
          clear hz0 hz1 CS
          obtain ⟨O, hO⟩ : ∃ O, O = Bs.topL g := ⟨_, rfl⟩
          obtain ⟨N, hN⟩ : ∃ N, N = Bs.needsA g (v : Int) := ⟨_, rfl⟩
          obtain ⟨hself, hall⟩ := Bs.order_law HL.out hN hO HHV.out.symm hv
          have HS := Lib.hid hself
          have HA := Lib.hid hall
          have c6 := TopOrder_any A1 c1 g w.heap.size w1.heap.size W5 HG5.out hs5 hl9
          have hol := TopOrder_len g
          rw [← hO] at c6 hol
          have C6 := Lib.hid c6
          have C7 := Lib.hid (fun W hg hs => AllNeeds_any A1 c1 g (v : Int) w.heap.size w1.heap.size W hg hs hl9)
          have hnl := AllNeeds_len g (v : Int)
          rw [← hN] at C7 hnl
          clear hself hall HL HHV c6 hO hN
          go_wp2_with fail
          refine (C6.out).mono ?_
          rintro e w6 hr6
          obtain ⟨A6, c6, rfl, q6, hb6, hlc6, hcm6⟩ := hr6.ri
          have s6 := hb6.size
          have HG6 := Lib.hid (HG5.out.below hb6 hs5)
          have HQ6 := Lib.hid (HQ5.out.below hb6 hs25)
          have HB6 := Lib.hid (HB5.out.trans (hb6.mono (Nat.le_trans s1 hs5)))
          have HO6 := Lib.hid q6
          have C7 := Lib.hid (C7.out w6 HG6.out (Nat.le_trans hs5 s6))
          clear hr6 q6 hb6 C6 HG5 HQ5 HB5
          go_wp2_with fail
          refine (C7.out).mono ?_
          rintro e w7 hr7
          obtain ⟨A7, c7, rfl, q7, hb7, hlc7, hcm7⟩ := hr7.ri
          have s7 := hb7.size
          have HQ7 := Lib.hid (HQ6.out.below hb7 (Nat.le_trans hs25 s6))
          have HO7 := Lib.hid (HO6.out.below hb7 (Nat.le_refl _))
          have HN7 := Lib.hid q7
          have HB7 := Lib.hid (HB6.out.trans (hb7.mono (Nat.le_trans (Nat.le_trans s1 hs5) s6)))
          clear hr7 q7 hb7 C7 HG6 HQ6 HB6 HO6
          have HIT := Lib.hid (fun j (hj : j < O.length) => any_take O (fun x => x == (v : Int)) j hj)
          obtain ⟨hit, hhit⟩ : ∃ hit : Int → Bool, hit = (fun x => x == (v : Int)) := ⟨_, rfl⟩
          rw [← hhit] at HA HS
          have HIT := Lib.hid (fun j (hj : j < O.length) => show (O.take (j + 1)).any hit = ((O.take j).any hit || O[j] == (v : Int)) from by rw [hhit]; exact HIT.out j hj)
          clear hhit
          obtain ⟨W7, rfl⟩ : ∃ W7, W7 = w7 := ⟨_, rfl⟩
          go_wp2
          go_loopw [8, 9] (fun s i wr => ∃ k : Nat, i = .int .i64 (k : Int) ∧ s = .bool ((O.take k).any hit) ∧ k ≤ O.length ∧ wr = W7) (fun _ i _ => O.length + 1 - (intOf i).toNat)
          case atStart => exact ⟨0, rfl, by simp, Nat.zero_le _, rfl⟩
          case round =>
            obtain ⟨k, rfl, rfl, hk, rfl⟩ := hrel
            by_cases hi : k < O.length
            · obtain ⟨b, o, rfl, _, _, hc0⟩ := HO7.out k hi
              obtain ⟨a1, a2⟩ := HA.out k hi
              have hit1 := HIT.out k hi
              have b0 : (0 : Int) ≤ (k : Int) := by omega
              have b1 : (k : Int) < (O.length : Int) := by omega
              generalize hx : O[k] = x at *
              clear hx
              have C8 := lisIn_any A2 c2 L x _ _ wr HQ7.out (by omega)
              have C9 := lisIn_any A7 c7 N x _ _ wr HN7.out (by omega)
              generalize L.contains x = lx at *
              generalize N.contains x = nx at *
              generalize (O.take k).any hit = sb at *
              have H1 := Lib.hid hit1
              have C8 := Lib.hid C8
              have C9 := Lib.hid C9
              clear hit1
              cases lx
              · cases nx
                · cases sb
                  · clear a1 a2
                    go_wp2_with fail
                    refine (C8.out).mono ?_
                    rintro e w8 ⟨rfl, rfl⟩
                    go_wp2_with fail
                    refine (C9.out).mono ?_
                    rintro e w9 ⟨rfl, rfl⟩
                    by_cases hxv : x = (v : Int)
                    · have hq : (x == (v : Int)) = true := by simp [hxv]
                      have H1 := Lib.hid (show (O.take (k + 1)).any hit = true from by rw [H1.out, hq]; rfl)
                      clear hxv
                      go_wp2
                      go_roundw
                      case rel => exact ⟨k + 1, by go_num, by rw [H1.out], by omega, by first | rfl | trivial⟩
                      case measure => simp [intOf]; omega
                    · have hq : (x == (v : Int)) = false := by simp [hxv]
                      have H1 := Lib.hid (show (O.take (k + 1)).any hit = false from by rw [H1.out, hq]; rfl)
                      clear hxv
                      go_wp2
                      go_roundw
                      case rel => exact ⟨k + 1, by go_num, by rw [H1.out], by omega, by first | rfl | trivial⟩
                      case measure => simp [intOf]; omega
                  · clear a1 a2
                    go_wp2_with fail
                    refine (C8.out).mono ?_
                    rintro e w8 ⟨rfl, rfl⟩
                    go_wp2_with fail
                    refine (C9.out).mono ?_
                    rintro e w9 ⟨rfl, rfl⟩
                    have H1 := Lib.hid (show (O.take (k + 1)).any hit = true from by rw [H1.out]; rfl)
                    go_wp2
                    go_roundw
                    case rel => exact ⟨k + 1, by go_num, by rw [H1.out], by omega, by first | rfl | trivial⟩
                    case measure => simp [intOf]; omega
                · have hsb := a2 rfl
                  subst hsb
                  clear a1 a2
                  go_wp2_with fail
                  refine (C8.out).mono ?_
                  rintro e w8 ⟨rfl, rfl⟩
                  go_wp2_with fail
                  refine (C9.out).mono ?_
                  rintro e w9 ⟨rfl, rfl⟩
                  by_cases hxv : x = (v : Int)
                  · have hq : (x == (v : Int)) = true := by simp [hxv]
                    have H1 := Lib.hid (show (O.take (k + 1)).any hit = true from by rw [H1.out, hq]; rfl)
                    clear hxv
                    go_wp2
                    go_roundw
                    case rel => exact ⟨k + 1, by go_num, by rw [H1.out], by omega, by first | rfl | trivial⟩
                    case measure => simp [intOf]; omega
                  · have hq : (x == (v : Int)) = false := by simp [hxv]
                    have H1 := Lib.hid (show (O.take (k + 1)).any hit = false from by rw [H1.out, hq]; rfl)
                    clear hxv
                    go_wp2
                    go_roundw
                    case rel => exact ⟨k + 1, by go_num, by rw [H1.out], by omega, by first | rfl | trivial⟩
                    case measure => simp [intOf]; omega
              · have hsb := a1 rfl
                subst hsb
                cases nx
                · clear a1 a2
                  go_wp2_with fail
                  refine (C8.out).mono ?_
                  rintro e w8 ⟨rfl, rfl⟩
                  go_wp2_with fail
                  refine (C9.out).mono ?_
                  rintro e w9 ⟨rfl, rfl⟩
                  have H1 := Lib.hid (show (O.take (k + 1)).any hit = true from by rw [H1.out]; rfl)
                  go_wp2
                  go_roundw
                  case rel => exact ⟨k + 1, by go_num, by rw [H1.out], by omega, by first | rfl | trivial⟩
                  case measure => simp [intOf]; omega
                · exact absurd (a2 rfl) (by simp)
            · have hsb : (O.take k).any hit = true := by rw [List.take_of_length_le (by omega)]; exact HS.out
              generalize (O.take k).any hit = sb at *
              subst hsb
              go_wp2
              go_ret
              exact ⟨rfl, HB7.out⟩
end Go.Proofs.Ytiokblodjhmjmaa
