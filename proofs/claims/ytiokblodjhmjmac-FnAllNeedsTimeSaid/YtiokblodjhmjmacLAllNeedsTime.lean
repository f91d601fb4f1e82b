/-
  THE WALK OF laws.FnAllNeedsTime.
-/
import Derived.Test.YtiokblodjhmjmacDA
import Derived.Test.YtiokblodjhmjmacL1
import Derived.Test.YtiokblodjhmjmacLen2
import Derived.Test.YtiokblodjhmjmacMath12
import Derived.Test.YtiokblodjhmjmacW17
namespace Go.Proofs.Ytiokblodjhmjmac
open Go.RowKit
set_option maxRecDepth 20000 in
set_option maxHeartbeats 6400000 in
theorem fnAllNeedsTime_walk (A : Option Addr) (c : Nat) (l : List Int) (w : World) (hb : RB w 0 w.heap.size A l) (hlc : l.length ≤ c ∧ c ≤ maxLen) :
    Calls Try.prog 5 #[.slice A l.length c] w fun e w' => e = .returned (.bool true) ∧ Below w.heap.size w w' := by
  have hl63 : l.length ≤ 9223372036854775807 := by have := hlc.2; unfold maxLen at this; omega
  by_cases hbig : 1048576 < l.length
  · go_enter Try.func5, Try.ntmps5
    go_wp2
    go_ret
    exact ⟨rfl, Below.refl _ _⟩
  · have C1 := Lib.hid (DrawAllNeeds_any A c l w hb hlc.1 hlc.2)
    clear hb
    go_enter Try.func5, Try.ntmps5
    go_wp2_with fail
    refine (C1.out).mono ?_
    rintro e w1 ⟨⟨A1, c1, g, z, rfl, hg, hg16, hgc, hcm⟩, hb1⟩
    have HG := Lib.hid hg
    have s1 := hb1.size
    have hl9 : g.length ≤ 9223372036854775807 := by omega
    obtain ⟨L, hL⟩ : ∃ L, L = Bs.needsA g z := ⟨_, rfl⟩
    have c2 := AllNeeds_any A1 c1 g z w.heap.size w1.heap.size w1 HG.out (Nat.le_refl _) hl9
    have hlen := AllNeeds_len g z
    rw [← hL] at c2 hlen
    have C2 := Lib.hid c2
    have CS := Lib.hid (fun w2 hg hs => AllNeedsS_any A1 c1 g z w.heap.size w1.heap.size w2 hg hs hl9)
    rw [← hL] at CS
    have HL := Lib.hid hL
    have HB1 := Lib.hid hb1
    clear C1 hg hL c2 hb1
    go_wp2_with fail
    refine (C2.out).mono ?_
    rintro e w2 hr2
    obtain ⟨A2, c2, rfl, q2, hb2, hlc2, hcm2⟩ := hr2.ri
    have g2 := HG.out.below hb2 (Nat.le_refl _)
    have s2 := hb2.size
    have C3 := Lib.hid (CS.out w2 g2 s2)
    have HQ2 := Lib.hid q2
    have HG2 := Lib.hid g2
    have HB2 := Lib.hid (HB1.out.trans (hb2.mono s1))
    clear hr2 q2 g2 hb2 C2 HG HB1
    go_wp2_with fail
    refine (C3.out).mono ?_
    rintro e w3 hr3
    obtain ⟨A3, c3, rfl, q3, hb3, hlc3, hcm3⟩ := hr3.ri
    have s3 := hb3.size
    have C4 := Lib.hid (equalInts_same A2 c2 A3 c3 L _ _ _ _ w3 (HQ2.out.below hb3 (Nat.le_refl _)) q3 (by omega))
    have HG3 := Lib.hid (HG2.out.below hb3 s2)
    have HQ3 := Lib.hid (HQ2.out.below hb3 (Nat.le_refl _))
    have HB3 := Lib.hid (HB2.out.trans (hb3.mono (Nat.le_trans s1 s2)))
    clear hr3 q3 hb3 C3 HQ2 HB2 HG2
    go_wp2_with fail
    refine (C4.out).mono ?_
    rintro e w4 ⟨rfl, n, rfl⟩
    clear C4
    obtain ⟨W3, rfl⟩ : ∃ W3, W3 = w3 := ⟨_, rfl⟩
    have hs3 : w1.heap.size ≤ (W3.drewN n).heap.size := Nat.le_trans s2 s3
    have C5 := ValidGraph_any A1 c1 g w.heap.size w1.heap.size (W3.drewN n) (HG3.out.drewN n) hs3 hl9
    obtain ⟨hv, hhv⟩ : ∃ hv, hv = Bs.valid g := ⟨_, rfl⟩
    rw [← hhv] at C5
    have HHV := Lib.hid hhv
    have C5 := Lib.hid C5
    clear hhv
    go_wp2_with fail
    refine (C5.out).mono ?_
    rintro e w5 ⟨rfl, hb5⟩
    have s5 := hb5.size
    have HG5 := Lib.hid ((HG3.out.drewN n).below hb5 hs3)
    have HQ5 := Lib.hid ((HQ3.out.drewN n).below hb5 s3)
    have HB5 := Lib.hid (((HB3.out.drewN n).trans (hb5.mono (Nat.le_trans (Nat.le_trans s1 s2) s3))))
    clear hb5 C5 HG3 HQ3 HB3
    obtain ⟨W5, rfl⟩ : ∃ W5, W5 = w5 := ⟨_, rfl⟩
    have hs5 : w1.heap.size ≤ W5.heap.size := Nat.le_trans hs3 s5
    have hs25 : w2.heap.size ≤ W5.heap.size := Nat.le_trans s3 s5
    cases hv
    · clear HHV HL
      have hsA : w1.heap.size ≤ (W5).heap.size := hs5
      go_wp2_with fail
      refine (CS.out (W5) HG5.out hsA).mono ?_
      rintro e wA hrA
      obtain ⟨AA, cA, rfl, qA, hbA, _, _⟩ := hrA.ri
      have sA := hbA.size
      have CB := Lib.hid (equalInts_same A2 c2 AA cA L _ _ _ _ wA (HQ5.out.below hbA (by first | exact hsA | omega)) qA (by omega))
      have HBA := Lib.hid (HB5.out.trans (hbA.mono (Nat.le_trans s1 hsA)))
      clear hrA qA hbA
      go_wp2_with fail
      refine (CB.out).mono ?_
      rintro e wB ⟨rfl, nB, rfl⟩
      go_wp2
      go_ret
      exact ⟨rfl, HBA.out.drewN _⟩
    · by_cases hz0 : z < 0
      · have d0 : decide (z < 0) = true := by simpa using hz0
        clear hz0 HHV HL
        have hsA : w1.heap.size ≤ (W5).heap.size := hs5
        go_wp2_with fail
        refine (CS.out (W5) HG5.out hsA).mono ?_
        rintro e wA hrA
        obtain ⟨AA, cA, rfl, qA, hbA, _, _⟩ := hrA.ri
        have sA := hbA.size
        have CB := Lib.hid (equalInts_same A2 c2 AA cA L _ _ _ _ wA (HQ5.out.below hbA (by first | exact hsA | omega)) qA (by omega))
        have HBA := Lib.hid (HB5.out.trans (hbA.mono (Nat.le_trans s1 hsA)))
        clear hrA qA hbA
        go_wp2_with fail
        refine (CB.out).mono ?_
        rintro e wB ⟨rfl, nB, rfl⟩
        go_wp2
        go_ret
        exact ⟨rfl, HBA.out.drewN _⟩
      · by_cases hz1 : (g.length : Int) ≤ z
        · have d0 : decide (z < 0) = false := by simpa using hz0
          have d1 : decide ((g.length : Int) ≤ z) = true := by simpa using hz1
          clear hz0 hz1 HHV HL
          have hsA : w1.heap.size ≤ (W5).heap.size := hs5
          go_wp2_with fail
          refine (CS.out (W5) HG5.out hsA).mono ?_
          rintro e wA hrA
          obtain ⟨AA, cA, rfl, qA, hbA, _, _⟩ := hrA.ri
          have sA := hbA.size
          have CB := Lib.hid (equalInts_same A2 c2 AA cA L _ _ _ _ wA (HQ5.out.below hbA (by first | exact hsA | omega)) qA (by omega))
          have HBA := Lib.hid (HB5.out.trans (hbA.mono (Nat.le_trans s1 hsA)))
          clear hrA qA hbA
          go_wp2_with fail
          refine (CB.out).mono ?_
          rintro e wB ⟨rfl, nB, rfl⟩
          go_wp2
          go_ret
          exact ⟨rfl, HBA.out.drewN _⟩
        · obtain ⟨v, rfl⟩ : ∃ v : Nat, z = (v : Int) := ⟨z.toNat, by omega⟩
          have hv : v < g.length := by omega
          have d0 : decide ((v : Int) < 0) = false := by simp
          have d1 : decide ((g.length : Int) ≤ (v : Int)) = false := by simp; omega
          have d1' : decide (g.length ≤ v) = false := by simp; omega
          have d2 : (0 : Int) ≤ (v : Int) := by omega
          have d3 : (v : Int) < (g.length : Int) := by omega
          clear hz0 hz1 CS
          obtain ⟨H, hH⟩ : ∃ H, H = if Bs.valid g then Bs.headsC g else [] := ⟨_, rfl⟩
          obtain ⟨hHl, hL8, hall, hle, hpos⟩ := Bs.needtime_law HL.out hH HHV.out.symm hv
          have c6 := fun W hg hs => HeadTimes_any A1 c1 g w.heap.size w1.heap.size W hg hs hl9
          rw [← hH] at c6
          have C6 := Lib.hid c6
          have HA := Lib.hid hall
          have HST := Lib.hid (fun k (hk : k < L.length) => sumL_take L (fun x => Bs.timeOf g x.toNat) k hk)
          have hvH : v < H.length := by omega
          rw [gi_at hvH] at hle hpos
          have HP := Lib.hid hpos
          have HLE := Lib.hid hle
          clear c6 hH HL HHV hall hle hpos
          go_wp2
          go_loopw [6, 7] (fun s i wr => ∃ k : Nat, i = .int .i64 k ∧ k ≤ L.length ∧ (∃ t : Int, s = .int .i64 t ∧ t = Bs.sumL ((L.take k).map fun x => Bs.timeOf g x.toNat) ∧ 0 ≤ t ∧ t ≤ 20 * k) ∧ wr = W5) (fun _ i _ => L.length + 1 - (intOf i).toNat)
          case atStart => exact ⟨0, rfl, Nat.zero_le _, ⟨0, rfl, by simp [Bs.sumL], by omega, by omega⟩, rfl⟩
          case round =>
            obtain ⟨k, rfl, hk, ⟨t, rfl, ht, ht0, ht1⟩, rfl⟩ := hrel
            by_cases hi : k < L.length
            · obtain ⟨b, o, rfl, _, _, hc0⟩ := HQ5.out k hi
              obtain ⟨x0, x1, x2, x3⟩ := HA.out k hi
              have hst := HST.out k hi
              rw [← ht] at hst
              have b0 : (0 : Int) ≤ (k : Int) := by omega
              have b1 : (k : Int) < (L.length : Int) := by omega
              generalize hx : L[k] = x at *
              clear hx
              obtain ⟨u, rfl⟩ : ∃ u : Nat, x = (u : Int) := ⟨x.toNat, by omega⟩
              rw [Int.toNat_natCast] at x2 x3
              rw [show (((u : Nat) : Int)).toNat = u from Int.toNat_natCast u] at hst
              have hu : u < g.length := by omega
              obtain ⟨bg, og, N, cN, rfl, _, _, k0, k1, k2, k3, hnc, hcN, hN⟩ := HG5.out u hu
              have e1 : decide ((u : Int) < 0) = false := by simp
              have e2 : decide ((g.length : Int) ≤ (u : Int)) = false := by simp; omega
              have e2' : decide (g.length ≤ u) = false := by simp; omega
              rw [time_at hu] at x2 x3 hst
              have H1 := Lib.hid hst
              clear k1 k2 k3 hN hst ht hnc
              generalize g[u].time = tv at *
              have hw2 : IntKind.i64.wrap (t + tv) = t + tv := IntWalk.i64_in _ ⟨by omega, by omega⟩
              go_wp2
              go_roundw
              case rel => exact ⟨k + 1, by go_num, by omega, ⟨t + tv, rfl, H1.out.symm, by omega, by omega⟩, by first | rfl | trivial⟩
              case measure => simp [intOf]; omega
            · have et : t = Bs.sumL (L.map fun x => Bs.timeOf g x.toNat) := by rw [ht, List.take_of_length_le (by omega)]
              have hle := HLE.out
              have hpos := HP.out
              rw [← et] at hle hpos
              clear et ht HLE HP
              have C6 := Lib.hid (C6.out wr HG5.out hs5)
              go_wp2_with fail
              refine (C6.out).mono ?_
              rintro e w6 hr6
              obtain ⟨A6, c6, rfl, q6, hb6, hlc6, hcm6⟩ := hr6.ri
              obtain ⟨b, o, rfl, _, _, hc0⟩ := q6 v hvH
              have HB6 := Lib.hid (HB5.out.trans (hb6.mono (Nat.le_trans s1 hs5)))
              clear hr6 q6 hb6 C6
              generalize H[v] = y at *
              have heq : ((H.length : Int) == (g.length : Int)) = true := by rw [beq_iff_eq]; omega
              have e3 : decide (y ≤ t) = true := by simpa using hle
              have b1 : (v : Int) < (H.length : Int) := by omega
              generalize hb2 : decide (0 < t) = bt at *
              generalize hb1 : decide (0 < y) = bh at *
              subst hpos
              have hbb : (bh == bh) = true := by cases bh <;> rfl
              clear hle
              go_wp2
              go_ret
              exact ⟨rfl, HB6.out⟩
end Go.Proofs.Ytiokblodjhmjmac
