/-
  THE WALK OF laws.FnLongestTime.
-/
import Derived.Test.YtiokblodjhmjmaaDrLongestTime
import Derived.Test.YtiokblodjhmjmaaLA
namespace Go.Proofs.Ytiokblodjhmjmaa
open Go.RowKit
set_option maxRecDepth 20000 in
set_option maxHeartbeats 6400000 in
theorem fnLongestTime_walk (A : Option Addr) (c : Nat) (l : List Int) (w : World) (hb : RB w 0 w.heap.size A l) (hlc : l.length ≤ c ∧ c ≤ maxLen) :
    Calls Try.prog 14 #[.slice A l.length c] w fun e w' => e = .returned (.bool true) ∧ Below w.heap.size w w' := by
  have hl63 : l.length ≤ 9223372036854775807 := by have := hlc.2; unfold maxLen at this; omega
  by_cases hbig : 1048576 < l.length
  · go_enter Try.func14, Try.ntmps14
    go_wp2
    go_ret
    exact ⟨rfl, Below.refl _ _⟩
  · have C1 := Lib.hid (DrawLongestTime_any A c l w hb hlc.1 hlc.2)
    clear hb
    go_enter Try.func14, Try.ntmps14
    go_wp2_with fail
    refine (C1.out).mono ?_
    rintro e w1 ⟨⟨A1, c1, g, rfl, hg, hg16, hgc, hcm⟩, hb1⟩
    have HG := Lib.hid hg
    have s1 := hb1.size
    have hl9 : g.length ≤ 9223372036854775807 := by omega
    obtain ⟨n, hn⟩ : ∃ n, n = longL g := ⟨_, rfl⟩
    have c2 := LongestTime_any A1 c1 g w.heap.size w1.heap.size w1 HG.out (Nat.le_refl _) hl9
    rw [← hn] at c2
    have C2 := Lib.hid c2
    have CS := Lib.hid (fun w2 hg hs => LongestTimeS_any A1 c1 g w.heap.size w1.heap.size w2 hg hs hl9)
    rw [← hn] at CS
    have hx : ¬ n < 0 → _ := fun h0 => Bs.long_law hn h0
    have HX := Lib.hid hx
    have HB1 := Lib.hid hb1
    clear C1 hg hn c2 hb1 hx
    go_wp2_with fail
    refine (C2.out).mono ?_
    rintro e w2 ⟨rfl, hb2⟩
    have HG2 := Lib.hid (HG.out.below hb2 (Nat.le_refl _))
    have s2 := hb2.size
    have HB2 := Lib.hid (HB1.out.trans (hb2.mono s1))
    have C3 := Lib.hid (CS.out w2 HG2.out s2)
    clear hb2 C2
    have hne : (n != n) = false := by simp
    by_cases h0 : n < 0
    · have hd : decide (n < 0) = true := by simpa using h0
      clear h0 HX
      go_wp2_with fail
      refine (C3.out).mono ?_
      rintro e w3 ⟨rfl, hb3⟩
      have HG3 := Lib.hid (HG2.out.below hb3 s2)
      have s3 := hb3.size
      have HB3 := Lib.hid (HB2.out.trans (hb3.mono (Nat.le_trans s1 s2)))
      have C4 := Lib.hid (CS.out w3 HG3.out (Nat.le_trans s2 s3))
      clear hb3 C3
      go_wp2_with fail
      refine (C4.out).mono ?_
      rintro e w4 ⟨rfl, hb4⟩
      have HB4 := Lib.hid (HB3.out.trans (hb4.mono (Nat.le_trans (Nat.le_trans s1 s2) s3)))
      clear hb4 C4
      have heq : (n == n) = true := by simp
      go_wp2
      go_ret
      exact ⟨rfl, HB4.out⟩
    · have hd : decide (n < 0) = false := by simpa using h0
      obtain ⟨h8, hsum, hX⟩ := HX.out (by omega)
      have HT := Lib.hid hX
      have HS := Lib.hid hsum
      clear h0 HX hX hsum
      go_wp2_with fail
      refine (C3.out).mono ?_
      rintro e w3 ⟨rfl, hb3⟩
      have HG3 := Lib.hid (HG2.out.below hb3 s2)
      have s3 := hb3.size
      have HB3 := Lib.hid (HB2.out.trans (hb3.mono (Nat.le_trans s1 s2)))
      clear hb3 C3
      obtain ⟨W3, rfl⟩ : ∃ W3, W3 = w3 := ⟨_, rfl⟩
      go_wp2
      go_loop [5] (fun i => ∃ k : Nat, k ≤ g.length ∧ i = .int .i64 k) (fun i => g.length - (intOf i).toNat)
      case atStart => exact ⟨0, Nat.zero_le _, rfl⟩
      case round =>
        obtain ⟨k, hk, rfl⟩ := hrel
        by_cases hlt : k < g.length
        · obtain ⟨b1, o1, N, cN, rfl, _, _, k0, k1, k2, k3, hnc, hcN, hN⟩ := HG3.out k hlt
          obtain ⟨u0, u1, u2⟩ := HT.out k hlt
          clear k1 k2 k3 hN
          generalize g[k].time = x at *
          have hd2 : decide (n < x) = false := by simp; omega
          go_wp2
          go_round
          case rel => exact ⟨k + 1, by omega, by go_num⟩
          case measure => simp [intOf]; omega
        · have C5 := Lib.hid (allTime_any A1 c1 g _ _ W3 HG3.out h8 (fun i hi => ⟨by have := HT.out i hi; omega, by have := HT.out i hi; omega⟩))
          have hs := HS.out
          clear HS HT
          generalize Bs.sumL (g.map Bs.T.time) = s at *
          have hd3 : decide (n ≤ s) = true := by simpa using hs
          clear hs
          go_wp2_with fail
          refine (C5.out).mono ?_
          rintro e w5 ⟨rfl, rfl⟩
          go_wp2
          go_ret
          exact ⟨rfl, HB3.out⟩
end Go.Proofs.Ytiokblodjhmjmaa
