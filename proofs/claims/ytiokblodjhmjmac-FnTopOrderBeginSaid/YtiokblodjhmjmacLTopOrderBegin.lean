/-
  THE WALK OF laws.FnTopOrderBegin.
-/
import Derived.Test.YtiokblodjhmjmacDrTopOrder
import Derived.Test.YtiokblodjhmjmacL1
import Derived.Test.YtiokblodjhmjmacLen
import Derived.Test.YtiokblodjhmjmacMath12
namespace Go.Proofs.Ytiokblodjhmjmac
open Go.RowKit
set_option maxRecDepth 20000 in
set_option maxHeartbeats 6400000 in
theorem fnTopOrderBegin_walk (A : Option Addr) (c : Nat) (l : List Int) (w : World) (hb : RB w 0 w.heap.size A l) (hlc : l.length ≤ c ∧ c ≤ maxLen) :
    Calls Try.prog 4 #[.slice A l.length c] w fun e w' => e = .returned (.bool true) ∧ Below w.heap.size w w' := by
  have hl63 : l.length ≤ 9223372036854775807 := by have := hlc.2; unfold maxLen at this; omega
  by_cases hbig : 1048576 < l.length
  · go_enter Try.func4, Try.ntmps4
    go_wp2
    go_ret
    exact ⟨rfl, Below.refl _ _⟩
  · have C1 := Lib.hid (DrawTopOrder_any A c l w hb hlc.1 hlc.2)
    clear hb
    go_enter Try.func4, Try.ntmps4
    go_wp2_with fail
    refine (C1.out).mono ?_
    rintro e w1 ⟨⟨A1, c1, g, rfl, hg, hg16, hgc, hcm⟩, hb1⟩
    have HG := Lib.hid hg
    have s1 := hb1.size
    have hl9 : g.length ≤ 9223372036854775807 := by omega
    obtain ⟨L, hL⟩ : ∃ L, L = Bs.topL g := ⟨_, rfl⟩
    have c2 := TopOrder_any A1 c1 g w.heap.size w1.heap.size w1 HG.out (Nat.le_refl _) hl9
    have hlen := TopOrder_len g
    rw [← hL] at c2 hlen
    have C2 := Lib.hid c2
    have CS := Lib.hid (fun w2 hg hs => TopOrderS_any A1 c1 g w.heap.size w1.heap.size w2 hg hs hl9)
    rw [← hL] at CS
    have HL := Lib.hid hL
    clear C1 hg hL c2
    go_wp2_with fail
    refine (C2.out).mono ?_
    rintro e w2 hr2
    obtain ⟨A2, c2, rfl, q2, hb2, hlc2, hcm2⟩ := hr2.ri
    have g2 := HG.out.below hb2 (Nat.le_refl _)
    have s2 := hb2.size
    have C3 := Lib.hid (CS.out w2 g2 s2)
    have HQ2 := Lib.hid q2
    have HG2 := Lib.hid g2
    have HB2 := Lib.hid (hb1.trans (hb2.mono s1))
    clear hr2 q2 g2 hb2 C2
    go_wp2_with fail
    refine (C3.out).mono ?_
    rintro e w3 hr3
    obtain ⟨A3, c3, rfl, q3, hb3, hlc3, hcm3⟩ := hr3.ri
    have s3 := hb3.size
    have C4 := Lib.hid (equalInts_same A2 c2 A3 c3 L _ _ _ _ w3 (HQ2.out.below hb3 (Nat.le_refl _)) q3 (by omega))
    have HG3 := Lib.hid (HG2.out.below hb3 s2)
    have HQ3 := Lib.hid (HQ2.out.below hb3 (Nat.le_refl _))
    have HB3 := Lib.hid (HB2.out.trans (hb3.mono (Nat.le_trans s1 s2)))
    clear hr3 q3 hb3 C3 HQ2 HB2 HG2
    go_wp2_with fail
    refine (C4.out).mono ?_
    rintro e w4 ⟨rfl, n, rfl⟩
    clear C4
    obtain ⟨W3, rfl⟩ : ∃ W3, W3 = w3 := ⟨_, rfl⟩
    by_cases h0 : L.length = 0
    · have hq : ((L.length : Int) == 0) = true := by simp [h0]
      clear h0 HL
      have hs3 : w1.heap.size ≤ (W3.drewN n).heap.size := Nat.le_trans s2 s3
      go_wp2_with fail
      refine (CS.out (W3.drewN n) (HG3.out.drewN n) hs3).mono ?_
      rintro e w5 hr5
      obtain ⟨A5, c5, rfl, q5, hb5, _, _⟩ := hr5.ri
      have s5 := hb5.size
      have C6 := Lib.hid (equalInts_same A2 c2 A5 c5 L _ _ _ _ w5 ((HQ3.out.drewN n).below hb5 s3) q5 (by omega))
      have HB5 := Lib.hid (((HB3.out.drewN n).trans (hb5.mono (Nat.le_trans (Nat.le_trans s1 s2) s3))))
      clear hr5 q5 hb5
      go_wp2_with fail
      refine (C6.out).mono ?_
      rintro e w6 ⟨rfl, n6, rfl⟩
      go_wp2
      go_ret
      exact ⟨rfl, HB5.out.drewN _⟩
    · have hq : ((L.length : Int) == 0) = false := by rw [beq_eq_false_iff_ne]; omega
      have h00 : 0 < L.length := by omega
      obtain ⟨x0, x1, hnil, hall⟩ := Bs.begin_law HL.out h00
      obtain ⟨b, o, rfl, _, _, hc0⟩ := HQ3.out 0 h00
      rw [Nat.add_zero] at hc0
      generalize hx : L[0] = x at *
      clear hx h0 HL CS
      obtain ⟨v, rfl⟩ : ∃ v : Nat, x = (v : Int) := ⟨x.toNat, by omega⟩
      have hv : v < g.length := by omega
      rw [Int.toNat_natCast, need_at hv] at hnil
      have HA := Lib.hid hall
      obtain ⟨bg, og, N, cN, rfl, _, _, k0, k1, k2, k3, hnc, hcN, hN⟩ := HG3.out v hv
      rw [hnil] at k1
      have l0 : (0 : Int) < (L.length : Int) := by omega
      clear k0 k2 k3 hN hnc hall hnil
      go_wp2
      go_loopw [5] (fun i wr => ∃ k : Nat, i = .int .i64 k ∧ k ≤ v ∧ ∃ n, wr = W3.drewN n) (fun i _ => g.length + 1 - (intOf i).toNat)
      case atStart => exact ⟨0, rfl, Nat.zero_le _, n, rfl⟩
      case round =>
        obtain ⟨k, rfl, hk, m, rfl⟩ := hrel
        have hkl : k < g.length := by omega
        have d1 : decide ((k : Int) < (g.length : Int)) = true := by simp; omega
        have d1' : decide (k < g.length) = true := by simp; omega
        by_cases hi : k < v
        · obtain ⟨bg', og', N', cN', e, _, _, k0', k1', k2', k3', hnc', hcN', hN'⟩ := HG3.out k hkl
          cases e
          have hne := HA.out k hkl (by omega)
          have d2 : decide ((k : Int) < (v : Int)) = true := by simp; omega
          have d2' : decide (k < v) = true := by simp; omega
          have hq2 : ((g[k].needs.length : Int) == 0) = false := by rw [beq_eq_false_iff_ne]; omega
          clear k0' k2' k3' hN' hne
          go_wp2
          try go_quiet (fail)
          go_wp2
          go_roundw
          case rel => exact ⟨k + 1, by go_num, by omega, _, by first | rfl | rw [World.drewN_drewN]⟩
          case measure => simp [intOf]; omega
        · have hkv : k = v := by omega
          subst hkv
          have d2 : decide ((k : Int) < (k : Int)) = false := by simp
          go_wp2
          try go_quiet (fail)
          go_wp2
          try go_quiet (fail)
          go_wp2
          go_ret
          exact ⟨rfl, HB3.out.drewN _⟩
end Go.Proofs.Ytiokblodjhmjmac
