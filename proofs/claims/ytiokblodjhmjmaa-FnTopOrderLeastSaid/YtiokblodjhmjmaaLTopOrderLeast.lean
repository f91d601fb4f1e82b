/-
  THE WALK OF laws.FnTopOrderLeast.
-/
import Derived.Test.YtiokblodjhmjmaaDrTopOrder
import Derived.Test.YtiokblodjhmjmaaL1
import Derived.Test.YtiokblodjhmjmaaLen
import Derived.Test.YtiokblodjhmjmaaMath4
namespace Go.Proofs.Ytiokblodjhmjmaa
open Go.RowKit
set_option maxHeartbeats 6400000 in
theorem fnTopOrderLeast_walk (A : Option Addr) (c : Nat) (l : List Int) (w : World) (hb : RB w 0 w.heap.size A l) (hlc : l.length ≤ c ∧ c ≤ maxLen) :
    Calls Try.prog 5 #[.slice A l.length c] w fun e w' => e = .returned (.bool true) ∧ Below w.heap.size w w' := by
  have hl63 : l.length ≤ 9223372036854775807 := by have := hlc.2; unfold maxLen at this; omega
  by_cases hbig : 1048576 < l.length
  · go_enter Try.func5, Try.ntmps5
    go_wp2
    go_ret
    exact ⟨rfl, Below.refl _ _⟩
  · have C1 := Lib.hid (DrawTopOrder_any A c l w hb hlc.1 hlc.2)
    clear hb
    go_enter Try.func5, Try.ntmps5
    go_wp2_with fail
    refine (C1.out).mono ?_
    rintro e w1 ⟨⟨A1, c1, g, rfl, hg, hg16, hgc, hcm⟩, hb1⟩
    have HG := Lib.hid hg
    have s1 := hb1.size
    have hl9 : g.length ≤ 9223372036854775807 := by omega
    obtain ⟨L, hL⟩ : ∃ L, L = Bs.topL g := ⟨_, rfl⟩
    have c2 := TopOrder_any A1 c1 g w.heap.size w1.heap.size w1 HG.out (Nat.le_refl _) hl9
    have hlen := TopOrder_len g
    rw [← hL] at c2 hlen
    have C2 := Lib.hid c2
    have C3 := Lib.hid (fun w2 hg hs => TopOrderS_any A1 c1 g w.heap.size w1.heap.size w2 hg hs hl9)
    rw [← hL] at C3
    have HL := Lib.hid hL
    clear C1 hg hL c2
    go_wp2_with fail
    refine (C2.out).mono ?_
    rintro e w2 hr2
    obtain ⟨A2, c2, rfl, q2, hb2, hlc2, hcm2⟩ := hr2.ri
    have g2 := HG.out.below hb2 (Nat.le_refl _)
    have s2 := hb2.size
    have C3 := Lib.hid (C3.out w2 g2 s2)
    have HQ2 := Lib.hid q2
    have HG2 := Lib.hid g2
    have HB2 := Lib.hid (hb1.trans (hb2.mono s1))
    clear hr2 q2 g2 hb2 C2
    go_wp2_with fail
    refine (C3.out).mono ?_
    rintro e w3 hr3
    obtain ⟨A3, c3, rfl, q3, hb3, hlc3, hcm3⟩ := hr3.ri
    have s3 := hb3.size
    have C4 := Lib.hid (equalInts_same A2 c2 A3 c3 L _ _ _ _ w3 (HQ2.out.below hb3 (Nat.le_refl _)) q3 (by omega))
    have HG3 := Lib.hid (HG2.out.below hb3 s2)
    have HQ3 := Lib.hid (HQ2.out.below hb3 (Nat.le_refl _))
    have HB3 := Lib.hid (HB2.out.trans (hb3.mono (Nat.le_trans s1 s2)))
    clear hr3 q3 hb3 C3 HQ2 HB2 HG2
    go_wp2_with fail
    refine (C4.out).mono ?_
    rintro e w4 ⟨rfl, n, rfl⟩
    clear C4
    obtain ⟨W3, rfl⟩ : ∃ W3, W3 = w3 := ⟨_, rfl⟩

    have HR := Lib.hid (topL_range g L HL.out)
    have HT := Lib.hid (topL_least g L HL.out)
    go_wp2
    go_loopw [5] (fun i wr => ∃ k : Nat, i = .int .i64 (k : Int) ∧ 1 ≤ k ∧ ∃ n, wr = W3.drewN n) (fun i _ => L.length + 1 - (intOf i).toNat)
    case atStart => exact ⟨1, rfl, Nat.le_refl _, n, rfl⟩
    case round =>
      obtain ⟨kk, rfl, hk1, m, rfl⟩ := hrel
      by_cases hkl : kk < L.length
      · obtain ⟨k, hkk⟩ : ∃ k, kk = k + 1 := ⟨kk - 1, by omega⟩
        have hkL : k < L.length := by omega
        obtain ⟨b, o, rfl, _, _, hc0⟩ := HQ3.out k hkL
        obtain ⟨b', o', e, _, _, hc1⟩ := HQ3.out kk hkl
        cases e
        have HTk := Lib.hid (show L[kk] < L[k] → L[k] ∈ Bs.need g L[kk].toNat from by subst hkk; exact HT.out k hkl)
        obtain ⟨x0, x1⟩ := HR.out kk hkl
        have hkm : (kk : Int) - 1 = (k : Int) := by omega
        have b0 : (0 : Int) ≤ (k : Int) := by omega
        have b1 : (k : Int) < (L.length : Int) := by omega
        have b2 : (0 : Int) ≤ (kk : Int) := by omega
        have b3 : (kk : Int) < (L.length : Int) := by omega
        have HKK := Lib.hid hkk
        clear hkk
        generalize L[k] = y at *
        generalize L[kk] = x at *
        obtain ⟨i, rfl⟩ : ∃ i : Nat, x = (i : Int) := ⟨x.toNat, by omega⟩
        by_cases hxy : (i : Int) < y
        · have hd : decide ((i : Int) < y) = true := by simpa using hxy
          have hi : i < g.length := by omega
          obtain ⟨b1, o1, N, cN, rfl, _, _, k0, k1, k2, k3, hnc, hcN, hN⟩ := HG3.out i hi
          have hmem := HTk.out hxy
          rw [Int.toNat_natCast, need_at hi] at hmem
          have C := fun j => Lib.hid (lisIn_quiet2 N cN g[i].needs y _ _ W3 hN (by omega) m j)
          have hcon : g[i].needs.contains y = true := by simpa using hmem
          rw [hcon] at C
          clear hcon hmem k0 k2 k3 hN HTk
          go_wp2
          have hw : IntKind.i64.wrap (k : Int) = (k : Int) := IntWalk.i64_in _ ⟨by omega, by omega⟩
          go_quiet ((go_at_call 22; exact (C _).out))
          go_wp2
          go_roundw
          case rel => exact ⟨kk + 1, by go_num, by omega, _, by first | rfl | rw [World.drewN_drewN]⟩
          case measure => simp [intOf]; omega
        · have hd : decide ((i : Int) < y) = false := by simpa using hxy
          go_wp2
          have hw : IntKind.i64.wrap (k : Int) = (k : Int) := IntWalk.i64_in _ ⟨by omega, by omega⟩
          go_quiet (fail)
          go_wp2
          go_roundw
          case rel => exact ⟨kk + 1, by go_num, by omega, _, by first | rfl | rw [World.drewN_drewN]⟩
          case measure => simp [intOf]; omega
      · go_wp2
        go_ret
        exact ⟨rfl, HB3.out.drewN _⟩
end Go.Proofs.Ytiokblodjhmjmaa
