/-
  THE WALK OF laws.FnLeastTime.
-/
import Derived.Test.YtnbgekbfccejdaaK17
import Derived.Test.YtnbgekbfccejdaaMath44
import Derived.Test.YtnbgekbfccejdaaR22
import Derived.Test.YtnbgekbfccejdaaMath45
import Derived.Test.YtnbgekbfccejdaaL5
namespace Go.Proofs.Ytnbgekbfccejdaa
open Go.RowKit
set_option maxRecDepth 20000 in
set_option maxHeartbeats 6400000 in
theorem fnLeastTime_walk (A : Option Addr) (c : Nat) (l : List Int) (w : World) (hb : RB w 0 w.heap.size A l) (hlc : l.length ≤ c ∧ c ≤ maxLen) :
    Calls Try.prog 13 #[.slice A l.length c] w fun e w' => e = .returned (.bool true) ∧ Below w.heap.size w w' := by
  have hl63 : l.length ≤ 9223372036854775807 := by have := hlc.2; unfold maxLen at this; omega
  by_cases hbig : 1048576 < l.length
  · go_enter Try.func13, Try.ntmps13
    go_wp2
    go_ret
    exact ⟨rfl, Below.refl _ _⟩
  · have C1 := Lib.hid (DrawLeastTime_any A c l w hb hlc.1 hlc.2)
    clear hb
    go_enter Try.func13, Try.ntmps13
    go_wp2_with fail
    refine (C1.out).mono ?_
    rintro e w1 ⟨⟨A1, c1, g, A2, c2, m, wk, rfl, hg, hg16, hgc, hcm, hm, hm100, hmc, hmm⟩, hb1⟩
    have HG := Lib.hid hg
    have HM := Lib.hid hm
    have s1 := hb1.size
    have hl9 : g.length ≤ 9223372036854775807 := by omega
    have hm9 : m.length ≤ 9223372036854775807 := by omega
    have q2 := LeastTime_any A1 c1 g A2 c2 m wk w.heap.size w1.heap.size w.heap.size w1.heap.size w1 HG.out (Nat.le_refl _) HM.out (Nat.le_refl _) hl9 hm9
    have qs := fun W hg hm hs => LeastTimeS_any A1 c1 g A2 c2 m wk w.heap.size w1.heap.size w.heap.size w1.heap.size W hg hs hm hs hl9 hm9
    have CI := Lib.hid (fun wk' W hg hm hs => LeastTime_any A1 c1 g A2 c2 m wk' w.heap.size w1.heap.size w.heap.size w1.heap.size W hg hs hm hs hl9 hm9)
    obtain ⟨V, hV⟩ : ∃ V, V = leastL g m wk := ⟨_, rfl⟩
    rw [← hV] at q2 qs
    have HV := Lib.hid hV
    have C2 := Lib.hid q2
    have CS := Lib.hid qs
    have HB1 := Lib.hid hb1
    have hne : (V != V) = false := by simp
    have heq : (V == V) = true := by simp
    clear C1 hg hm q2 qs hb1 hV
    go_wp2_with fail
    with_reducible refine (C2.out).mono ?_
    rintro e w2 ⟨rfl, hb2⟩
    have s2 := hb2.size
    have HG2 := Lib.hid (HG.out.below hb2 (Nat.le_refl _))
    have HM2 := Lib.hid (HM.out.below hb2 (Nat.le_refl _))
    have HB2 := Lib.hid (HB1.out.trans (hb2.mono s1))
    have C3 := Lib.hid (CS.out w2 HG2.out HM2.out s2)
    clear hb2 C2 HG HM HB1
    go_wp2_with fail
    with_reducible refine (C3.out).mono ?_
    rintro e w3 ⟨rfl, hb3⟩
    have s3 := hb3.size
    have hs3 : w1.heap.size ≤ w3.heap.size := Nat.le_trans s2 s3
    have HG3 := Lib.hid (HG2.out.below hb3 s2)
    have HM3 := Lib.hid (HM2.out.below hb3 s2)
    have HB3 := Lib.hid (HB2.out.trans (hb3.mono (Nat.le_trans s1 s2)))
    clear hb3 C3 HG2 HM2 HB2
    obtain ⟨W3, rfl⟩ : ∃ W3, W3 = w3 := ⟨_, rfl⟩
    by_cases h0 : V < 0
    · clear HV
      have C6 := Lib.hid (CS.out W3 HG3.out HM3.out hs3)
      clear CS
      go_wp2_with fail
      with_reducible refine (C6.out).mono ?_
      rintro e w6 ⟨rfl, hb6⟩
      have HB6 := Lib.hid (HB3.out.trans (hb6.mono (Nat.le_trans s1 hs3)))
      clear hb6 C6
      go_wp2
      go_ret
      exact ⟨rfl, HB6.out⟩
    · clear hne heq CS
      obtain ⟨hcan, hve⟩ := Bs.leastL_can HV.out h0
      obtain ⟨hv, hroom, hw1, hw4⟩ := Bs.canV_iff.1 hcan
      have hF := valid_fine hv
      have hm3 := Bs.roomOk_len hroom
      obtain ⟨k1, k2, k3⟩ := Bs.leastK_ge g m wk
      rw [← hve] at k1 k2 k3
      have hVb := Bs.least_b hcan
      rw [← hve] at hVb
      have hsum := Bs.ceil_ge (by omega) k2
      have hone : leastL g m 1 = leastK g m 1 3 := leastL_yes (Bs.can_one hcan)
      have hone2 := Bs.ceil_ge (by omega) (Bs.leastK_ge g m 1).2.1
      rw [← hone] at hone2
      have hsb := Bs.sumT_b2 hF
      have HK3 := Lib.hid k3
      have CP := Lib.hid (fun (p r : Int) W hg hs => PoolTime_any A1 c1 g p r w.heap.size w1.heap.size W hg hs hl9)
      have cl := fun W hg hs => LongestTime_any A1 c1 g w.heap.size w1.heap.size W hg hs hl9
      rw [show longL g = longC g from by unfold longL; rw [hv]; rfl] at cl
      have CL := Lib.hid cl
      have CA := Lib.hid (fun W hg => allTime_any A1 c1 g w.heap.size w1.heap.size W hg hF)
      have hd0 : decide (V < 0) = false := by simp; omega
      have HM3L := Lib.hid hm3
      clear HV hcan hve hv hroom hF hm3 k2 k3 hone cl
      obtain ⟨V1, hV1⟩ : ∃ V1, V1 = leastL g m 1 := ⟨_, rfl⟩
      rw [← hV1] at hone2
      have HV1 := Lib.hid hV1
      clear hV1
      generalize longC g = LC at *
      generalize Bs.sumT g = sm at *
      go_wp2
      go_loopw [7] (fun i wr => ∃ (k : Nat), k ≤ 3 ∧ i = .int .i64 k ∧ Below w.heap.size w wr ∧ Below W3.heap.size W3 wr) (fun i _ => 3 - (intOf i).toNat)
      case atStart => exact ⟨0, by omega, rfl, HB3.out, Below.refl _ _⟩
      case round =>
        obtain ⟨k, hk, rfl, hb, hbw⟩ := hrel
        by_cases hlt : k < 3
        · have hkm : k < m.length := by have := HM3L.out; omega
          have hkm2 : (k : Int) < (m.length : Int) := by omega
          obtain ⟨b, o, rfl, _, _, hc⟩ := (HM3.out.below hbw hs3).at_ hkm
          rw [← Bs.giZ_at hkm] at hc
          have hk3 := HK3.out k hlt
          have C6 := Lib.hid (CP.out (k : Int) (Bs.giZ m k) wr (HG3.out.below hbw hs3) (Nat.le_trans hs3 hbw.size))
          have HB := Lib.hid hb
          have HBW := Lib.hid hbw
          have i0 : (0 : Int) ≤ (k : Int) := by omega
          have s4 := hb.size
          have s5 := hbw.size
          clear hb hbw
          generalize Bs.giZ m k = mk at *
          generalize Bs.poolT g (k : Nat) mk = y at *
          have d1 : decide (y > V) = false := by simp; omega
          have d2 : decide (V < y) = false := by simp; omega
          go_wp2_with fail
          with_reducible refine (C6.out).mono ?_
          rintro e w6 ⟨rfl, hb6⟩
          have HB6 := Lib.hid (HB.out.trans (hb6.mono s4))
          have HBW6 := Lib.hid (HBW.out.trans (hb6.mono s5))
          clear hb6 C6
          go_wp2
          go_roundw
          case rel => exact ⟨k + 1, by omega, by go_num, HB6.out, HBW6.out⟩
          case measure => simp [intOf]; omega
        · obtain rfl : k = 3 := by omega
          have hn3 : ¬ ((3 : Int) < (m.length : Int)) := by have := HM3L.out; omega
          have HB := Lib.hid hb
          have HBW := Lib.hid hbw
          have HGr := Lib.hid (HG3.out.below hbw hs3)
          have HMr := Lib.hid (HM3.out.below hbw hs3)
          have hsr : w1.heap.size ≤ wr.heap.size := Nat.le_trans hs3 hbw.size
          have C6 := Lib.hid (CL.out wr HGr.out hsr)
          have d1 : decide (V ≥ LC) = true := by simp; omega
          have d2 : decide (LC ≤ V) = true := by simp; omega
          have hmul : 0 ≤ V * wk ∧ V * wk ≤ 4000 := ⟨Int.mul_nonneg hVb.1 (by omega), Int.le_trans (Int.mul_le_mul_of_nonneg_left hw4 hVb.1) (by omega)⟩
          generalize hmm : V * wk = P at *
          have hw : IntKind.i64.wrap (V * wk) = P := by rw [hmm]; exact IntWalk.i64_in _ ⟨by omega, by omega⟩
          have hw2 : IntKind.i64.wrap P = P := IntWalk.i64_in _ ⟨by omega, by omega⟩
          have d3 : decide (P ≥ sm) = true := by simp; omega
          have d4 : decide (sm ≤ P) = true := by simp; omega
          have d5 : decide (V1 ≥ sm) = true := by simp; omega
          have d6 : decide (sm ≤ V1) = true := by simp; omega
          clear hb hbw CL CP HK3
          go_wp2_with fail
          with_reducible refine (C6.out).mono ?_
          rintro e w6 ⟨rfl, hb6⟩
          have HB6 := Lib.hid (HB.out.trans (hb6.mono HB.out.size))
          have HG6 := Lib.hid (HGr.out.below hb6 hsr)
          have HM6 := Lib.hid (HMr.out.below hb6 hsr)
          have s6 : w1.heap.size ≤ w6.heap.size := Nat.le_trans hsr hb6.size
          clear hb6 C6
          have C7 := Lib.hid (CA.out w6 HG6.out)
          go_wp2_with fail
          with_reducible refine (C7.out).mono ?_
          rintro e w7 ⟨rfl, rfl⟩
          have c8 := CI.out 1 w6 HG6.out HM6.out s6
          rw [← HV1.out] at c8
          have C8 := Lib.hid c8
          clear c8
          clear C7
          go_wp2_with fail
          with_reducible refine (C8.out).mono ?_
          rintro e w8 ⟨rfl, hb8⟩
          have HB8 := Lib.hid (HB6.out.trans (hb8.mono HB6.out.size))
          have HG8 := Lib.hid (HG6.out.below hb8 s6)
          clear hb8 C8
          have C9 := Lib.hid (CA.out w8 HG8.out)
          go_wp2_with fail
          with_reducible refine (C9.out).mono ?_
          rintro e w9 ⟨rfl, rfl⟩
          go_wp2
          go_ret
          exact ⟨rfl, HB8.out⟩
end Go.Proofs.Ytnbgekbfccejdaa
