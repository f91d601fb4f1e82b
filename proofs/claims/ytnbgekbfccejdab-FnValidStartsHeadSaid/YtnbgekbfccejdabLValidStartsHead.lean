/-
  THE WALK OF laws.FnValidStartsHead.
-/
import Derived.Test.YtnbgekbfccejdabK17
import Derived.Test.YtnbgekbfccejdabK16
import Derived.Test.YtnbgekbfccejdabK14
import Derived.Test.YtnbgekbfccejdabK15
import Derived.Test.YtnbgekbfccejdabMath44
import Derived.Test.YtnbgekbfccejdabK8
namespace Go.Proofs.Ytnbgekbfccejdab
open Go.RowKit
set_option maxRecDepth 20000 in
set_option maxHeartbeats 6400000 in
theorem fnValidStartsHead_walk (A : Option Addr) (c : Nat) (l : List Int) (w : World) (hb : RB w 0 w.heap.size A l) (hlc : l.length ≤ c ∧ c ≤ maxLen) :
    Calls Try.prog 12 #[.slice A l.length c] w fun e w' => e = .returned (.bool true) ∧ Below w.heap.size w w' := by
  have hl63 : l.length ≤ 9223372036854775807 := by have := hlc.2; unfold maxLen at this; omega
  by_cases hbig : 1048576 < l.length
  · go_enter Try.func12, Try.ntmps12
    go_wp2
    go_ret
    exact ⟨rfl, Below.refl _ _⟩
  · have C1 := Lib.hid (DrawValidStarts_any A c l w hb hlc.1 hlc.2)
    clear hb
    go_enter Try.func12, Try.ntmps12
    go_wp2_with fail
    refine (C1.out).mono ?_
    rintro e w1 ⟨⟨A1, c1, g, A2, c2, m, wk, A3, c3, S, rfl, hg, hg16, hgc, hcm, hm, hm100, hmc, hmm, hS, hS100, hSc, hSm⟩, hb1⟩
    have HG := Lib.hid hg
    have HM := Lib.hid hm
    have HS := Lib.hid hS
    have s1 := hb1.size
    have hl9 : g.length ≤ 9223372036854775807 := by omega
    have hm9 : m.length ≤ 9223372036854775807 := by omega
    have hS9 : S.length ≤ 9223372036854775807 := by omega
    have q2 := ValidStarts_any A1 c1 g A2 c2 m A3 c3 S wk w.heap.size w1.heap.size w.heap.size w1.heap.size w.heap.size w1.heap.size w1 HG.out (Nat.le_refl _) HM.out (Nat.le_refl _) HS.out (Nat.le_refl _) hl9 hm9 hS9
    have qs := fun W hg hm hr hs => ValidStartsS_any A1 c1 g A2 c2 m A3 c3 S wk w.heap.size w1.heap.size w.heap.size w1.heap.size w.heap.size w1.heap.size W hg hs hm hs hr hs hl9 hm9 hS9
    have CI := Lib.hid (fun (A2 : Option Addr) (c2 : Nat) (m' : List Int) (A3 : Option Addr) (c3 : Nat) (S' : List Int) (wk' : Int) (l1 h1 l2 h2 : Nat) W hg hs hm hh1 hS hh2 hml hsl => ValidStarts_any A1 c1 g A2 c2 m' A3 c3 S' wk' w.heap.size w1.heap.size l1 h1 l2 h2 W hg hs hm hh1 hS hh2 hl9 hml hsl)
    obtain ⟨V, hV⟩ : ∃ V, V = Bs.stV g m wk S := ⟨_, rfl⟩
    rw [← hV] at q2 qs
    have HV := Lib.hid hV
    have C2 := Lib.hid q2
    have CS := Lib.hid qs
    have HB1 := Lib.hid hb1
    have hne : (V != V) = false := by simp
    have heq : (V == V) = true := by simp
    clear C1 hg hm hS q2 qs hb1 hV
    go_wp2_with fail
    with_reducible refine (C2.out).mono ?_
    rintro e w2 ⟨rfl, hb2⟩
    have s2 := hb2.size
    have HG2 := Lib.hid (HG.out.below hb2 (Nat.le_refl _))
    have HM2 := Lib.hid (HM.out.below hb2 (Nat.le_refl _))
    have HS2 := Lib.hid (HS.out.below hb2 (Nat.le_refl _))
    have HB2 := Lib.hid (HB1.out.trans (hb2.mono s1))
    have C3 := Lib.hid (CS.out w2 HG2.out HM2.out HS2.out s2)
    clear hb2 C2 HG HM HS HB1
    go_wp2_with fail
    with_reducible refine (C3.out).mono ?_
    rintro e w3 ⟨rfl, hb3⟩
    have s3 := hb3.size
    have hs3 : w1.heap.size ≤ w3.heap.size := Nat.le_trans s2 s3
    have HG3 := Lib.hid (HG2.out.below hb3 s2)
    have HM3 := Lib.hid (HM2.out.below hb3 s2)
    have HS3 := Lib.hid (HS2.out.below hb3 s2)
    have HB3 := Lib.hid (HB2.out.trans (hb3.mono (Nat.le_trans s1 s2)))
    clear hb3 C3 HG2 HM2 HS2 HB2
    obtain ⟨W3, rfl⟩ : ∃ W3, W3 = w3 := ⟨_, rfl⟩
    cases V
    · clear HV
      have C6 := Lib.hid (CS.out W3 HG3.out HM3.out HS3.out hs3)
      clear CS
      go_wp2_with fail
      with_reducible refine (C6.out).mono ?_
      rintro e w6 ⟨rfl, hb6⟩
      have HB6 := Lib.hid (HB3.out.trans (hb6.mono (Nat.le_trans s1 hs3)))
      clear hb6 C6
      go_wp2
      go_ret
      exact ⟨rfl, HB6.out⟩
    · clear hne heq CS CI
      have HV2 := Lib.hid HV.out.symm
      obtain ⟨hcan, hk, _⟩ := Bs.stV_iff.1 HV2.out
      have hv := (Bs.canV_iff.1 hcan).1
      have hF := valid_fine hv
      have hlen := Bs.clk_len hk
      have HHL := Lib.hid (Bs.head_le HV2.out)
      have c6 := HeadTimes_any A1 c1 g w.heap.size w1.heap.size W3 HG3.out hs3 hl9
      rw [hv] at c6
      simp only [if_true] at c6
      have hhl : (Bs.headsC g).length = g.length := (Bs.headsK_mid hF (Bs.top g).length (Nat.le_refl _)).len
      have HHG := Lib.hid (fun i (hi : i < (Bs.headsC g).length) => show (Bs.headsC g)[i] ≤ Bs.giZ S i from by
        have := HHL.out i (by omega)
        rw [show Bs.gi (Bs.headsC g) i = (Bs.headsC g)[i] from by unfold Bs.gi; rw [List.getD_eq_getElem?_getD, List.getElem?_eq_getElem hi]; rfl] at this
        exact this)
      generalize Bs.headsC g = H at *
      have C6 := Lib.hid c6
      have HLEN := Lib.hid (show H.length = S.length from by omega)
      clear HV hcan hk hv hF hlen HHL c6 hhl
      go_wp2_with fail
      with_reducible refine (C6.out).mono ?_
      rintro e w6 ⟨⟨A6, c6, rfl, ho6⟩, hb6⟩
      have HO6 := Lib.hid ho6.ri
      have HS6 := Lib.hid (HS3.out.below hb6 hs3)
      have HB6 := Lib.hid (HB3.out.trans (hb6.mono (Nat.le_trans s1 hs3)))
      clear ho6 hb6 C6 HS3 HB3
      go_wp2
      go_loopw [9] (fun i wr => ∃ (k n : Nat), k ≤ S.length ∧ i = .int .i64 k ∧ wr = w6.drewN n) (fun i _ => S.length - (intOf i).toNat)
      case atStart => exact ⟨0, 0, Nat.zero_le _, rfl, rfl⟩
      case round =>
        obtain ⟨k, n, hk, rfl, rfl⟩ := hrel
        by_cases hlt : k < S.length
        · have hkh : k < H.length := by have := HLEN.out; omega
          obtain ⟨bS, oS, rfl, _, _, hc⟩ := HS6.out.at_ hlt
          obtain ⟨bH, oH, rfl, _, _, hch⟩ := HO6.out.at_ hkh
          have hle := HHG.out k hkh
          rw [← Bs.giZ_at hlt] at hc
          have i0 : (0 : Int) ≤ (k : Int) := by omega
          have i1 : (k : Int) < (S.length : Int) := by omega
          have i2 : (k : Int) < (H.length : Int) := by omega
          have d0 : decide ((k : Int) ≥ (H.length : Int)) = false := by simp; omega
          have d0' : decide ((H.length : Int) ≤ (k : Int)) = false := by simp; omega
          have d0'' : decide (H.length ≤ k) = false := by simp; omega
          generalize H[k] = hv at *
          generalize Bs.giZ S k = sk at *
          have d1 : decide (sk < hv) = false := by simp; omega
          go_wp2
          go_quiet (fail)
          go_wp2
          go_roundw
          case rel => exact ⟨k + 1, _, by omega, by go_num, by first | rfl | rw [World.drewN_drewN]⟩
          case measure => simp [intOf]; omega
        · go_wp2
          go_ret
          exact ⟨rfl, HB6.out.drewN _⟩
end Go.Proofs.Ytnbgekbfccejdab
