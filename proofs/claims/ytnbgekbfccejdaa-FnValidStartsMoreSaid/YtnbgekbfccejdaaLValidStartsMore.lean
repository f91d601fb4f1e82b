/-
  THE WALK OF laws.FnValidStartsMore.
-/
import Derived.Test.YtnbgekbfccejdaaK17
import Derived.Test.YtnbgekbfccejdaaK16
import Derived.Test.YtnbgekbfccejdaaK14
import Derived.Test.YtnbgekbfccejdaaK15
namespace Go.Proofs.Ytnbgekbfccejdaa
open Go.RowKit
set_option maxRecDepth 20000 in
set_option maxHeartbeats 6400000 in
theorem fnValidStartsMore_walk (A : Option Addr) (c : Nat) (l : List Int) (w : World) (hb : RB w 0 w.heap.size A l) (hlc : l.length ≤ c ∧ c ≤ maxLen) :
    Calls Try.prog 5 #[.slice A l.length c] w fun e w' => e = .returned (.bool true) ∧ Below w.heap.size w w' := by
  have hl63 : l.length ≤ 9223372036854775807 := by have := hlc.2; unfold maxLen at this; omega
  by_cases hbig : 1048576 < l.length
  · go_enter Try.func5, Try.ntmps5
    go_wp2
    go_ret
    exact ⟨rfl, Below.refl _ _⟩
  · have C1 := Lib.hid (DrawValidStarts_any A c l w hb hlc.1 hlc.2)
    clear hb
    go_enter Try.func5, Try.ntmps5
    go_wp2_with fail
    refine (C1.out).mono ?_
    rintro e w1 ⟨⟨A1, c1, g, A2, c2, m, wk, A3, c3, S, rfl, hg, hg16, hgc, hcm, hm, hm100, hmc, hmm, hS, hS100, hSc, hSm⟩, hb1⟩
    have HG := Lib.hid hg
    have HM := Lib.hid hm
    have HS := Lib.hid hS
    have s1 := hb1.size
    have hl9 : g.length ≤ 9223372036854775807 := by omega
    have hm9 : m.length ≤ 9223372036854775807 := by omega
    have hS9 : S.length ≤ 9223372036854775807 := by omega
    have q2 := ValidStarts_any A1 c1 g A2 c2 m A3 c3 S wk w.heap.size w1.heap.size w.heap.size w1.heap.size w.heap.size w1.heap.size w1 HG.out (Nat.le_refl _) HM.out (Nat.le_refl _) HS.out (Nat.le_refl _) hl9 hm9 hS9
    have qs := fun W hg hm hr hs => ValidStartsS_any A1 c1 g A2 c2 m A3 c3 S wk w.heap.size w1.heap.size w.heap.size w1.heap.size w.heap.size w1.heap.size W hg hs hm hs hr hs hl9 hm9 hS9
    have CI := Lib.hid (fun (A2 : Option Addr) (c2 : Nat) (m' : List Int) (A3 : Option Addr) (c3 : Nat) (S' : List Int) (wk' : Int) (l1 h1 l2 h2 : Nat) W hg hs hm hh1 hS hh2 hml hsl => ValidStarts_any A1 c1 g A2 c2 m' A3 c3 S' wk' w.heap.size w1.heap.size l1 h1 l2 h2 W hg hs hm hh1 hS hh2 hl9 hml hsl)
    obtain ⟨V, hV⟩ : ∃ V, V = Bs.stV g m wk S := ⟨_, rfl⟩
    rw [← hV] at q2 qs
    have HV := Lib.hid hV
    have C2 := Lib.hid q2
    have CS := Lib.hid qs
    have HB1 := Lib.hid hb1
    have hne : (V != V) = false := by simp
    have heq : (V == V) = true := by simp
    clear C1 hg hm hS q2 qs hb1 hV
    go_wp2_with fail
    with_reducible refine (C2.out).mono ?_
    rintro e w2 ⟨rfl, hb2⟩
    have s2 := hb2.size
    have HG2 := Lib.hid (HG.out.below hb2 (Nat.le_refl _))
    have HM2 := Lib.hid (HM.out.below hb2 (Nat.le_refl _))
    have HS2 := Lib.hid (HS.out.below hb2 (Nat.le_refl _))
    have HB2 := Lib.hid (HB1.out.trans (hb2.mono s1))
    have C3 := Lib.hid (CS.out w2 HG2.out HM2.out HS2.out s2)
    clear hb2 C2 HG HM HS HB1
    go_wp2_with fail
    with_reducible refine (C3.out).mono ?_
    rintro e w3 ⟨rfl, hb3⟩
    have s3 := hb3.size
    have hs3 : w1.heap.size ≤ w3.heap.size := Nat.le_trans s2 s3
    have HG3 := Lib.hid (HG2.out.below hb3 s2)
    have HM3 := Lib.hid (HM2.out.below hb3 s2)
    have HS3 := Lib.hid (HS2.out.below hb3 s2)
    have HB3 := Lib.hid (HB2.out.trans (hb3.mono (Nat.le_trans s1 s2)))
    clear hb3 C3 HG2 HM2 HS2 HB2
    obtain ⟨W3, rfl⟩ : ∃ W3, W3 = w3 := ⟨_, rfl⟩
    cases V
    · clear HV
      have C6 := Lib.hid (CS.out W3 HG3.out HM3.out HS3.out hs3)
      clear CS
      go_wp2_with fail
      with_reducible refine (C6.out).mono ?_
      rintro e w6 ⟨rfl, hb6⟩
      have HB6 := Lib.hid (HB3.out.trans (hb6.mono (Nat.le_trans s1 hs3)))
      clear hb6 C6
      go_wp2
      go_ret
      exact ⟨rfl, HB6.out⟩
    · clear hne heq CS
      have HV2 := Lib.hid HV.out.symm
      have hm3 := Bs.roomOk_len (Bs.canV_iff.1 (Bs.stV_iff.1 HV2.out).1).2.1
      have HM8 := Lib.hid (Bs.stV_more HV2.out)
      have HO0 := Lib.hid (OI.new W3 W3.heap.size (Nat.le_refl _))
      have HB0 := Lib.hid (HB3.out.alloc (Nat.le_trans s1 hs3) (.cells #[] 3))
      have HW0 := Lib.hid ((Below.refl W3.heap.size W3).alloc (Nat.le_refl _) (.cells #[] 3))
      have HML := Lib.hid hm3
      clear hm3 HV
      go_wp2
      go_loopw [8, 9] (fun vo i wr => ∃ (k : Nat) (A' : Option Addr) (c' : Nat) (o : List Int), k ≤ m.length ∧ vo = .slice A' o.length c' ∧ i = .int .i64 k ∧ o = List.replicate k 8 ∧ OI wr W3.heap.size A' c' o ∧ Below w.heap.size w wr ∧ Below W3.heap.size W3 wr) (fun _ i _ => m.length - (intOf i).toNat)
      case atStart => exact ⟨0, _, _, [], Nat.zero_le _, rfl, rfl, rfl, HO0.out, HB0.out, HW0.out⟩
      case round =>
        clear HO0 HB0 HW0
        obtain ⟨k, A', c', o, hk, rfl, rfl, ho, hO, hb, hbw⟩ := hrel
        have HO := Lib.hid hO
        have HB := Lib.hid hb
        have HBW := Lib.hid hbw
        clear hO
        by_cases hlt : k < m.length
        · have HTS := Lib.hid (show o ++ [8] = List.replicate (k + 1) 8 from by rw [ho, List.replicate_succ'])
          have HOL := Lib.hid (show o.length ≤ 100 from by rw [ho, List.length_replicate]; omega)
          have i1 : (k : Int) < (m.length : Int) := by omega
          have s4 := hb.size
          have s5 := hbw.size
          have HO2 := Lib.hid (HO.out.alloc (.cells #[.int .i64 8] 3))
          have HB2 := Lib.hid (HB.out.alloc s4 (.cells #[.int .i64 8] 3))
          have HBW2 := Lib.hid (HBW.out.alloc s5 (.cells #[.int .i64 8] 3))
          clear hb hbw ho
          go_wp2_with (first
            | (at_builtin; refine push_int rfl _ _ rfl W3.heap.size A' c' o 8 rfl HO2.out wr.heap.size 1 rfl (by simp [go_sem]) (by have := HOL.out; omega) (by simp; omega) ?_; intro A6 c6 w6 ho6 hb6 _; have HO6 := Lib.hid ho6; have HB6 := Lib.hid (HB2.out.trans (hb6.mono (Nat.le_trans s1 hs3))); have HBW6 := Lib.hid (HBW2.out.trans hb6); clear ho6 hb6))
          go_roundw
          case rel => exact ⟨k + 1, A6, c6, o ++ [8], by omega, by rw [List.length_append]; rfl, by go_num, HTS.out, HO6.out, HB6.out, HBW6.out⟩
          case measure => simp [intOf]; omega
        · obtain rfl : k = m.length := by omega
          have ho8 : o = [8, 8, 8] := by rw [ho, HML.out]; rfl
          have hst : Bs.stV g o 4 S = true := by rw [ho8]; exact HM8.out
          have hol : o.length = 3 := by rw [ho8]; rfl
          have c5 := CI.out A' c' o A3 c3 S 4 _ _ _ _ wr (HG3.out.below hbw hs3) (Nat.le_trans hs3 hbw.size) HO.out.ri (Nat.le_refl _) (HS3.out.below hbw hs3) (Nat.le_trans hs3 hbw.size) (by omega) hS9
          rw [hst] at c5
          have C5 := Lib.hid c5
          clear c5 hst hol ho ho8 hb hbw CI
          go_wp2_with fail
          with_reducible refine (C5.out).mono ?_
          rintro e w7 ⟨rfl, hb7⟩
          have HB7 := Lib.hid (HB.out.trans (hb7.mono HB.out.size))
          clear hb7 C5
          go_wp2
          go_ret
          exact ⟨rfl, HB7.out⟩
end Go.Proofs.Ytnbgekbfccejdaa
