/-
  THE WALK OF laws.FnEndTimeLater.
-/
import Derived.Test.YtnbgekbfccejdacK17
import Derived.Test.YtnbgekbfccejdacK16
import Derived.Test.YtnbgekbfccejdacK14
import Derived.Test.YtnbgekbfccejdacK15
namespace Go.Proofs.Ytnbgekbfccejdac
open Go.RowKit
set_option maxRecDepth 20000 in
set_option maxHeartbeats 6400000 in
theorem fnEndTimeLater_walk (A : Option Addr) (c : Nat) (l : List Int) (w : World) (hb : RB w 0 w.heap.size A l) (hlc : l.length ≤ c ∧ c ≤ maxLen) :
    Calls Try.prog 4 #[.slice A l.length c] w fun e w' => e = .returned (.bool true) ∧ Below w.heap.size w w' := by
  have hl63 : l.length ≤ 9223372036854775807 := by have := hlc.2; unfold maxLen at this; omega
  by_cases hbig : 1048576 < l.length
  · go_enter Try.func4, Try.ntmps4
    go_wp2
    go_ret
    exact ⟨rfl, Below.refl _ _⟩
  · have C1 := Lib.hid (DrawEndTime_any A c l w hb hlc.1 hlc.2)
    clear hb
    go_enter Try.func4, Try.ntmps4
    go_wp2_with fail
    refine (C1.out).mono ?_
    rintro e w1 ⟨⟨A1, c1, g, A2, c2, m, wk, A3, c3, S, rfl, hg, hg16, hgc, hcm, hm, hm100, hmc, hmm, hS, hS100, hSc, hSm⟩, hb1⟩
    have HG := Lib.hid hg
    have HM := Lib.hid hm
    have HS := Lib.hid hS
    have s1 := hb1.size
    have hl9 : g.length ≤ 9223372036854775807 := by omega
    have hm9 : m.length ≤ 9223372036854775807 := by omega
    have hS9 : S.length ≤ 9223372036854775807 := by omega
    have q2 := EndTime_any A1 c1 g A2 c2 m A3 c3 S wk w.heap.size w1.heap.size w.heap.size w1.heap.size w.heap.size w1.heap.size w1 HG.out (Nat.le_refl _) HM.out (Nat.le_refl _) HS.out (Nat.le_refl _) hl9 hm9 hS9
    have qs := fun W hg hm hr hs => EndTimeS_any A1 c1 g A2 c2 m A3 c3 S wk w.heap.size w1.heap.size w.heap.size w1.heap.size w.heap.size w1.heap.size W hg hs hm hs hr hs hl9 hm9 hS9
    have CI := Lib.hid (fun (A2 : Option Addr) (c2 : Nat) (m' : List Int) (A3 : Option Addr) (c3 : Nat) (S' : List Int) (wk' : Int) (l1 h1 l2 h2 : Nat) W hg hs hm hh1 hS hh2 hml hsl => EndTime_any A1 c1 g A2 c2 m' A3 c3 S' wk' w.heap.size w1.heap.size l1 h1 l2 h2 W hg hs hm hh1 hS hh2 hl9 hml hsl)
    obtain ⟨V, hV⟩ : ∃ V, V = Bs.endT g m wk S := ⟨_, rfl⟩
    rw [← hV] at q2 qs
    have HV := Lib.hid hV
    have C2 := Lib.hid q2
    have CS := Lib.hid qs
    have HB1 := Lib.hid hb1
    have hne : (V != V) = false := by simp
    have heq : (V == V) = true := by simp
    clear C1 hg hm hS q2 qs hb1 hV
    go_wp2_with fail
    with_reducible refine (C2.out).mono ?_
    rintro e w2 ⟨rfl, hb2⟩
    have s2 := hb2.size
    have HG2 := Lib.hid (HG.out.below hb2 (Nat.le_refl _))
    have HM2 := Lib.hid (HM.out.below hb2 (Nat.le_refl _))
    have HS2 := Lib.hid (HS.out.below hb2 (Nat.le_refl _))
    have HB2 := Lib.hid (HB1.out.trans (hb2.mono s1))
    have C3 := Lib.hid (CS.out w2 HG2.out HM2.out HS2.out s2)
    clear hb2 C2 HG HM HS HB1
    go_wp2_with fail
    with_reducible refine (C3.out).mono ?_
    rintro e w3 ⟨rfl, hb3⟩
    have s3 := hb3.size
    have hs3 : w1.heap.size ≤ w3.heap.size := Nat.le_trans s2 s3
    have HG3 := Lib.hid (HG2.out.below hb3 s2)
    have HM3 := Lib.hid (HM2.out.below hb3 s2)
    have HS3 := Lib.hid (HS2.out.below hb3 s2)
    have HB3 := Lib.hid (HB2.out.trans (hb3.mono (Nat.le_trans s1 s2)))
    clear hb3 C3 HG2 HM2 HS2 HB2
    obtain ⟨W3, rfl⟩ : ∃ W3, W3 = w3 := ⟨_, rfl⟩
    by_cases h0 : V < 0
    · clear HV
      have C6 := Lib.hid (CS.out W3 HG3.out HM3.out HS3.out hs3)
      clear CS
      go_wp2_with fail
      with_reducible refine (C6.out).mono ?_
      rintro e w6 ⟨rfl, hb6⟩
      have HB6 := Lib.hid (HB3.out.trans (hb6.mono (Nat.le_trans s1 hs3)))
      clear hb6 C6
      go_wp2
      go_ret
      exact ⟨rfl, HB6.out⟩
    · have hd0 : decide (V < 0) = false := by simp; omega
      by_cases hg0 : g.length = 0
      · have hz : ((g.length : Int) == 0) = true := by simp [hg0]
        clear HV hg0
        have C6 := Lib.hid (CS.out W3 HG3.out HM3.out HS3.out hs3)
        clear CS
        go_wp2_with fail
        with_reducible refine (C6.out).mono ?_
        rintro e w6 ⟨rfl, hb6⟩
        have HB6 := Lib.hid (HB3.out.trans (hb6.mono (Nat.le_trans s1 hs3)))
        clear hb6 C6
        go_wp2
        go_ret
        exact ⟨rfl, HB6.out⟩
      have hz : ((g.length : Int) == 0) = false := by rw [beq_eq_false_iff_ne]; omega
      clear hne heq CS
      obtain ⟨hst0, hve⟩ := Bs.endT_valid HV.out h0
      have hk := (Bs.stV_iff.1 hst0).2.1
      have hVb : 0 ≤ V ∧ V ≤ 1000 := by
        have hF := valid_fine (Bs.canV_iff.1 (Bs.stV_iff.1 hst0).1).1
        obtain ⟨i, hi, e⟩ := Bs.end_at hF hk (by omega)
        have a := Bs.clk_at hk i
        have b := Bs.time_b hF i
        omega
      have HLT := Lib.hid (fun hb => Bs.endT_later (m := m) (wk := wk) (d := 2) HV.out h0 (by omega) (by omega) hb)
      clear hst0 hve
      have HSB := Lib.hid (fun i => Bs.clk_at hk i)
      have HO0 := Lib.hid (OI.new W3 W3.heap.size (Nat.le_refl _))
      have HB0 := Lib.hid (HB3.out.alloc (Nat.le_trans s1 hs3) (.cells #[] 3))
      have HW0 := Lib.hid ((Below.refl W3.heap.size W3).alloc (Nat.le_refl _) (.cells #[] 3))
      have HL := Lib.hid (Bs.later_len S 2)
      clear hk HV
      go_wp2
      go_loopw [8, 9] (fun vo i wr => ∃ (k : Nat) (A' : Option Addr) (c' : Nat) (o : List Int), k ≤ S.length ∧ vo = .slice A' o.length c' ∧ i = .int .i64 k ∧ o = (Bs.later S 2).take k ∧ (∀ j, j < k → Bs.giZ S j + 2 ≤ 200) ∧ OI wr W3.heap.size A' c' o ∧ Below w.heap.size w wr ∧ Below W3.heap.size W3 wr) (fun _ i _ => S.length - (intOf i).toNat)
      case atStart => exact ⟨0, _, _, [], Nat.zero_le _, rfl, rfl, by simp, by intro j hj; omega, HO0.out, HB0.out, HW0.out⟩
      case round =>
        clear HO0 HB0 HW0
        obtain ⟨k, A', c', o, hk, rfl, rfl, ho, hall, hO, hb, hbw⟩ := hrel
        have HALL := Lib.hid hall
        have HO := Lib.hid hO
        have HB := Lib.hid hb
        have HBW := Lib.hid hbw
        clear hall hO
        by_cases hlt : k < S.length
        · obtain ⟨b, o1, rfl, _, _, hc⟩ := (HS3.out.below hbw hs3).at_ hlt
          rw [← Bs.giZ_at hlt] at hc
          have hsb := HSB.out k
          have hlk : k < (Bs.later S 2).length := by rw [HL.out]; exact hlt
          have hts : (Bs.later S 2).take (k + 1) = o ++ [Bs.giZ S k + 2] := by
            rw [List.take_succ_eq_append_getElem hlk, ← ho, ← Bs.giZ_at hlk, Bs.giZ_later hlt]
          have hol : o.length ≤ 100 := by rw [ho, List.length_take]; omega
          have HTS := Lib.hid hts.symm
          have HOL := Lib.hid hol
          have HA2 := Lib.hid (fun (h : Bs.giZ S k + 2 ≤ 200) => show ∀ j, j < k + 1 → Bs.giZ S j + 2 ≤ 200 from by
            intro j hj
            by_cases e : j = k
            · subst e; exact h
            · exact HALL.out j (by omega))
          have i0 : (0 : Int) ≤ (k : Int) := by omega
          have i1 : (k : Int) < (S.length : Int) := by omega
          have s4 := hb.size
          have s5 := hbw.size
          clear hb hbw hts ho hol
          generalize Bs.giZ S k = sk at *
          have hw : IntKind.i64.wrap (sk + 2) = sk + 2 := IntWalk.i64_in _ ⟨by omega, by omega⟩
          by_cases hq : sk + 2 > 200
          · have hq1 : decide (sk + 2 > 200) = true := by simp; omega
            have hq2 : decide (200 < sk + 2) = true := by simp; omega
            clear hq
            go_wp2
            go_ret
            exact ⟨rfl, HB.out⟩
          · have hq1 : decide (sk + 2 > 200) = false := by simp; omega
            have hq2 : decide (200 < sk + 2) = false := by simp; omega
            have HAA := Lib.hid (HA2.out (by omega))
            have HO2 := Lib.hid (HO.out.alloc (.cells #[.int .i64 (sk + 2)] 3))
            have HB2 := Lib.hid (HB.out.alloc s4 (.cells #[.int .i64 (sk + 2)] 3))
            have HBW2 := Lib.hid (HBW.out.alloc s5 (.cells #[.int .i64 (sk + 2)] 3))
            clear hq
            go_wp2_with (first
              | (at_builtin; refine push_int rfl _ _ rfl W3.heap.size A' c' o (sk + 2) rfl HO2.out wr.heap.size 1 rfl (by simp [go_sem]) (by have := HOL.out; omega) (by simp; omega) ?_; intro A6 c6 w6 ho6 hb6 _; have HO6 := Lib.hid ho6; have HB6 := Lib.hid (HB2.out.trans (hb6.mono (Nat.le_trans s1 hs3))); have HBW6 := Lib.hid (HBW2.out.trans hb6); clear ho6 hb6))
            go_roundw
            case rel => exact ⟨k + 1, A6, c6, o ++ [sk + 2], by omega, by rw [List.length_append]; rfl, by go_num, HTS.out, HAA.out, HO6.out, HB6.out, HBW6.out⟩
            case measure => simp [intOf]; omega
        · obtain rfl : k = S.length := by omega
          have e : (Bs.later S 2).take S.length = Bs.later S 2 := List.take_of_length_le (by rw [HL.out]; exact Nat.le_refl _)
          rw [e] at ho
          have hst : Bs.endT g m wk o = V + 2 := by rw [ho]; exact HLT.out HALL.out
          have hw9 : IntKind.i64.wrap (V + 2) = V + 2 := IntWalk.i64_in _ ⟨by omega, by omega⟩
          have hq9 : (V + 2 == V + 2) = true := by simp
          have hol : o.length = S.length := by rw [ho]; exact HL.out
          have c5 := CI.out A2 c2 m A' c' o wk _ _ _ _ wr (HG3.out.below hbw hs3) (Nat.le_trans hs3 hbw.size) (HM3.out.below hbw hs3) (Nat.le_trans hs3 hbw.size) HO.out.ri (Nat.le_refl _) hm9 (by omega)
          rw [hst] at c5
          have C5 := Lib.hid c5
          clear c5 hst hol ho e hb hbw CI
          go_wp2_with fail
          with_reducible refine (C5.out).mono ?_
          rintro e w7 ⟨rfl, hb7⟩
          have HB7 := Lib.hid (HB.out.trans (hb7.mono HB.out.size))
          clear hb7 C5
          go_wp2
          go_ret
          exact ⟨rfl, HB7.out⟩
end Go.Proofs.Ytnbgekbfccejdac
