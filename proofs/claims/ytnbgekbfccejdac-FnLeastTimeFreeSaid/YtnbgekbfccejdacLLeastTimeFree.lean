/-
  THE WALK OF laws.FnLeastTimeFree.
-/
import Derived.Test.YtnbgekbfccejdacK17
import Derived.Test.YtnbgekbfccejdacMath44
import Derived.Test.YtnbgekbfccejdacR22
import Derived.Test.YtnbgekbfccejdacMath45
import Derived.Test.YtnbgekbfccejdacOT
namespace Go.Proofs.Ytnbgekbfccejdac
open Go.RowKit
set_option maxRecDepth 20000 in
set_option maxHeartbeats 6400000 in
theorem fnLeastTimeFree_walk (A : Option Addr) (c : Nat) (l : List Int) (w : World) (hb : RB w 0 w.heap.size A l) (hlc : l.length ≤ c ∧ c ≤ maxLen) :
    Calls Try.prog 6 #[.slice A l.length c] w fun e w' => e = .returned (.bool true) ∧ Below w.heap.size w w' := by
  have hl63 : l.length ≤ 9223372036854775807 := by have := hlc.2; unfold maxLen at this; omega
  by_cases hbig : 1048576 < l.length
  · go_enter Try.func6, Try.ntmps6
    go_wp2
    go_ret
    exact ⟨rfl, Below.refl _ _⟩
  · have C1 := Lib.hid (DrawLeastTime_any A c l w hb hlc.1 hlc.2)
    clear hb
    go_enter Try.func6, Try.ntmps6
    go_wp2_with fail
    refine (C1.out).mono ?_
    rintro e w1 ⟨⟨A1, c1, g, A2, c2, m, wk, rfl, hg, hg16, hgc, hcm, hm, hm100, hmc, hmm⟩, hb1⟩
    have HG := Lib.hid hg
    have HM := Lib.hid hm
    have s1 := hb1.size
    have hl9 : g.length ≤ 9223372036854775807 := by omega
    have hm9 : m.length ≤ 9223372036854775807 := by omega
    have q2 := LeastTime_any A1 c1 g A2 c2 m wk w.heap.size w1.heap.size w.heap.size w1.heap.size w1 HG.out (Nat.le_refl _) HM.out (Nat.le_refl _) hl9 hm9
    have qs := fun W hg hm hs => LeastTimeS_any A1 c1 g A2 c2 m wk w.heap.size w1.heap.size w.heap.size w1.heap.size W hg hs hm hs hl9 hm9
    have CI := Lib.hid (fun wk' W hg hm hs => LeastTime_any A1 c1 g A2 c2 m wk' w.heap.size w1.heap.size w.heap.size w1.heap.size W hg hs hm hs hl9 hm9)
    obtain ⟨V, hV⟩ : ∃ V, V = leastL g m wk := ⟨_, rfl⟩
    rw [← hV] at q2 qs
    have HV := Lib.hid hV
    have C2 := Lib.hid q2
    have CS := Lib.hid qs
    have HB1 := Lib.hid hb1
    have hne : (V != V) = false := by simp
    have heq : (V == V) = true := by simp
    clear C1 hg hm q2 qs hb1 hV
    go_wp2_with fail
    with_reducible refine (C2.out).mono ?_
    rintro e w2 ⟨rfl, hb2⟩
    have s2 := hb2.size
    have HG2 := Lib.hid (HG.out.below hb2 (Nat.le_refl _))
    have HM2 := Lib.hid (HM.out.below hb2 (Nat.le_refl _))
    have HB2 := Lib.hid (HB1.out.trans (hb2.mono s1))
    have C3 := Lib.hid (CS.out w2 HG2.out HM2.out s2)
    clear hb2 C2 HG HM HB1
    go_wp2_with fail
    with_reducible refine (C3.out).mono ?_
    rintro e w3 ⟨rfl, hb3⟩
    have s3 := hb3.size
    have hs3 : w1.heap.size ≤ w3.heap.size := Nat.le_trans s2 s3
    have HG3 := Lib.hid (HG2.out.below hb3 s2)
    have HM3 := Lib.hid (HM2.out.below hb3 s2)
    have HB3 := Lib.hid (HB2.out.trans (hb3.mono (Nat.le_trans s1 s2)))
    clear hb3 C3 HG2 HM2 HB2
    obtain ⟨W3, rfl⟩ : ∃ W3, W3 = w3 := ⟨_, rfl⟩
    by_cases h0 : V < 0
    · clear HV
      have C6 := Lib.hid (CS.out W3 HG3.out HM3.out hs3)
      clear CS
      go_wp2_with fail
      with_reducible refine (C6.out).mono ?_
      rintro e w6 ⟨rfl, hb6⟩
      have HB6 := Lib.hid (HB3.out.trans (hb6.mono (Nat.le_trans s1 hs3)))
      clear hb6 C6
      go_wp2
      go_ret
      exact ⟨rfl, HB6.out⟩
    · clear hne heq CS
      obtain ⟨hf0, hf1⟩ := Bs.least_bare HV.out h0
      have hd0 : decide (V < 0) = false := by simp; omega
      have hW : w.heap.size ≤ W3.heap.size := Nat.le_trans s1 hs3
      clear HV CI
      go_wp2
      go_loopw [7, 8] (fun v i wr => ∃ (k : Nat) (A' : Option Addr) (c' : Nat) (o : List Bs.T), i = .int .i64 k ∧ k ≤ g.length ∧ v = .slice A' o.length c' ∧ o = (g.map Bs.bare).take k ∧ OT wr W3.heap.size A' c' o ∧ Below W3.heap.size W3 wr) (fun _ i _ => g.length + 1 - (intOf i).toNat)
      case atStart => exact ⟨0, _, _, [], rfl, Nat.zero_le _, rfl, by simp, OT.nil _ _ (Nat.le_refl _), (Below.refl _ _).alloc (Nat.le_refl _) _⟩
      case round =>
        obtain ⟨k, A', c', o, rfl, hk, rfl, ho, hO, hbr⟩ := hrel
        have sr := hbr.size
        have HO := Lib.hid hO
        have HBR := Lib.hid hbr
        have HoT := Lib.hid ho
        have hol : o.length = k := by rw [ho, List.length_take, List.length_map]; omega
        have HOL' := Lib.hid hol
        have hol1 : o.length ≤ 16 := by omega
        clear hO hbr ho hol
        by_cases hlt : k < g.length
        · obtain ⟨b1, o1, N, cN, rfl, _, _, k0, k1, k2, k3, hnc, hcN, hN⟩ := (HG3.out.below HBR.out hs3) k hlt
          have hts : o ++ [Bs.bare g[k]] = (g.map Bs.bare).take (k + 1) := by
            rw [HoT.out, List.take_succ_eq_append_getElem (by simpa using hlt), List.getElem_map]
          have HTS := Lib.hid hts
          clear hts k1 hN
          obtain ⟨t, ht⟩ : ∃ t, t = Bs.bare g[k] := ⟨_, rfl⟩
          have e0 : g[k].time = t.time := by rw [ht]; rfl
          have e2 : g[k].pool = t.pool := by rw [ht]; rfl
          have e3 : g[k].units = t.units := by rw [ht]; rfl
          rw [← ht] at HTS
          rw [e0] at k0
          rw [e2] at k2
          rw [e3] at k3
          clear ht e0 e2 e3 hnc
          obtain ⟨WR, rfl⟩ : ∃ WR, WR = wr := ⟨_, rfl⟩
          go_wp2
          go_region_law (refine step_push_task rfl _ _ rfl W3.heap.size A' c' o t rfl (by first | exact (HO.out.drewN 1).alloc _ | exact HO.out.alloc _) _ 1 rfl (by first | exact new_cells (WR.drewN 1) t | exact new_cells WR t | exact new_cells _ t) (by omega) (by simp; omega) ?_; intro A5 c5 w5 ho5 hb5)
          all_goals
            have s5 := hb5.size
            go_wp2
            go_roundw
            case rel => exact ⟨k + 1, A5, c5, _, by go_num, by omega, by simp, HTS.out, ho5, (((HBR.out.drewN 1).alloc (by simpa using sr) _).trans (hb5.mono (by simp)))⟩
            case measure => simp [intOf]; omega
        · have e : o = g.map Bs.bare := by rw [HoT.out, List.take_of_length_le]; simp; omega
          subst e
          have c7 := LeastTime_any A' c' (g.map Bs.bare) A2 c2 m wk W3.heap.size wr.heap.size w.heap.size w1.heap.size wr HO.out.rg (Nat.le_refl _) (HM3.out.below HBR.out hs3) (Nat.le_trans hs3 sr) (by omega) hm9
          generalize leastL (g.map Bs.bare) m wk = K at *
          have C7 := Lib.hid c7
          have d1 : decide (K ≥ 0) = true := by simp; omega
          have d2 : decide (0 ≤ K) = true := by simp; omega
          have d3 : decide (K ≤ V) = true := by simp; omega
          clear c7 HoT HOL' HO hol1
          generalize g.map Bs.bare = FR at *
          go_wp2_with fail
          with_reducible refine (C7.out).mono ?_
          rintro e w7 ⟨rfl, hb7⟩
          have HB7 := Lib.hid (HB3.out.trans ((HBR.out.trans (hb7.mono sr)).mono hW))
          clear hb7 C7
          go_wp2
          go_ret
          exact ⟨rfl, HB7.out⟩
end Go.Proofs.Ytnbgekbfccejdac
