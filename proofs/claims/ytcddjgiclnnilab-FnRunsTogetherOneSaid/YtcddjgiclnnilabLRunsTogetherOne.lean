/-
  THE WALK OF laws.FnRunsTogetherOne.
-/
import Derived.Test.YtcddjgiclnnilabX6
import Derived.Test.YtcddjgiclnnilabRI
namespace Go.Proofs.Ytcddjgiclnnilab
open Go.RowKit
set_option maxRecDepth 20000 in
set_option maxHeartbeats 6400000 in
theorem fnRunsTogetherOne_walk (A : Option Addr) (c : Nat) (l : List Int) (w : World) (hb : RB w 0 w.heap.size A l) (hlc : l.length ≤ c ∧ c ≤ maxLen) :
    Calls Try.prog 11 #[.slice A l.length c] w fun e w' => e = .returned (.bool true) ∧ Below w.heap.size w w' := by
  have hl63 : l.length ≤ 9223372036854775807 := by have := hlc.2; unfold maxLen at this; omega
  by_cases hbig : 1048576 < l.length
  · go_enter Try.func11, Try.ntmps11
    go_wp2
    go_ret
    exact ⟨rfl, Below.refl _ _⟩
  · have C1 := Lib.hid (DrawRunsTogether_any A c l w hb hlc.1 hlc.2)
    clear hb
    go_enter Try.func11, Try.ntmps11
    go_wp2_with fail
    refine (C1.out).mono ?_
    rintro e w1 ⟨⟨A1, c1, g, A2, c2, m, A3, c3, r, rfl, hg, hg16, hgc, hcm, hm, hm100, hmc, hmm, hr, hr100, hrc, hrm⟩, hb1⟩
    have HG := Lib.hid hg
    have HM := Lib.hid hm
    have HR := Lib.hid hr
    have s1 := hb1.size
    have hl9 : g.length ≤ 9223372036854775807 := by omega
    have hm9 : m.length ≤ 9223372036854775807 := by omega
    have hr9 : r.length ≤ 9223372036854775807 := by omega
    have q2 := RunsTogether_any A1 c1 g A2 c2 m A3 c3 r w.heap.size w1.heap.size w.heap.size w1.heap.size w.heap.size w1.heap.size w1 HG.out (Nat.le_refl _) HM.out (Nat.le_refl _) HR.out (Nat.le_refl _) hl9 hm9 hr9
    have qs := fun W hg hm hr hs => RunsTogetherS_any A1 c1 g A2 c2 m A3 c3 r w.heap.size w1.heap.size w.heap.size w1.heap.size w.heap.size w1.heap.size W hg hs hm hs hr hs hl9 hm9 hr9
    generalize Bs.runOk g m r = ok at *
    have C2 := Lib.hid q2
    have CS := Lib.hid qs
    have HB1 := Lib.hid hb1
    have hne : (ok != ok) = false := by simp
    have heq : (ok == ok) = true := by simp
    clear C1 hg hm hr q2 qs hb1
    go_wp2_with fail
    refine (C2.out).mono ?_
    rintro e w2 ⟨rfl, hb2⟩
    have s2 := hb2.size
    have HG2 := Lib.hid (HG.out.below hb2 (Nat.le_refl _))
    have HM2 := Lib.hid (HM.out.below hb2 (Nat.le_refl _))
    have HR2 := Lib.hid (HR.out.below hb2 (Nat.le_refl _))
    have HB2 := Lib.hid (HB1.out.trans (hb2.mono s1))
    have C3 := Lib.hid (CS.out w2 HG2.out HM2.out HR2.out s2)
    clear hb2 C2 HG HM HR HB1
    go_wp2_with fail
    refine (C3.out).mono ?_
    rintro e w3 ⟨rfl, hb3⟩
    have s3 := hb3.size
    have hs3 : w1.heap.size ≤ w3.heap.size := Nat.le_trans s2 s3
    have HG3 := Lib.hid (HG2.out.below hb3 s2)
    have HM3 := Lib.hid (HM2.out.below hb3 s2)
    have HR3 := Lib.hid (HR2.out.below hb3 s2)
    have HB3 := Lib.hid (HB2.out.trans (hb3.mono (Nat.le_trans s1 s2)))
    have c4 := ValidGraph_any A1 c1 g w.heap.size w1.heap.size w3 HG3.out hs3 hl9
    obtain ⟨hv, hhv⟩ : ∃ hv, hv = Bs.valid g := ⟨_, rfl⟩
    rw [← hhv] at c4
    have HHV := Lib.hid hhv
    have C4 := Lib.hid c4
    clear hb3 C3 c4 hhv HG2 HM2 HR2 HB2
    go_wp2_with fail
    refine (C4.out).mono ?_
    rintro e w5 ⟨rfl, hb5⟩
    have s5 := hb5.size
    have hs5 : w1.heap.size ≤ w5.heap.size := Nat.le_trans hs3 s5
    have HG5 := Lib.hid (HG3.out.below hb5 hs3)
    have HM5 := Lib.hid (HM3.out.below hb5 hs3)
    have HR5 := Lib.hid (HR3.out.below hb5 hs3)
    have HB5 := Lib.hid (HB3.out.trans (hb5.mono (Nat.le_trans s1 hs3)))
    clear hb5 C4 HG3 HM3 HR3 HB3
    cases hv
    · have C6 := Lib.hid (CS.out w5 HG5.out HM5.out HR5.out hs5)
      clear HHV CS
      go_wp2_with fail
      refine (C6.out).mono ?_
      rintro e w6 ⟨rfl, hb6⟩
      have HB6 := Lib.hid (HB5.out.trans (hb6.mono (Nat.le_trans s1 hs5)))
      clear hb6 C6
      go_wp2
      go_ret
      exact ⟨rfl, HB6.out⟩
    · have c6 := ValidRoom_any A2 c2 m w.heap.size w1.heap.size w5 HM5.out hs5 hm9
      obtain ⟨ro, hro⟩ : ∃ ro, ro = Bs.roomOk m := ⟨_, rfl⟩
      rw [← hro] at c6
      have HRO := Lib.hid hro
      have C6 := Lib.hid c6
      clear c6 hro
      go_wp2_with fail
      refine (C6.out).mono ?_
      rintro e w6 ⟨rfl, hb6⟩
      have s6 := hb6.size
      have hs6 : w1.heap.size ≤ w6.heap.size := Nat.le_trans hs5 s6
      have HG6 := Lib.hid (HG5.out.below hb6 hs5)
      have HM6 := Lib.hid (HM5.out.below hb6 hs5)
      have HR6 := Lib.hid (HR5.out.below hb6 hs5)
      have HB6 := Lib.hid (HB5.out.trans (hb6.mono (Nat.le_trans s1 hs5)))
      clear hb6 C6 HG5 HM5 HR5 HB5
      obtain ⟨W6, rfl⟩ : ∃ W6, W6 = w6 := ⟨_, rfl⟩
      cases ro
      · have C7 := Lib.hid (CS.out W6 HG6.out HM6.out HR6.out hs6)
        clear HHV HRO CS
        go_wp2_with fail
        refine (C7.out).mono ?_
        rintro e w7 ⟨rfl, hb7⟩
        have HB7 := Lib.hid (HB6.out.trans (hb7.mono (Nat.le_trans s1 hs6)))
        clear hb7 C7
        go_wp2
        go_ret
        exact ⟨rfl, HB7.out⟩
      · obtain ⟨hn, hone⟩ := Bs.run_one HHV.out.symm HRO.out.symm
        have HN := Lib.hid hn
        have HO := Lib.hid hone
        have CR := Lib.hid (fun A3 c3 (q : List Int) lo' hi' W hg hs hm hs2 hq hh hql => RunsTogether_any A1 c1 g A2 c2 m A3 c3 q w.heap.size w1.heap.size w.heap.size w1.heap.size lo' hi' W hg hs hm hs2 hq hh hl9 hm9 hql)
        clear HHV HRO CS hn hone hne heq
        go_wp2
        go_loopw [7] (fun i wr => ∃ k : Nat, i = .int .i64 (k : Int) ∧ Below W6.heap.size W6 wr) (fun i _ => g.length + 1 - (intOf i).toNat)
        case atStart => exact ⟨0, rfl, Below.refl _ _⟩
        case round =>
          obtain ⟨k, rfl, hbr⟩ := hrel
          have sr := hbr.size
          have HBR := Lib.hid hbr
          have HGr := Lib.hid (HG6.out.below hbr hs6)
          have HMr := Lib.hid (HM6.out.below hbr hs6)
          clear hbr
          by_cases hi : k < g.length
          · have d1 : (k : Int) < (g.length : Int) := by omega
            have hal := Below.alloc (Below.refl wr.heap.size wr) (Nat.le_refl _) (.cells #[.int .i64 (k : Int)] 3)
            have hri : RI (wr.alloc (.cells #[.int .i64 (k : Int)] 3)) wr.heap.size (wr.heap.size + 1) (some ⟨wr.heap.size, 0, none⟩) [(k : Int)] := by
              intro j hj
              have hj0 : j = 0 := by simp at hj; omega
              subst hj0
              refine ⟨wr.heap.size, 0, rfl, Nat.le_refl _, by omega, ?_⟩
              rw [(Blk.new wr _ _).cell]; rfl
            have c8 := CR.out (some ⟨wr.heap.size, 0, none⟩) 1 [(k : Int)] wr.heap.size (wr.heap.size + 1) _ (HGr.out.below hal (by omega)) (by simp; omega) (HMr.out.below hal (by omega)) (by simp; omega) hri (by simp) (by simp)
            rw [HO.out k hi] at c8
            have C8 := Lib.hid c8
            have HAL := Lib.hid (HBR.out.trans (hal.mono sr))
            clear hal hri c8
            go_wp2_with fail
            refine (C8.out).mono ?_
            rintro e w8 ⟨rfl, hb8⟩
            have HB8 := Lib.hid (HAL.out.trans (hb8.mono (by simp; omega)))
            clear hb8 C8
            go_wp2
            go_roundw
            case rel => exact ⟨k + 1, by go_num, HB8.out⟩
            case measure => simp [intOf]; omega
          · have c8 := CR.out none 0 [] 0 0 wr HGr.out (by omega) HMr.out (by omega) RI.nil (Nat.zero_le _) (by simp)
            rw [HN.out] at c8
            have C8 := Lib.hid c8
            clear c8
            go_wp2_with fail
            refine (C8.out).mono ?_
            rintro e w8 ⟨rfl, hb8⟩
            have HB8 := Lib.hid (HB6.out.trans ((HBR.out.trans (hb8.mono sr)).mono (Nat.le_trans s1 hs6)))
            clear hb8 C8
            go_wp2
            go_ret
            exact ⟨rfl, HB8.out⟩
end Go.Proofs.Ytcddjgiclnnilab
