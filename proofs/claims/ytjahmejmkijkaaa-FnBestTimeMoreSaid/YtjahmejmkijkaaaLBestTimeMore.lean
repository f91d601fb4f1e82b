/-
  THE WALK OF laws.FnBestTimeMore.
-/
import Derived.Test.YtjahmejmkijkaaaK26
import Derived.Test.YtjahmejmkijkaaaK25
import Derived.Test.YtjahmejmkijkaaaK23
import Derived.Test.YtjahmejmkijkaaaK14
import Derived.Test.YtjahmejmkijkaaaR34
import Derived.Test.YtjahmejmkijkaaaL5
namespace Go.Proofs.Ytjahmejmkijkaaa
open Go.RowKit
set_option maxRecDepth 20000 in
set_option maxHeartbeats 6400000 in
theorem fnBestTimeMore_walk (A : Option Addr) (c : Nat) (l : List Int) (w : World) (hb : RB w 0 w.heap.size A l) (hlc : l.length ≤ c ∧ c ≤ maxLen) :
    Calls Try.prog 6 #[.slice A l.length c] w fun e w' => e = .returned (.bool true) ∧ Below w.heap.size w w' := by
  have hl63 : l.length ≤ 9223372036854775807 := by have := hlc.2; unfold maxLen at this; omega
  by_cases hbig : 1048576 < l.length
  · go_enter Try.func6, Try.ntmps6
    go_wp2
    go_ret
    exact ⟨rfl, Below.refl _ _⟩
  · have C1 := Lib.hid (DrawBestTime_any A c l w hb hlc.1 hlc.2)
    clear hb
    go_enter Try.func6, Try.ntmps6
    go_wp2_with fail
    refine (C1.out).mono ?_
    rintro e w1 ⟨⟨A1, c1, g, A2, c2, m, wk, rfl, hg, hg16, hgc, hcm, hm, hm100, hmc, hmm⟩, hb1⟩
    have HG := Lib.hid hg
    have HM := Lib.hid hm
    have s1 := hb1.size
    have hl9 : g.length ≤ 9223372036854775807 := by omega
    have hm9 : m.length ≤ 9223372036854775807 := by omega
    have q2 := BestTime_any A1 c1 g A2 c2 m wk w.heap.size w1.heap.size w.heap.size w1.heap.size w1 HG.out (Nat.le_refl _) HM.out (Nat.le_refl _) hl9 hm9
    have qs := fun W hg hm hs => BestTimeS_any A1 c1 g A2 c2 m wk w.heap.size w1.heap.size w.heap.size w1.heap.size W hg hs hm hs hl9 hm9
    have CI := Lib.hid (fun wk' W hg hm hs => BestTime_any A1 c1 g A2 c2 m wk' w.heap.size w1.heap.size w.heap.size w1.heap.size W hg hs hm hs hl9 hm9)
    obtain ⟨V, hV⟩ : ∃ V, V = Bs.timeL g m wk := ⟨_, rfl⟩
    rw [← hV] at q2 qs
    have HV := Lib.hid hV
    have C2 := Lib.hid q2
    have CS := Lib.hid qs
    have HB1 := Lib.hid hb1
    have hne : (V != V) = false := by simp
    have heq : (V == V) = true := by simp
    clear C1 hg hm q2 qs hb1 hV
    go_wp2_with fail
    with_reducible refine (C2.out).mono ?_
    rintro e w2 ⟨rfl, hb2⟩
    have s2 := hb2.size
    have HG2 := Lib.hid (HG.out.below hb2 (Nat.le_refl _))
    have HM2 := Lib.hid (HM.out.below hb2 (Nat.le_refl _))
    have HB2 := Lib.hid (HB1.out.trans (hb2.mono s1))
    have C3 := Lib.hid (CS.out w2 HG2.out HM2.out s2)
    clear hb2 C2 HG HM HB1
    go_wp2_with fail
    with_reducible refine (C3.out).mono ?_
    rintro e w3 ⟨rfl, hb3⟩
    have s3 := hb3.size
    have hs3 : w1.heap.size ≤ w3.heap.size := Nat.le_trans s2 s3
    have HG3 := Lib.hid (HG2.out.below hb3 s2)
    have HM3 := Lib.hid (HM2.out.below hb3 s2)
    have HB3 := Lib.hid (HB2.out.trans (hb3.mono (Nat.le_trans s1 s2)))
    clear hb3 C3 HG2 HM2 HB2
    obtain ⟨W3, rfl⟩ : ∃ W3, W3 = w3 := ⟨_, rfl⟩
    by_cases h0 : V < 0
    · clear HV
      have C6 := Lib.hid (CS.out W3 HG3.out HM3.out hs3)
      clear CS
      go_wp2_with fail
      with_reducible refine (C6.out).mono ?_
      rintro e w6 ⟨rfl, hb6⟩
      have HB6 := Lib.hid (HB3.out.trans (hb6.mono (Nat.le_trans s1 hs3)))
      clear hb6 C6
      go_wp2
      go_ret
      exact ⟨rfl, HB6.out⟩
    · obtain ⟨hF, hwb, hmo, hone⟩ := Bs.time_more HV.out h0
      have hd0 : decide (V < 0) = false := by simp; omega
      have C7 := Lib.hid (fun W (hb : Below W3.heap.size W3 W) => CI.out (wk + 1) W (HG3.out.below hb hs3) (HM3.out.below hb hs3) (Nat.le_trans hs3 hb.size))
      have c8 := fun W (hb : Below W3.heap.size W3 W) => CI.out 1 W (HG3.out.below hb hs3) (HM3.out.below hb hs3) (Nat.le_trans hs3 hb.size)
      rw [hone] at c8
      have C8 := Lib.hid c8
      have C9 := Lib.hid (fun W (hb : Below W3.heap.size W3 W) => allTime_any A1 c1 g w.heap.size w1.heap.size W (HG3.out.below hb hs3) hF)
      have hW : w.heap.size ≤ W3.heap.size := Nat.le_trans s1 hs3
      have hwt : IntKind.i64.wrap (wk + 1) = wk + 1 := IntWalk.i64_in _ ⟨by omega, by omega⟩
      clear hne heq CS HV CI c8 hF hone
      generalize Bs.sumT g = sm at *
      by_cases h4 : wk = 4
      · subst h4
        clear hmo C7
        have C8b := Lib.hid (C8.out W3 (Below.refl _ _))
        go_wp2_with fail
        with_reducible refine (C8b.out).mono ?_
        rintro e w7 ⟨rfl, hb7⟩
        have HB7 := Lib.hid (HB3.out.trans (hb7.mono hW))
        have C9b := Lib.hid (C9.out w7 hb7)
        clear hb7 C8 C8b C9
        go_wp2_with fail
        with_reducible refine (C9b.out).mono ?_
        rintro e w8 ⟨rfl, rfl⟩
        go_wp2
        go_ret
        exact ⟨rfl, HB7.out⟩
      · have d4 : (wk == 4) = false := by rw [beq_eq_false_iff_ne]; exact h4
        have hle := hmo h4
        have C7b := Lib.hid (C7.out W3 (Below.refl _ _))
        generalize Bs.timeL g m (wk + 1) = K at *
        have d5 : decide (K ≤ V) = true := by simp; omega
        clear hmo C7 hle
        go_wp2_with fail
        with_reducible refine (C7b.out).mono ?_
        rintro e w6 ⟨rfl, hb6⟩
        have HX6 := Lib.hid hb6
        have HB6 := Lib.hid (HB3.out.trans (hb6.mono hW))
        have C8b := Lib.hid (C8.out w6 hb6)
        have s6 := hb6.size
        clear hb6 C7b C8
        go_wp2_with fail
        with_reducible refine (C8b.out).mono ?_
        rintro e w7 ⟨rfl, hb7⟩
        have HX7 := Lib.hid (HX6.out.trans (hb7.mono s6))
        have HB7 := Lib.hid (HB6.out.trans (hb7.mono (Nat.le_trans hW s6)))
        have C9b := Lib.hid (C9.out w7 HX7.out)
        clear hb7 C8b C9
        go_wp2_with fail
        with_reducible refine (C9b.out).mono ?_
        rintro e w8 ⟨rfl, rfl⟩
        go_wp2
        go_ret
        exact ⟨rfl, HB7.out⟩
end Go.Proofs.Ytjahmejmkijkaaa
