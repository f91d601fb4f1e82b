/-
  THE WALK OF laws.FnValidGraphLess.
-/
import Derived.Test.YtiokblodjhmjmabDrValidGraph
import Derived.Test.YtiokblodjhmjmabOV
import Derived.Test.YtiokblodjhmjmabLen2
namespace Go.Proofs.Ytiokblodjhmjmab
open Go.RowKit
set_option maxRecDepth 20000 in
set_option maxHeartbeats 6400000 in
theorem fnValidGraphLess_walk (A : Option Addr) (c : Nat) (l : List Int) (w : World) (hb : RB w 0 w.heap.size A l) (hlc : l.length ≤ c ∧ c ≤ maxLen) :
    Calls Try.prog 7 #[.slice A l.length c] w fun e w' => e = .returned (.bool true) ∧ Below w.heap.size w w' := by
  have hl63 : l.length ≤ 9223372036854775807 := by have := hlc.2; unfold maxLen at this; omega
  by_cases hbig : 1048576 < l.length
  · go_enter Try.func7, Try.ntmps7
    go_wp2
    go_ret
    exact ⟨rfl, Below.refl _ _⟩
  · have C1 := Lib.hid (DrawValidGraph_any A c l w hb hlc.1 hlc.2)
    clear hb
    go_enter Try.func7, Try.ntmps7
    go_wp2_with fail
    refine (C1.out).mono ?_
    rintro e w1 ⟨⟨A1, c1, g, rfl, hg, hg16, hgc, hcm⟩, hb1⟩
    have HG := Lib.hid hg
    have s1 := hb1.size
    have hl9 : g.length ≤ 9223372036854775807 := by omega
    have c2 := ValidGraph_any A1 c1 g w.heap.size w1.heap.size w1 HG.out (Nat.le_refl _) hl9
    have cs := fun w2 hg hs => ValidGraphS_any A1 c1 g w.heap.size w1.heap.size w2 hg hs hl9
    have HB1 := Lib.hid hb1
    clear C1 hg hb1
    have HV : Hid (Bs.valid g = true → ∀ n, g.length = n + 1 → decide (0 < (((Bs.usersA g (n : Int)).length : Nat) : Int)) = !Bs.valid (g.take n)) := Lib.hid (fun hv n hn => Bs.less_graph hv hn)
    generalize hok : Bs.valid g = ok at *
    have C2 := Lib.hid c2
    have CS := Lib.hid cs
    clear c2 cs hok
    go_wp2_with fail
    refine (C2.out).mono ?_
    rintro e w2 ⟨rfl, hb2⟩
    have HG2 := Lib.hid (HG.out.below hb2 (Nat.le_refl _))
    have s2 := hb2.size
    have HB2 := Lib.hid (HB1.out.trans (hb2.mono s1))
    have C3 := Lib.hid (CS.out w2 HG2.out s2)
    clear hb2 C2
    go_wp2_with fail
    refine (C3.out).mono ?_
    rintro e w3 ⟨rfl, hb3⟩
    have HG3 := Lib.hid (HG2.out.below hb3 s2)
    have s3 := hb3.size
    have HB3 := Lib.hid (HB2.out.trans (hb3.mono (Nat.le_trans s1 s2)))
    have C4 := Lib.hid (CS.out w3 HG3.out (Nat.le_trans s2 s3))
    clear hb3 C3
    cases ok
    · go_wp2_with fail
      refine (C4.out).mono ?_
      rintro e w4 ⟨rfl, hb4⟩
      have HB4 := Lib.hid (HB3.out.trans (hb4.mono (Nat.le_trans (Nat.le_trans s1 s2) s3)))
      clear hb4 C4
      go_wp2
      go_ret
      exact ⟨rfl, HB4.out⟩
    · by_cases h0 : g.length = 0
      · have hq : ((g.length : Int) == 0) = true := by simp [h0]
        clear h0
        go_wp2_with fail
        refine (C4.out).mono ?_
        rintro e w4 ⟨rfl, hb4⟩
        have HB4 := Lib.hid (HB3.out.trans (hb4.mono (Nat.le_trans (Nat.le_trans s1 s2) s3)))
        clear hb4 C4
        go_wp2
        go_ret
        exact ⟨rfl, HB4.out⟩
      · have hq : ((g.length : Int) == 0) = false := by rw [beq_eq_false_iff_ne]; omega
        have h0' : 0 < g.length := by omega
        obtain ⟨n, hn⟩ : ∃ n, g.length = n + 1 := ⟨g.length - 1, by omega⟩
        have hv := HV.out rfl n hn
        have htl : (g.take n).length = n := by rw [List.length_take]; omega
        obtain ⟨W3, rfl⟩ : ∃ W3, W3 = w3 := ⟨_, rfl⟩
        have hW3 : w1.heap.size ≤ W3.heap.size := Nat.le_trans s2 s3
        have hW : w.heap.size ≤ W3.heap.size := Nat.le_trans s1 hW3
        have cu := fun W (hb : Below W3.heap.size W3 W) => AllUsers_any A1 c1 g (n : Int) w.heap.size w1.heap.size W (HG3.out.below hb hW3) (Nat.le_trans hW3 hb.size) hl9
        have cv := fun W (hb : Below W3.heap.size W3 W) => ValidGraph_any A1 c1 (g.take n) w.heap.size w1.heap.size W ((HG3.out.below hb hW3).take n) (Nat.le_trans hW3 hb.size) (by omega)
        have hul := AllUsers_len g (n : Int)
        generalize Bs.usersA g (n : Int) = U at *
        generalize hvv : Bs.valid (g.take n) = vg at *
        rw [htl] at cv
        clear htl hvv
        have CU := Lib.hid cu
        have CV := Lib.hid cv
        have HBc := Lib.hid ((Below.refl W3.heap.size W3).drewN 1)
        have hgl : (g.length : Int) - 1 = (n : Int) := by omega
        generalize hbu : decide (0 < ((U.length : Nat) : Int)) = bu at *
        have hnc : (n : Int) ≤ (c1 : Int) := by omega
        have hnc' : n ≤ c1 := by omega
        have hn0 : (0 : Int) ≤ (n : Int) := by omega
        have hgn : (g.length : Int) = (n : Int) + 1 := by omega
        clear h0 HV cu cv C4 CS hn
        go_wp2
        have hw : IntKind.i64.wrap (n : Int) = (n : Int) := IntWalk.i64_in _ ⟨by omega, by omega⟩
        subst hv
        cases vg
        all_goals
          first | replace hbu : decide (0 < ((U.length : Nat) : Int)) = true := hbu | replace hbu : decide (0 < ((U.length : Nat) : Int)) = false := hbu
          first
            | (have hbn : decide (0 < U.length) = true := by (have h1 := of_decide_eq_true hbu); exact decide_eq_true (by omega))
            | (have hbn : decide (0 < U.length) = false := by (have h1 := of_decide_eq_false hbu); exact decide_eq_false (by omega))
          go_region_law (first | (go_simp; go_at_call 27; refine (CU.out _ HBc.out).mono ?_; rintro e w6 hr6; obtain ⟨A6, c6, rfl, q6, hb6, _, _⟩ := hr6.ri; have HBc := Lib.hid (HBc.out.trans (hb6.mono HBc.out.size)); clear hr6 q6 hb6) | (go_simp; go_at_call 24; refine (CV.out _ HBc.out).mono ?_; rintro e w7 ⟨rfl, hb7⟩; have HBc := Lib.hid (HBc.out.trans (hb7.mono HBc.out.size)); clear hb7))
          all_goals
            go_wp2
            go_ret
            exact ⟨rfl, HB3.out.trans (HBc.out.mono hW)⟩
end Go.Proofs.Ytiokblodjhmjmab
