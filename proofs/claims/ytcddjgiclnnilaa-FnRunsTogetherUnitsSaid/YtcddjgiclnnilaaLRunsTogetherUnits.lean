/-
  THE WALK OF laws.FnRunsTogetherUnits.
-/
import Derived.Test.YtcddjgiclnnilaaX6
import Derived.Test.YtcddjgiclnnilaaRI
namespace Go.Proofs.Ytcddjgiclnnilaa
open Go.RowKit
set_option maxRecDepth 20000 in
set_option maxHeartbeats 6400000 in
theorem fnRunsTogetherUnits_walk (A : Option Addr) (c : Nat) (l : List Int) (w : World) (hb : RB w 0 w.heap.size A l) (hlc : l.length ≤ c ∧ c ≤ maxLen) :
    Calls Try.prog 13 #[.slice A l.length c] w fun e w' => e = .returned (.bool true) ∧ Below w.heap.size w w' := by
  have hl63 : l.length ≤ 9223372036854775807 := by have := hlc.2; unfold maxLen at this; omega
  by_cases hbig : 1048576 < l.length
  · go_enter Try.func13, Try.ntmps13
    go_wp2
    go_ret
    exact ⟨rfl, Below.refl _ _⟩
  · have C1 := Lib.hid (DrawRunsTogether_any A c l w hb hlc.1 hlc.2)
    clear hb
    go_enter Try.func13, Try.ntmps13
    go_wp2_with fail
    refine (C1.out).mono ?_
    rintro e w1 ⟨⟨A1, c1, g, A2, c2, m, A3, c3, r, rfl, hg, hg16, hgc, hcm, hm, hm100, hmc, hmm, hr, hr100, hrc, hrm⟩, hb1⟩
    have HG := Lib.hid hg
    have HM := Lib.hid hm
    have HR := Lib.hid hr
    have s1 := hb1.size
    have hl9 : g.length ≤ 9223372036854775807 := by omega
    have hm9 : m.length ≤ 9223372036854775807 := by omega
    have hr9 : r.length ≤ 9223372036854775807 := by omega
    have q2 := RunsTogether_any A1 c1 g A2 c2 m A3 c3 r w.heap.size w1.heap.size w.heap.size w1.heap.size w.heap.size w1.heap.size w1 HG.out (Nat.le_refl _) HM.out (Nat.le_refl _) HR.out (Nat.le_refl _) hl9 hm9 hr9
    have qs := fun W hg hm hr hs => RunsTogetherS_any A1 c1 g A2 c2 m A3 c3 r w.heap.size w1.heap.size w.heap.size w1.heap.size w.heap.size w1.heap.size W hg hs hm hs hr hs hl9 hm9 hr9
    obtain ⟨ok, hok⟩ : ∃ ok, ok = Bs.runOk g m r := ⟨_, rfl⟩
    rw [← hok] at q2 qs
    have HOK := Lib.hid hok
    clear hok
    have C2 := Lib.hid q2
    have CS := Lib.hid qs
    have HB1 := Lib.hid hb1
    have hne : (ok != ok) = false := by simp
    have heq : (ok == ok) = true := by simp
    clear C1 hg hm hr q2 qs hb1
    go_wp2_with fail
    refine (C2.out).mono ?_
    rintro e w2 ⟨rfl, hb2⟩
    have s2 := hb2.size
    have HG2 := Lib.hid (HG.out.below hb2 (Nat.le_refl _))
    have HM2 := Lib.hid (HM.out.below hb2 (Nat.le_refl _))
    have HR2 := Lib.hid (HR.out.below hb2 (Nat.le_refl _))
    have HB2 := Lib.hid (HB1.out.trans (hb2.mono s1))
    obtain ⟨U, hU⟩ : ∃ U, U = Bs.usedL g r := ⟨_, rfl⟩
    have c2u := UsedUnits_any A1 c1 g A3 c3 r w.heap.size w1.heap.size w.heap.size w1.heap.size w2 HG2.out s2 HR2.out s2 hl9 hr9
    have hUl : U.length ≤ 3 := by
      rw [hU]
      unfold Bs.usedL
      split <;> simp
    rw [← hU] at c2u
    have HU := Lib.hid hU
    have C2u := Lib.hid c2u
    clear hb2 C2 HG HM HR HB1 c2u hU
    go_wp2_with fail
    refine (C2u.out).mono ?_
    rintro e w3 hr3
    obtain ⟨A4, c4, rfl, q4, hb3, hlc4, hcm4⟩ := hr3.ri
    have s3 := hb3.size
    have hs3 : w1.heap.size ≤ w3.heap.size := Nat.le_trans s2 s3
    have HG3 := Lib.hid (HG2.out.below hb3 s2)
    have HM3 := Lib.hid (HM2.out.below hb3 s2)
    have HR3 := Lib.hid (HR2.out.below hb3 s2)
    have HU3 := Lib.hid q4
    have HB3 := Lib.hid (HB2.out.trans (hb3.mono (Nat.le_trans s1 s2)))
    have C3 := Lib.hid (CS.out w3 HG3.out HM3.out HR3.out hs3)
    clear hr3 q4 hb3 C2u HG2 HM2 HR2 HB2
    go_wp2_with fail
    refine (C3.out).mono ?_
    rintro e w5 ⟨rfl, hb5⟩
    have s5 := hb5.size
    have hs5 : w1.heap.size ≤ w5.heap.size := Nat.le_trans hs3 s5
    have HG5 := Lib.hid (HG3.out.below hb5 hs3)
    have HM5 := Lib.hid (HM3.out.below hb5 hs3)
    have HR5 := Lib.hid (HR3.out.below hb5 hs3)
    have HU5 := Lib.hid (HU3.out.below hb5 (Nat.le_refl _))
    have HB5 := Lib.hid (HB3.out.trans (hb5.mono (Nat.le_trans s1 hs3)))
    clear hb5 C3 HG3 HM3 HR3 HB3 HU3
    by_cases hU3 : U.length = 3
    · have e3 : ((U.length : Int) != 3) = false := by simp [hU3]
      have c6 := ValidRoom_any A2 c2 m w.heap.size w1.heap.size w5 HM5.out hs5 hm9
      obtain ⟨ro, hro⟩ : ∃ ro, ro = Bs.roomOk m := ⟨_, rfl⟩
      rw [← hro] at c6
      have HRO := Lib.hid hro
      have C6 := Lib.hid c6
      have HU3L := Lib.hid hU3
      clear c6 hro hU3
      go_wp2_with fail
      refine (C6.out).mono ?_
      rintro e w6 ⟨rfl, hb6⟩
      have s6 := hb6.size
      have hs6 : w1.heap.size ≤ w6.heap.size := Nat.le_trans hs5 s6
      have HG6 := Lib.hid (HG5.out.below hb6 hs5)
      have HM6 := Lib.hid (HM5.out.below hb6 hs5)
      have HR6 := Lib.hid (HR5.out.below hb6 hs5)
      have HU6 := Lib.hid (HU5.out.below hb6 s5)
      have HB6 := Lib.hid (HB5.out.trans (hb6.mono (Nat.le_trans s1 hs5)))
      clear hb6 C6 HG5 HM5 HR5 HB5 HU5
      obtain ⟨W6, rfl⟩ : ∃ W6, W6 = w6 := ⟨_, rfl⟩
      cases ro
      · have C7 := Lib.hid (CS.out W6 HG6.out HM6.out HR6.out hs6)
        clear HRO CS HOK HU
        go_wp2_with fail
        refine (C7.out).mono ?_
        rintro e w7 ⟨rfl, hb7⟩
        have HB7 := Lib.hid (HB6.out.trans (hb7.mono (Nat.le_trans s1 hs6)))
        clear hb7 C7
        go_wp2
        go_ret
        exact ⟨rfl, HB7.out⟩
      · obtain ⟨hm3, hall⟩ := Bs.units_law HU.out HU3L.out HRO.out.symm
        rw [← HOK.out] at hall
        obtain ⟨q, hq⟩ : ∃ q : Nat → Bool, q = fun (p : Nat) => decide (Bs.giZ U p ≤ Bs.giZ m p) := ⟨_, rfl⟩
        rw [← hq] at hall
        have HQ := Lib.hid (fun (k : Nat) => show q k = decide (Bs.giZ U k ≤ Bs.giZ m k) from by rw [hq])
        have HM3 := Lib.hid hm3
        have HALL := Lib.hid hall
        clear HRO CS HOK HU hm3 hall hq hne heq
        go_wp2
        go_loopw [8, 9] (fun s i wr => ∃ k : Nat, i = .int .i64 (k : Int) ∧ s = .bool ((List.range k).all q) ∧ k ≤ U.length ∧ ∃ n, wr = W6.drewN n) (fun _ i _ => U.length + 1 - (intOf i).toNat)
        case atStart => exact ⟨0, rfl, rfl, Nat.zero_le _, 0, rfl⟩
        case round =>
          obtain ⟨k, rfl, rfl, hk, n, rfl⟩ := hrel
          by_cases hi : k < U.length
          · have hkm : k < m.length := by have := HM3.out; have := HU3L.out; omega
            obtain ⟨b, o, rfl, _, _, hc0⟩ := HU6.out k hi
            obtain ⟨b', o', rfl, _, _, hc1⟩ := HM6.out k hkm
            have hqk := HQ.out k
            rw [Bs.giZ_at hi, Bs.giZ_at hkm] at hqk
            have hst : (List.range (k + 1)).all q = ((List.range k).all q && q k) := by rw [List.range_succ, List.all_append]; simp
            have d0 : (0 : Int) ≤ (k : Int) := by omega
            have d1 : (k : Int) < (U.length : Int) := by omega
            have d2 : (k : Int) < (m.length : Int) := by omega
            generalize U[k] = x at *
            generalize m[k] = y at *
            rw [hqk] at hst
            have H1 := Lib.hid hst
            clear hst hqk
            generalize (List.range k).all q = sb at *
            cases sb
            · have H1 := Lib.hid (show (List.range (k + 1)).all q = false from by rw [H1.out]; rfl)
              go_wp2
              go_quiet (fail)
              go_wp2
              go_roundw
              case rel => exact ⟨k + 1, by go_num, by rw [H1.out], by omega, _, by first | rfl | rw [World.drewN_drewN]⟩
              case measure => simp [intOf]; omega
            · by_cases hxy : x ≤ y
              · have e5 : decide (x ≤ y) = true := by simpa using hxy
                have H1 := Lib.hid (show (List.range (k + 1)).all q = true from by rw [H1.out, e5]; rfl)
                clear hxy
                go_wp2
                go_quiet (fail)
                go_wp2
                go_roundw
                case rel => exact ⟨k + 1, by go_num, by rw [H1.out], by omega, _, by first | rfl | rw [World.drewN_drewN]⟩
                case measure => simp [intOf]; omega
              · have e5 : decide (x ≤ y) = false := by simpa using hxy
                have H1 := Lib.hid (show (List.range (k + 1)).all q = false from by rw [H1.out, e5]; rfl)
                clear hxy
                go_wp2
                go_quiet (fail)
                go_wp2
                go_roundw
                case rel => exact ⟨k + 1, by go_num, by rw [H1.out], by omega, _, by first | rfl | rw [World.drewN_drewN]⟩
                case measure => simp [intOf]; omega
          · have hk3 : k = 3 := by have := HU3L.out; omega
            have hsb : (List.range k).all q = ok := by rw [hk3]; exact HALL.out.symm
            generalize (List.range k).all q = sb at *
            subst hsb
            have hbb : (sb == sb) = true := by cases sb <;> rfl
            go_wp2
            go_ret
            exact ⟨rfl, HB6.out.drewN _⟩
    · have e3 : ((U.length : Int) != 3) = true := by simp; omega
      have C7 := Lib.hid (CS.out w5 HG5.out HM5.out HR5.out hs5)
      clear CS HOK HU hU3
      go_wp2_with fail
      refine (C7.out).mono ?_
      rintro e w7 ⟨rfl, hb7⟩
      have HB7 := Lib.hid (HB5.out.trans (hb7.mono (Nat.le_trans s1 hs5)))
      clear hb7 C7
      go_wp2
      go_ret
      exact ⟨rfl, HB7.out⟩
end Go.Proofs.Ytcddjgiclnnilaa
