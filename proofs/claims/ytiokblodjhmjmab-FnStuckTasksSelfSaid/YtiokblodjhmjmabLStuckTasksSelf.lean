/-
  THE WALK OF laws.FnStuckTasksSelf.
-/
import Derived.Test.YtiokblodjhmjmabDrStuckTasks
import Derived.Test.YtiokblodjhmjmabL1
import Derived.Test.YtiokblodjhmjmabW10
import Derived.Test.YtiokblodjhmjmabW13
import Derived.Test.YtiokblodjhmjmabLen
import Derived.Test.YtiokblodjhmjmabLen2
import Derived.Test.YtiokblodjhmjmabOV
namespace Go.Proofs.Ytiokblodjhmjmab
open Go.RowKit
set_option maxRecDepth 20000 in
set_option maxHeartbeats 6400000 in
theorem fnStuckTasksSelf_walk (A : Option Addr) (c : Nat) (l : List Int) (w : World) (hb : RB w 0 w.heap.size A l) (hlc : l.length ≤ c ∧ c ≤ maxLen) :
    Calls Try.prog 9 #[.slice A l.length c] w fun e w' => e = .returned (.bool true) ∧ Below w.heap.size w w' := by
  have hl63 : l.length ≤ 9223372036854775807 := by have := hlc.2; unfold maxLen at this; omega
  by_cases hbig : 1048576 < l.length
  · go_enter Try.func9, Try.ntmps9
    go_wp2
    go_ret
    exact ⟨rfl, Below.refl _ _⟩
  · have C1 := Lib.hid (DrawStuckTasks_any A c l w hb hlc.1 hlc.2)
    clear hb
    go_enter Try.func9, Try.ntmps9
    go_wp2_with fail
    refine (C1.out).mono ?_
    rintro e w1 ⟨⟨A1, c1, g, rfl, hg, hg16, hgc, hcm⟩, hb1⟩
    have HG := Lib.hid hg
    have s1 := hb1.size
    have hl9 : g.length ≤ 9223372036854775807 := by omega
    obtain ⟨L, hL⟩ : ∃ L, L = Bs.stuckL g := ⟨_, rfl⟩
    have c2 := StuckTasks_any A1 c1 g w.heap.size w1.heap.size w1 HG.out (Nat.le_refl _) hl9
    have hlen := StuckTasks_len g
    rw [← hL] at c2 hlen
    have C2 := Lib.hid c2
    have CS := Lib.hid (fun w2 hg hs => StuckTasksS_any A1 c1 g w.heap.size w1.heap.size w2 hg hs hl9)
    rw [← hL] at CS
    have HL := Lib.hid hL
    clear C1 hg hL c2
    go_wp2_with fail
    refine (C2.out).mono ?_
    rintro e w2 hr2
    obtain ⟨A2, c2, rfl, q2, hb2, hlc2, hcm2⟩ := hr2.ri
    have g2 := HG.out.below hb2 (Nat.le_refl _)
    have s2 := hb2.size
    have C3 := Lib.hid (CS.out w2 g2 s2)
    have HQ2 := Lib.hid q2
    have HG2 := Lib.hid g2
    have HB2 := Lib.hid (hb1.trans (hb2.mono s1))
    clear hr2 q2 g2 hb2 C2
    go_wp2_with fail
    refine (C3.out).mono ?_
    rintro e w3 hr3
    obtain ⟨A3, c3, rfl, q3, hb3, hlc3, hcm3⟩ := hr3.ri
    have s3 := hb3.size
    have C4 := Lib.hid (equalInts_same A2 c2 A3 c3 L _ _ _ _ w3 (HQ2.out.below hb3 (Nat.le_refl _)) q3 (by omega))
    have HG3 := Lib.hid (HG2.out.below hb3 s2)
    have HQ3 := Lib.hid (HQ2.out.below hb3 (Nat.le_refl _))
    have HB3 := Lib.hid (HB2.out.trans (hb3.mono (Nat.le_trans s1 s2)))
    clear hr3 q3 hb3 C3 HQ2 HB2 HG2
    go_wp2_with fail
    refine (C4.out).mono ?_
    rintro e w4 ⟨rfl, n, rfl⟩
    clear C4
    obtain ⟨W3, rfl⟩ : ∃ W3, W3 = w3 := ⟨_, rfl⟩
    have hs3 : w1.heap.size ≤ (W3.drewN n).heap.size := Nat.le_trans s2 s3
    have C5 := ValidGraph_any A1 c1 g w.heap.size w1.heap.size (W3.drewN n) (HG3.out.drewN n) hs3 hl9
    obtain ⟨hv, hhv⟩ : ∃ hv, hv = Bs.valid g := ⟨_, rfl⟩
    rw [← hhv] at C5
    have HHV := Lib.hid hhv
    have C5 := Lib.hid C5
    clear hhv HL
    go_wp2_with fail
    refine (C5.out).mono ?_
    rintro e w5 ⟨rfl, hb5⟩
    have s5 := hb5.size
    have HG5 := Lib.hid ((HG3.out.drewN n).below hb5 hs3)
    have HQ5 := Lib.hid ((HQ3.out.drewN n).below hb5 s3)
    have HB5 := Lib.hid (((HB3.out.drewN n).trans (hb5.mono (Nat.le_trans (Nat.le_trans s1 s2) s3))))
    clear hb5 C5 HG3 HQ3 HB3
    obtain ⟨W5, rfl⟩ : ∃ W5, W5 = w5 := ⟨_, rfl⟩
    have hs5 : w1.heap.size ≤ W5.heap.size := Nat.le_trans hs3 s5
    have hs25 : w2.heap.size ≤ W5.heap.size := Nat.le_trans s3 s5
    cases hv
    · clear HHV
      have C6 := Lib.hid (CS.out W5 HG5.out hs5)
      go_wp2_with fail
      refine (C6.out).mono ?_
      rintro e w6 hr6
      obtain ⟨A6, c6, rfl, q6, hb6, _, _⟩ := hr6.ri
      have C7 := Lib.hid (equalInts_same A2 c2 A6 c6 L _ _ _ _ w6 (HQ5.out.below hb6 hs25) q6 (by omega))
      have HB6 := Lib.hid (HB5.out.trans (hb6.mono (Nat.le_trans s1 hs5)))
      clear hr6 q6 hb6 C6
      go_wp2_with fail
      refine (C7.out).mono ?_
      rintro e w7 ⟨rfl, n7, rfl⟩
      go_wp2
      go_ret
      exact ⟨rfl, HB6.out.drewN _⟩
    · by_cases h0 : g.length = 0
      · have hq : ((g.length : Int) == 0) = true := by simp [h0]
        clear h0 HHV
        have C6 := Lib.hid (CS.out W5 HG5.out hs5)
        go_wp2_with fail
        refine (C6.out).mono ?_
        rintro e w6 hr6
        obtain ⟨A6, c6, rfl, q6, hb6, _, _⟩ := hr6.ri
        have C7 := Lib.hid (equalInts_same A2 c2 A6 c6 L _ _ _ _ w6 (HQ5.out.below hb6 hs25) q6 (by omega))
        have HB6 := Lib.hid (HB5.out.trans (hb6.mono (Nat.le_trans s1 hs5)))
        clear hr6 q6 hb6 C6
        go_wp2_with fail
        refine (C7.out).mono ?_
        rintro e w7 ⟨rfl, n7, rfl⟩
        go_wp2
        go_ret
        exact ⟨rfl, HB6.out.drewN _⟩
      · have hq : ((g.length : Int) == 0) = false := by rw [beq_eq_false_iff_ne]; omega
        have hg0 : 0 < g.length := by omega
        have hgi : (0 : Int) < (g.length : Int) := by omega
        obtain ⟨k, hk⟩ : ∃ k, k = l.length % g.length := ⟨_, rfl⟩
        have hkl : k < g.length := by rw [hk]; exact Nat.mod_lt _ hg0
        have hrem : Int.tmod (l.length : Int) (g.length : Int) = (k : Int) := by rw [Int.tmod_eq_emod_of_nonneg (by omega)]; omega
        have HSELF := Lib.hid (Bs.self_law HHV.out.symm hkl)
        obtain ⟨U, hU⟩ : ∃ U, U = Bs.usersA g (k : Int) := ⟨_, rfl⟩
        obtain ⟨S, hS⟩ : ∃ S, S = Bs.stuckL (Bs.setN g k [(k : Int)]) := ⟨_, rfl⟩
        have hul := AllUsers_len g (k : Int)
        have hsl := StuckTasks_len (Bs.setN g k [(k : Int)])
        have c6 := AllUsers_any A1 c1 g (k : Int) w.heap.size w1.heap.size W5 HG5.out hs5 hl9
        rw [← hU] at hul c6
        rw [← hS] at hsl
        rw [← hU, ← hS] at HSELF
        have C6 := Lib.hid c6
        have HS0 := Lib.hid hS
        clear h0 hk hU hS c6 CS HHV HQ5
        go_wp2_with fail
        refine (C6.out).mono ?_
        rintro e w6 hr6
        obtain ⟨A6, c6, rfl, q6, hb6, hlc6, hcm6⟩ := hr6.ri
        have s6 := hb6.size
        have HU6 := Lib.hid q6
        have HG6 := Lib.hid (HG5.out.below hb6 hs5)
        have HB6 := Lib.hid (HB5.out.trans (hb6.mono (Nat.le_trans s1 hs5)))
        clear hr6 q6 hb6 C6 HG5 HB5
        obtain ⟨WR, rfl⟩ : ∃ WR, WR = w6 := ⟨_, rfl⟩
        have hs6 : w1.heap.size ≤ WR.heap.size := Nat.le_trans hs5 s6
        obtain ⟨b, o, rs, rfl, hbl, hrl, hrows⟩ := HG6.out.rows (by omega)
        have HCF := Lib.hid (fun j u hu => ((Below.alloc (Below.refl WR.heap.size WR) (Nat.le_refl _) (.cells #[] 30)).cell (p := ⟨b, o + j, none⟩) (show b < WR.heap.size from by omega)).trans (rows_cells hrl hrows j u hu))
        have HRO := Lib.hid hrows
        have hp1 : ([] : List RW).length + rs.length ≤ 1000000000 := by simp only [List.length_nil]; omega
        have hki : (k : Int) < (g.length : Int) := by omega
        have hk0 : (0 : Int) ≤ (k : Int) := by omega
        clear hrows
        go_wp2_with (at_builtin; go_loud (refine push_rows rfl _ _ rfl WR.heap.size (some ⟨WR.heap.size, 0, none⟩) 0 [] rs rfl (OU.nil WR WR.heap.size (Nat.le_refl _)) b o c1 (by rw [hrl]; rfl) HCF.out hp1 (by simp) ?_; intro A7 c7 w7 ho7 hb7; obtain ⟨bb, hA7, hbb, hltb, ⟨v1, q0⟩, f0, s7, R8, B8⟩ := copiedN ho7 hb7 hrl HRO.out s1 hs6 hkl (k : Int); subst hA7; have HR8 := Lib.hid R8; have HB8 := Lib.hid B8; clear ho7 hb7 R8 B8))
        have hnl : (Bs.setN g k [(k : Int)]).length = g.length := Bs.setN_len _ _ _
        have c9 := StuckTasks_any (some ⟨bb, 0, none⟩) c7 (Bs.setN g k [(k : Int)]) w.heap.size (w7.heap.size + 1) _ HR8.out (by simp) (by omega)
        rw [hnl, ← HS0.out] at c9
        have C9 := Lib.hid c9
        clear c9 hnl HS0
        refine (C9.out).mono ?_
        rintro e w9 hr9
        obtain ⟨A9, c9, rfl, q9, hb9, hlc9, hcm9⟩ := hr9.ri
        have hb9' := HB8.out.trans (hb9.mono (by simp; omega))
        have HS9 := Lib.hid q9
        have HU9 := Lib.hid (HU6.out.below hb9' (Nat.le_refl _))
        have HB9 := Lib.hid (HB6.out.trans (hb9'.mono (Nat.le_trans s1 hs6)))
        clear hr9 q9 hb9 hb9' C9 HU6
        obtain ⟨W9, rfl⟩ : ∃ W9, W9 = w9 := ⟨_, rfl⟩
        go_wp2
        go_loopw [9] (fun i wr => ∃ j : Nat, i = .int .i64 (j : Int) ∧ wr = W9) (fun i _ => g.length + 1 - (intOf i).toNat)
        case atStart => exact ⟨0, rfl, rfl⟩
        case round =>
          obtain ⟨j, rfl, rfl⟩ := hrel
          by_cases hj : j < g.length
          · have hx := HSELF.out j hj
            have c10 := lisIn_any A9 c9 S (j : Int) _ _ wr HS9.out (by omega)
            have c11 := lisIn_any A6 c6 U (j : Int) _ _ wr HU9.out (by omega)
            rw [hx] at c10
            have hjl : (j : Int) < (g.length : Int) := by omega
            clear hx
            generalize U.contains (j : Int) = uc at *
            by_cases hjk : (j : Int) = (k : Int)
            · have e1 : ((j : Int) == (k : Int)) = true := by simp [hjk]
              rw [e1, Bool.true_or] at c10
              have C10 := Lib.hid c10
              clear hjk c10 c11
              go_wp2_with fail
              refine (C10.out).mono ?_
              rintro e w10 ⟨rfl, rfl⟩
              go_wp2
              go_roundw
              case rel => exact ⟨j + 1, by go_num, by first | rfl | trivial⟩
              case measure => simp [intOf]; omega
            · have e1 : ((j : Int) == (k : Int)) = false := by simp [hjk]
              rw [e1, Bool.false_or] at c10
              have C10 := Lib.hid c10
              have C11 := Lib.hid c11
              clear hjk c10 c11
              cases uc
              · go_wp2_with fail
                refine (C10.out).mono ?_
                rintro e w10 ⟨rfl, rfl⟩
                go_wp2_with fail
                refine (C11.out).mono ?_
                rintro e w11 ⟨rfl, rfl⟩
                go_wp2
                go_roundw
                case rel => exact ⟨j + 1, by go_num, by first | rfl | trivial⟩
                case measure => simp [intOf]; omega
              · go_wp2_with fail
                refine (C10.out).mono ?_
                rintro e w10 ⟨rfl, rfl⟩
                go_wp2_with fail
                refine (C11.out).mono ?_
                rintro e w11 ⟨rfl, rfl⟩
                go_wp2
                go_roundw
                case rel => exact ⟨j + 1, by go_num, by first | rfl | trivial⟩
                case measure => simp [intOf]; omega
          · go_wp2
            go_ret
            exact ⟨rfl, HB9.out⟩
end Go.Proofs.Ytiokblodjhmjmab
