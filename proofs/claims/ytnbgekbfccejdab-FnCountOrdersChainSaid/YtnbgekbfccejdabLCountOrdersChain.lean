/-
  THE WALK OF laws.FnCountOrdersChain.
-/
import Derived.Test.YtnbgekbfccejdabDrCountOrders
import Derived.Test.YtnbgekbfccejdabMath48
import Derived.Test.YtnbgekbfccejdabW60
import Derived.Test.YtnbgekbfccejdabR30
import Derived.Test.YtnbgekbfccejdabK1
import Derived.Test.YtnbgekbfccejdabL1
namespace Go.Proofs.Ytnbgekbfccejdab
open Go.RowKit
set_option maxRecDepth 20000 in
set_option maxHeartbeats 6400000 in
theorem fnCountOrdersChain_walk (A : Option Addr) (c : Nat) (l : List Int) (w : World) (hb : RB w 0 w.heap.size A l) (hlc : l.length ≤ c ∧ c ≤ maxLen) :
    Calls Try.prog 10 #[.slice A l.length c] w fun e w' => e = .returned (.bool true) ∧ Below w.heap.size w w' := by
  have hl63 : l.length ≤ 9223372036854775807 := by have := hlc.2; unfold maxLen at this; omega
  by_cases hbig : 1048576 < l.length
  · go_enter Try.func10, Try.ntmps10
    go_wp2
    go_ret
    exact ⟨rfl, Below.refl _ _⟩
  · have C1 := Lib.hid (DrawCountOrders_any A c l w hb hlc.1 hlc.2)
    clear hb
    go_enter Try.func10, Try.ntmps10
    go_wp2_with fail
    refine (C1.out).mono ?_
    rintro e w1 ⟨⟨A1, c1, g, rfl, hg, hg16, hgc, hcm⟩, hb1⟩
    have HG := Lib.hid hg
    have s1 := hb1.size
    have hl9 : g.length ≤ 9223372036854775807 := by omega
    have q2 := CountOrders_any A1 c1 g w.heap.size w1.heap.size w1 HG.out (Nat.le_refl _) hl9
    have qs := fun W hg hs => CountOrdersS_any A1 c1 g w.heap.size w1.heap.size W hg hs hl9
    obtain ⟨V, hV⟩ : ∃ V, V = Bs.cntC g := ⟨_, rfl⟩
    rw [← hV] at q2 qs
    have HV := Lib.hid hV
    have C2 := Lib.hid q2
    have CS := Lib.hid qs
    have HB1 := Lib.hid hb1
    have hne : (V != V) = false := by simp
    have heq : (V == V) = true := by simp
    clear C1 hg q2 qs hb1 hV
    go_wp2_with fail
    with_reducible refine (C2.out).mono ?_
    rintro e w2 ⟨rfl, hb2⟩
    have s2 := hb2.size
    have HG2 := Lib.hid (HG.out.below hb2 (Nat.le_refl _))
    have HB2 := Lib.hid (HB1.out.trans (hb2.mono s1))
    have C3 := Lib.hid (CS.out w2 HG2.out s2)
    clear hb2 C2 HG HB1
    go_wp2_with fail
    with_reducible refine (C3.out).mono ?_
    rintro e w3 ⟨rfl, hb3⟩
    have s3 := hb3.size
    have hs3 : w1.heap.size ≤ w3.heap.size := Nat.le_trans s2 s3
    have HG3 := Lib.hid (HG2.out.below hb3 s2)
    have HB3 := Lib.hid (HB2.out.trans (hb3.mono (Nat.le_trans s1 s2)))
    clear hb3 C3 HG2 HB2
    obtain ⟨W3, rfl⟩ : ∃ W3, W3 = w3 := ⟨_, rfl⟩
    by_cases h0 : V < 0
    · clear HV
      have C6 := Lib.hid (CS.out W3 HG3.out hs3)
      clear CS
      go_wp2_with fail
      with_reducible refine (C6.out).mono ?_
      rintro e w6 ⟨rfl, hb6⟩
      have HB6 := Lib.hid (HB3.out.trans (hb6.mono (Nat.le_trans s1 hs3)))
      clear hb6 C6
      go_wp2
      go_ret
      exact ⟨rfl, HB6.out⟩
    · clear hne heq CS
      obtain ⟨hv, h5, hvn, hn1, _, _⟩ := Bs.cnt_law HV.out h0
      have hd0 : decide (V < 0) = false := by simp; omega
      have hF := valid_fine hv
      have hol : (Bs.top g).length = g.length := valid_full hv
      have HOI := Lib.hid (Bs.top_dist g).2
      have hcl := Bs.chain_law hv
      have HV1 := Lib.hid (show (V == 1) = Bs.chainB g (Bs.top g) g.length from by
        rw [Bool.eq_iff_iff, beq_iff_eq, ← hcl]
        omega)
      have HCS := Lib.hid (Bs.chainB_succ g (Bs.top g))
      have HC1 := Lib.hid (show Bs.chainB g (Bs.top g) 1 = true from rfl)
      have HC0 := Lib.hid (show Bs.chainB g (Bs.top g) 0 = true from rfl)
      have HNL := Lib.hid (fun i (hi : i < g.length) => Bs.fine_needs_len hF hi)
      have c6 := TopOrder_any A1 c1 g w.heap.size w1.heap.size W3 HG3.out hs3 hl9
      rw [show Bs.topL g = Bs.top g from by unfold Bs.topL; rw [hv]; rfl] at c6
      generalize Bs.top g = O at *
      have C6 := Lib.hid c6
      have HOL := Lib.hid hol
      clear HV hv hvn hF hcl c6 hol
      go_wp2_with fail
      with_reducible refine (C6.out).mono ?_
      rintro e w6 ⟨⟨A6, c6, rfl, ho6⟩, hb6⟩
      have HO6 := Lib.hid ho6.ri
      have HG6 := Lib.hid (HG3.out.below hb6 hs3)
      have HB6 := Lib.hid (HB3.out.trans (hb6.mono (Nat.le_trans s1 hs3)))
      clear ho6 hb6 C6 HG3 HB3
      go_wp2
      go_loopw [6, 7] (fun vb i wr => ∃ (k : Nat) (b : Bool) (n : Nat), 1 ≤ k ∧ (k ≤ O.length ∨ (O.length = 0 ∧ k = 1)) ∧ vb = .bool b ∧ i = .int .i64 k ∧ b = Bs.chainB g O k ∧ wr = w6.drewN n) (fun _ i _ => O.length + 1 - (intOf i).toNat)
      case atStart => exact ⟨1, true, 0, Nat.le_refl _, by omega, rfl, rfl, HC1.out.symm, rfl⟩
      case round =>
        obtain ⟨k, b, n, hk1, hk, rfl, rfl, hbk, rfl⟩ := hrel
        by_cases hlt : k < O.length
        · obtain ⟨j, rfl⟩ : ∃ j, k = j + 1 := ⟨k - 1, by omega⟩
          have hjl : j < O.length := by omega
          have hcs := HCS.out (j + 1)
          rw [← hbk] at hcs
          obtain ⟨bo, oo, rfl, _, _, hc1⟩ := HO6.out.at_ hlt
          obtain ⟨bo2, oo2, e2, _, _, hc0⟩ := HO6.out.at_ hjl
          cases e2
          have hx := HOI.out _ (List.getElem_mem hlt)
          rw [Nat.add_sub_cancel, Bs.giZ_at hlt, Bs.giZ_at hjl, show (j + 1 == 0) = false from by rw [beq_eq_false_iff_ne]; omega, Bool.false_or] at hcs
          obtain ⟨x, hxv⟩ : ∃ x : Nat, O[j + 1] = (x : Int) := ⟨O[j + 1].toNat, by omega⟩
          rw [hxv] at hc1 hx hcs
          rw [Int.toNat_natCast] at hcs
          have hxl : x < g.length := by omega
          obtain ⟨bg, og, N, cN, rfl, _, _, _, n1, _, _, hnc, hcN, hN⟩ := HG6.out x hxl
          rw [need_at hxl] at hcs
          have hnl := HNL.out x hxl
          have hkb : j + 1 ≤ 8 := by have := HOL.out; omega
          have q4 := fun jj => lisIn_quiet2 N cN g[x].needs O[j] _ _ w6 hN (by omega) n jj
          have i0 : (0 : Int) ≤ (x : Int) := by omega
          have i1 : (x : Int) < (g.length : Int) := by omega
          have i2 : (0 : Int) ≤ (j : Int) := by omega
          have i3 : (j : Int) < (O.length : Int) := by omega
          have i4 : (0 : Int) ≤ (j : Int) + 1 := by omega
          have i5 : (j : Int) + 1 < (O.length : Int) := by omega
          have hcast : ((j + 1 : Nat) : Int) = (j : Int) + 1 := by omega
          have hw1 : IntKind.i64.wrap ((j : Int) + 1 - 1) = (j : Int) := by rw [show (j : Int) + 1 - 1 = (j : Int) from by omega]; exact IntWalk.i64_in _ ⟨by omega, by omega⟩
          have hs1 : (j : Int) + 1 - 1 = (j : Int) := by omega
          clear hN hxv hbk
          generalize O[j] = y at *
          rw [hcast]
          cases b
          · have HS := Lib.hid (show false = Bs.chainB g O (j + 1 + 1) from by rw [hcs]; rfl)
            clear hcs q4
            go_wp2
            go_quiet (fail)
            go_wp2
            go_roundw
            case rel => exact ⟨j + 1 + 1, _, _, by omega, by omega, rfl, by go_num, HS.out, by first | rfl | rw [World.drewN_drewN]⟩
            case measure => simp [intOf]; omega
          · rw [Bool.true_and] at hcs
            generalize g[x].needs.contains y = bb at *
            have HS := Lib.hid hcs.symm
            have C7 := fun jj => Lib.hid (q4 jj)
            clear hcs q4
            go_wp2
            go_quiet ((go_at_call 34; with_reducible exact (C7 _).out))
            go_wp2
            go_roundw
            case rel => exact ⟨j + 1 + 1, _, _, by omega, by omega, rfl, by go_num, HS.out, by first | rfl | rw [World.drewN_drewN]⟩
            case measure => simp [intOf]; omega
        · have hbe : b = (V == 1) := by
            rw [hbk, HV1.out]
            rcases hk with hk | ⟨hk0, rfl⟩
            · rw [show k = g.length from by have := HOL.out; omega]
            · rw [HC1.out, show g.length = 0 from by have := HOL.out; omega, HC0.out]
          have heq2 : ((V == 1) == b) = true := by rw [hbe]; simp
          have hnk : ¬ ((k : Int) < (O.length : Int)) := by omega
          have HBE := Lib.hid hbe
          obtain ⟨q, hq⟩ : ∃ q, q = (V == 1) := ⟨_, rfl⟩
          clear hbk hbe
          cases hqv : (V == 1)
          · rw [hqv] at heq2
            go_wp2
            go_ret
            exact ⟨ret_bool (by first | exact heq2 | (rw [HBE.out]; simp) | simp), HB6.out.drewN _⟩
          · rw [hqv] at heq2
            go_wp2
            go_ret
            exact ⟨ret_bool (by first | exact heq2 | (rw [HBE.out]; simp) | simp), HB6.out.drewN _⟩
end Go.Proofs.Ytnbgekbfccejdab
