/-
  THE WALK OF laws.FnReadyOrderLeft.
-/
import Derived.Test.YtmdmemompjpmkaaK17
import Derived.Test.YtmdmemompjpmkaaRI
import Derived.Test.YtmdmemompjpmkaaW45
import Derived.Test.YtmdmemompjpmkaaR10
import Derived.Test.YtmdmemompjpmkaaLen4
import Derived.Test.YtmdmemompjpmkaaMath31
import Derived.Test.YtmdmemompjpmkaaMath92
import Derived.Test.YtmdmemompjpmkaaW111
namespace Go.Proofs.Ytmdmemompjpmkaa
open Go.RowKit
set_option maxRecDepth 20000 in
set_option maxHeartbeats 6400000 in
theorem fnReadyOrderLeft_walk (A : Option Addr) (c : Nat) (l : List Int) (w : World) (hb : RB w 0 w.heap.size A l) (hlc : l.length ≤ c ∧ c ≤ maxLen) :
    Calls Try.prog 10 #[.slice A l.length c] w fun e w' => e = .returned (.bool true) ∧ Below w.heap.size w w' := by
  have hl63 : l.length ≤ 9223372036854775807 := by have := hlc.2; unfold maxLen at this; omega
  by_cases hbig : 1048576 < l.length
  · go_enter Try.func10, Try.ntmps10
    go_wp2
    go_ret
    exact ⟨rfl, Below.refl _ _⟩
  · have C1 := Lib.hid (DrawReadyOrder_any A c l w hb hlc.1 hlc.2)
    clear hb
    go_enter Try.func10, Try.ntmps10
    go_wp2_with fail
    refine (C1.out).mono ?_
    rintro e w1 ⟨⟨A1, c1, g, A0, c0, d, rfl, hg, hg16, hgc, hcm, hd, hd100, hdc, hdm⟩, hb1⟩
    have HG := Lib.hid hg
    have HD := Lib.hid hd
    have s1 := hb1.size
    have hl9 : g.length ≤ 9223372036854775807 := by omega
    have hd9 : d.length ≤ 9223372036854775807 := by omega
    obtain ⟨L, hL⟩ : ∃ L, L = Bs.ordL g d := ⟨_, rfl⟩
    have c2 := ReadyOrder_any A1 c1 g A0 c0 d w.heap.size w1.heap.size w.heap.size w1.heap.size w1 HG.out (Nat.le_refl _) HD.out (Nat.le_refl _) hl9 hd9
    have hlen : L.length ≤ 1000 := by rw [hL]; exact ordL_k g d
    rw [← hL] at c2
    have C2 := Lib.hid c2
    have CS := Lib.hid (fun w2 hg hd hs => ReadyOrderS_any A1 c1 g A0 c0 d w.heap.size w1.heap.size w.heap.size w1.heap.size w2 hg hs hd hs hl9 hd9)
    rw [← hL] at CS
    have HL := Lib.hid hL
    have HB1 := Lib.hid hb1
    clear C1 hg hd hL c2 hb1
    go_wp2_with fail
    refine (C2.out).mono ?_
    rintro e w2 hr2
    obtain ⟨A2, c2, rfl, q2, hb2, hlc2, hcm2⟩ := hr2.ri
    have s2 := hb2.size
    have HQ2 := Lib.hid q2
    have HG2 := Lib.hid (HG.out.below hb2 (Nat.le_refl _))
    have HD2 := Lib.hid (HD.out.below hb2 (Nat.le_refl _))
    have HB2 := Lib.hid (HB1.out.trans (hb2.mono s1))
    have C3 := Lib.hid (CS.out w2 HG2.out HD2.out s2)
    clear hr2 q2 hb2 C2 HG HD HB1
    go_wp2_with fail
    refine (C3.out).mono ?_
    rintro e w3 hr3
    obtain ⟨A3, c3, rfl, q3, hb3, hlc3, hcm3⟩ := hr3.ri
    have s3 := hb3.size
    have C4 := Lib.hid (equalInts_same A2 c2 A3 c3 L _ _ _ _ w3 (HQ2.out.below hb3 (Nat.le_refl _)) q3 (by omega))
    have HG3 := Lib.hid (HG2.out.below hb3 s2)
    have HD3 := Lib.hid (HD2.out.below hb3 s2)
    have HQ3 := Lib.hid (HQ2.out.below hb3 (Nat.le_refl _))
    have HB3 := Lib.hid (HB2.out.trans (hb3.mono (Nat.le_trans s1 s2)))
    clear hr3 q3 hb3 C3 HQ2 HB2 HG2 HD2
    go_wp2_with fail
    refine (C4.out).mono ?_
    rintro e w4 ⟨rfl, n, rfl⟩
    clear C4
    obtain ⟨W3, rfl⟩ : ∃ W3, W3 = w3 := ⟨_, rfl⟩
    by_cases h0 : L.length = 0
    · have hq : ((L.length : Int) == 0) = true := by simp [h0]
      clear h0 HL
      have hs3' : w2.heap.size ≤ (W3.drewN n).heap.size := s3
      have hsA : w1.heap.size ≤ (W3.drewN n).heap.size := Nat.le_trans s2 s3
      go_wp2_with fail
      refine (CS.out (W3.drewN n) (HG3.out.drewN n) (HD3.out.drewN n) hsA).mono ?_
      rintro e wA hrA
      obtain ⟨AA, cA, rfl, qA, hbA, _, _⟩ := hrA.ri
      have sA := hbA.size
      have CB := Lib.hid (equalInts_same A2 c2 AA cA L _ _ _ _ wA ((HQ3.out.drewN n).below hbA (by first | exact hsA | omega)) qA (by omega))
      have HBA := Lib.hid ((HB3.out.drewN n).trans (hbA.mono (Nat.le_trans s1 hsA)))
      clear hrA qA hbA
      go_wp2_with fail
      refine (CB.out).mono ?_
      rintro e wB ⟨rfl, nB, rfl⟩
      go_wp2
      go_ret
      exact ⟨rfl, HBA.out.drewN _⟩
    · have hq : ((L.length : Int) == 0) = false := by rw [beq_eq_false_iff_ne]; omega
      have hok : Bs.vdone g d = true := by
        cases h : Bs.vdone g d
        · have := HL.out
          rw [Bs.ordL_no h] at this
          rw [this] at h0
          exact absurd rfl h0
        · rfl
      have hn0 : 0 < L.length := by omega
      obtain ⟨hb0, hb1, hlv⟩ := Bs.order_left HL.out hok hn0
      have hvg := Bs.vdone_valid hok
      have hS : (if Bs.valid g then Bs.tailsC g else []) = Bs.tailsC g := if_pos hvg
      have hTl := Bs.tailsC_length hvg
      have c6 := fun W hg hs => TailTimes_any A1 c1 g w.heap.size w1.heap.size W hg hs hl9
      rw [hS] at c6
      have c7 := fun W (hg : RG W w.heap.size w1.heap.size A1 g) (hd : RI W w.heap.size w1.heap.size A0 d) (hs : w1.heap.size ≤ W.heap.size) => TimeLeft_any A1 c1 g A0 c0 d w.heap.size w1.heap.size w.heap.size w1.heap.size W hg hs hd hs hl9 hd9
      rw [hlv] at c7
      obtain ⟨b, o, rfl, _, _, hc0⟩ := (HQ3.out.drewN n).at_ (k := 0) (by omega)
      obtain ⟨x, hx⟩ : ∃ x : Nat, L[0] = (x : Int) := ⟨L[0].toNat, by omega⟩
      rw [hx] at hc0 hb0 hb1 c7
      rw [Int.toNat_natCast] at c7
      have hxt : x < (Bs.tailsC g).length := by rw [hTl]; omega
      have HX := Lib.hid hx
      have C6 := Lib.hid (c6 (W3.drewN n) (HG3.out.drewN n) (Nat.le_trans s2 s3))
      have C7 := Lib.hid c7
      have hTe : ∀ i (hi : i < (Bs.tailsC g).length), Bs.gi (Bs.tailsC g) i = (Bs.tailsC g)[i] := fun i hi => gi_at hi
      have HTE := Lib.hid (hTe x hxt)
      clear c6 c7 HL CS hok hb0 hvg hS hlv hTe hx h0
      generalize Bs.tailsC g = T at *
      go_wp2_with fail
      refine (C6.out).mono ?_
      rintro e w5 hr5
      obtain ⟨A5, c5, rfl, q5, hb5, hlc5, hcm5⟩ := hr5.ri
      have s5 := hb5.size
      have hs3 : w1.heap.size ≤ (W3.drewN n).heap.size := Nat.le_trans s2 s3
      have HG5 := Lib.hid ((HG3.out.drewN n).below hb5 hs3)
      have HD5 := Lib.hid ((HD3.out.drewN n).below hb5 hs3)
      have HQ5 := Lib.hid ((HQ3.out.drewN n).below hb5 s3)
      have HB5 := Lib.hid (((HB3.out.drewN n).trans (hb5.mono (Nat.le_trans (Nat.le_trans s1 s2) s3))))
      have HT5 := Lib.hid q5
      have hs5 : w1.heap.size ≤ w5.heap.size := Nat.le_trans hs3 s5
      have hs25 : w2.heap.size ≤ w5.heap.size := Nat.le_trans s3 s5
      have hb00 := hb5
      clear hr5 q5 C6 HG3 HQ3 HB3 HD3 hb5
      obtain ⟨b2, o2, rfl, hb2l, hb2h, hc2⟩ := HT5.out.at_ hxt
      rw [← HTE.out] at hc2
      have hcq : w5.cell? ⟨b, o, none⟩ = some (.int .i64 (x : Int)) := by
        have := hb00.cell (p := ⟨b, o + 0, none⟩) (by obtain ⟨b', o', e, _, h2, _⟩ := HQ5.out.at_ hn0; cases e; show b < _; exact Nat.lt_of_lt_of_le h2 s3)
        exact this.trans hc0
      have hcT : w5.cell? ⟨b2, o2 + x, none⟩ = some (.int .i64 (Bs.gi T x)) := hc2
      have K7 := Lib.hid (fun W (hb : Below w5.heap.size w5 W) => C7.out W (HG5.out.below hb hs5) (HD5.out.below hb hs5) (Nat.le_trans hs5 hb.size))
      have HCQ := Lib.hid (fun W (hb : Below w5.heap.size w5 W) => show W.cell? ⟨b, o, none⟩ = some (.int .i64 (x : Int)) from (hb.cell (p := ⟨b, o, none⟩) (by obtain ⟨b', o', e, _, h2, _⟩ := HQ5.out.at_ hn0; cases e; show b < _; exact Nat.lt_of_lt_of_le h2 hs25)).trans hcq)
      have HCT := Lib.hid (fun W (hb : Below w5.heap.size w5 W) => show W.cell? ⟨b2, o2 + x, none⟩ = some (.int .i64 (Bs.gi T x)) from (hb.cell (p := ⟨b2, o2 + x, none⟩) (by show b2 < _; exact hb2h)).trans hcT)
      have i0 : (0 : Int) < (L.length : Int) := by omega
      have i1 : (x : Int) < (T.length : Int) := by omega
      have i2 : (0 : Int) ≤ (x : Int) := by omega
      have i3 : decide ((x : Int) < (T.length : Int)) = true := by simp; omega
      clear hb00 hc2 hc0 C7 HTE
      generalize Bs.gi T x = y at *
      have hyy : (y == y) = true := by simp
      have HW := Lib.hid (show Below w5.heap.size w5 w5.drew from (Below.refl w5.heap.size w5).drewN 1)
      go_wp2_with fail
      go_region_law (first
        | (go_simp; (go_at_call 21; (with_reducible refine (K7.out _ HW.out).mono ?_); rintro e w6 ⟨rfl, hb6⟩; have hbx := HW.out.trans (hb6.mono (Nat.le_refl _)); have hcq6 := HCQ.out w6 hbx; have hct6 := HCT.out w6 hbx; have HB6 := Lib.hid (HB5.out.trans (hbx.mono HB5.out.size)); clear hb6 hbx)))
      all_goals go_wp2
      all_goals go_ret
      all_goals exact ⟨rfl, by first | exact HB6.out | exact HB6.out.drewN _⟩
end Go.Proofs.Ytmdmemompjpmkaa
