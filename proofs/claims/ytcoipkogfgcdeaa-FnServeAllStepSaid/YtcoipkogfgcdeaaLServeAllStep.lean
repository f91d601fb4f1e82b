/-
  THE WALK OF laws.FnServeAllStep.
-/
import Derived.Test.YtcoipkogfgcdeaaX14
import Derived.Test.YtcoipkogfgcdeaaMath85
import Derived.Test.YtcoipkogfgcdeaaR62
import Derived.Test.YtcoipkogfgcdeaaW106
namespace Go.Proofs.Ytcoipkogfgcdeaa
open Go.RowKit
set_option maxRecDepth 20000 in
set_option maxHeartbeats 6400000 in
theorem fnServeAllStep_walk (A : Option Addr) (c : Nat) (l : List Int) (w : World) (hb : RB w 0 w.heap.size A l) (hlc : l.length ≤ c ∧ c ≤ maxLen) :
    Calls Try.prog 10 #[.slice A l.length c] w fun e w' => e = .returned (.bool true) ∧ Below w.heap.size w w' := by
  have hl63 : l.length ≤ 9223372036854775807 := by have := hlc.2; unfold maxLen at this; omega
  by_cases hbig : 1048576 < l.length
  · go_enter Try.func10, Try.ntmps10
    go_wp2
    go_ret
    exact ⟨rfl, Below.refl _ _⟩
  · have C1 := Lib.hid (DrawServeAll_any A c l w hb hlc.1 hlc.2)
    clear hb
    go_enter Try.func10, Try.ntmps10
    go_wp2_with fail
    refine (C1.out).mono ?_
    rintro e w1 ⟨⟨A1, c1, g, a, rfl, hg, hg6, hgc, hcm⟩, hb1⟩
    have HG := Lib.hid hg
    have s1 := hb1.size
    have hl9 : g.length ≤ 9223372036854775807 := by omega
    obtain ⟨L, hL⟩ : ∃ L, L = Bs.seqL g a := ⟨_, rfl⟩
    have c2 := ServeAll_any A1 c1 g a w.heap.size w1.heap.size w1 HG.out (Nat.le_refl _) hl9
    have hlen : L.length ≤ 1000 := by rw [hL]; exact ServeAll_len100 g a (by omega)
    rw [← hL] at c2
    have C2 := Lib.hid c2
    have CS := Lib.hid (fun w2 hg hs => ServeAllS_any A1 c1 g a w.heap.size w1.heap.size w2 hg hs hl9)
    rw [← hL] at CS
    have HL := Lib.hid hL
    have HB1 := Lib.hid hb1
    clear C1 hg hL c2 hb1
    go_wp2_with fail
    refine (C2.out).mono ?_
    rintro e w2 hr2
    obtain ⟨A2, c2, rfl, q2, hb2, hlc2, hcm2⟩ := hr2.ri
    have s2 := hb2.size
    have HQ2 := Lib.hid q2
    have HG2 := Lib.hid (HG.out.below hb2 (Nat.le_refl _))
    have HB2 := Lib.hid (HB1.out.trans (hb2.mono s1))
    have C3 := Lib.hid (CS.out w2 HG2.out s2)
    clear hr2 q2 hb2 C2 HG HB1
    go_wp2_with fail
    refine (C3.out).mono ?_
    rintro e w3 hr3
    obtain ⟨A3, c3, rfl, q3, hb3, hlc3, hcm3⟩ := hr3.ri
    have s3 := hb3.size
    have C4 := Lib.hid (equalInts_same A2 c2 A3 c3 L _ _ _ _ w3 (HQ2.out.below hb3 (Nat.le_refl _)) q3 (by omega))
    have HG3 := Lib.hid (HG2.out.below hb3 s2)
    have HQ3 := Lib.hid (HQ2.out.below hb3 (Nat.le_refl _))
    have HB3 := Lib.hid (HB2.out.trans (hb3.mono (Nat.le_trans s1 s2)))
    clear hr3 q3 hb3 C3 HQ2 HB2 HG2
    go_wp2_with fail
    refine (C4.out).mono ?_
    rintro e w4 ⟨rfl, n, rfl⟩
    clear C4
    obtain ⟨W3, rfl⟩ : ∃ W3, W3 = w3 := ⟨_, rfl⟩
    have hs3 : w1.heap.size ≤ (W3.drewN n).heap.size := Nat.le_trans s2 s3
    have hs23 : w2.heap.size ≤ (W3.drewN n).heap.size := s3
    by_cases h0 : L.length = 0
    · have hq0 : ((L.length : Int) == 0) = true := by simp [h0]
      clear h0 HL
      have hsA : w1.heap.size ≤ (W3.drewN n).heap.size := hs3
      go_wp2_with fail
      refine (CS.out (W3.drewN n) (HG3.out.drewN n) hsA).mono ?_
      rintro e wA hrA
      obtain ⟨AA, cA, rfl, qA, hbA, _, _⟩ := hrA.ri
      have sA := hbA.size
      have CB := Lib.hid (equalInts_same A2 c2 AA cA L _ _ _ _ wA ((HQ3.out.drewN n).below hbA (by first | exact hsA | omega)) qA (by omega))
      have HBA := Lib.hid ((HB3.out.drewN n).trans (hbA.mono (Nat.le_trans s1 hsA)))
      clear hrA qA hbA
      go_wp2_with fail
      refine (CB.out).mono ?_
      rintro e wB ⟨rfl, nB, rfl⟩
      go_wp2
      go_ret
      exact ⟨rfl, HBA.out.drewN _⟩
    · have hq0 : ((L.length : Int) == 0) = false := by rw [beq_eq_false_iff_ne]; omega
      have hok := serv_can HL.out h0
      obtain ⟨z1, z2, z3⟩ := serv_step hok (by rw [← HL.out]; exact h0)
      rw [← HL.out] at z3
      have hl6 : (Bs.srvL g a).length = g.length := Bs.srvL_len g a
      have c5 := ServeUser_any A1 c1 g a w.heap.size w1.heap.size (W3.drewN n) (HG3.out.drewN n) hs3 hl9
      unfold RetUs at c5
      rw [z1, z2] at c5
      have c6 := fun A5 c5 W hr hh => ServeAll_any A5 c5 (Bs.srvL g a) a w2.heap.size W.heap.size W hr hh (by omega)
      rw [z3] at c6
      have hq4 := HQ3.out.drewN n
      have HB4 := Lib.hid (HB3.out.drewN n)
      have hs03 : w.heap.size ≤ (W3.drewN n).heap.size := Nat.le_trans s1 hs3
      obtain ⟨b, o, rfl, x1, x2, x3⟩ := hq4.at_ (show 0 < L.length by omega)
      clear x1 x2 x3
      have HT := Lib.hid (fun W (hb : Below (W3.drewN n).heap.size (W3.drewN n) W) => show RI W w1.heap.size w2.heap.size (if c2 = 1 then some ⟨b, o, none⟩ else some ⟨b, o + 1, none⟩) L.tail from by
        split
        · intro k hk
          rw [List.length_tail] at hk
          omega
        · exact (hq4.below hb hs23).tail)
      obtain ⟨T, hT⟩ : ∃ T, T = L.tail := ⟨_, rfl⟩
      have hTl : T.length = L.length - 1 := by rw [hT, List.length_tail]
      have HTL := Lib.hid hTl
      rw [← hT] at c6 HT
      have C5 := Lib.hid c5
      have C6 := Lib.hid c6
      have f1 : (1 : Int) ≤ (L.length : Int) := by omega
      have f2 : (L.length : Int) ≤ (c2 : Int) := by omega
      have f3 : 1 ≤ L.length := by omega
      have f4 : L.length ≤ c2 := by omega
      have hT30 : T.length ≤ 1000 := by omega
      clear HL CS h0 HQ3 HB3 HG3 c5 c6 hok z1 z2 z3 hq4 hT hTl hl6
      generalize W3.drewN n = W4 at *
      generalize Bs.srvL g a = SL at *
      generalize Bs.serA g a = SA at *
      go_wp2_with fail
      with_reducible refine (C5.out).mono ?_
      rintro e w5 ⟨⟨A5, c5, rfl, ho5⟩, hb5⟩
      have s5 := hb5.size
      have HR5 := Lib.hid ho5.ru
      have C7 := Lib.hid (fun W (hb : Below w5.heap.size w5 W) => C6.out A5 c5 W (((HR5.out.more hs23 (Nat.le_refl _)).below hb (Nat.le_refl _)).more (Nat.le_refl _) hb.size) (Nat.le_refl _))
      have HT5 := Lib.hid (fun W (hb : Below w5.heap.size w5 W) => HT.out W (hb5.trans (hb.mono s5)))
      have HB5 := Lib.hid (HB4.out.trans (hb5.mono hs03))
      have HBc := Lib.hid (show Below w5.heap.size w5 w5.drew from (Below.refl _ w5).drewN 1)
      have HTL2 := Lib.hid HTL.out.symm
      have s05 := HB5.out.size
      clear ho5 hb5 C5 C6 HT HB4
      go_wp2_with fail
      go_region_law (first
        | (go_simp; go_at_call 28; (with_reducible refine (C7.out _ HBc.out).mono ?_); rintro e w6 hr6; obtain ⟨A6, c6, rfl, q6, hb6, _, _⟩ := hr6.ri; have C8 := (fun c' => Lib.hid (show Calls Try.prog 29 #[.slice A6 T.length c6, .slice (if c2 = 1 then some ⟨b, o, none⟩ else some ⟨b, o + 1, none⟩) (L.length - 1) c'] w6 (fun e w' => e = .returned (.bool true) ∧ ∃ n, w' = w6.drewN n) from by rw [HTL2.out]; exact equalInts_same A6 c6 (if c2 = 1 then some ⟨b, o, none⟩ else some ⟨b, o + 1, none⟩) c' T _ _ _ _ w6 q6 (HT5.out w6 (HBc.out.trans (hb6.mono HBc.out.size))) (by omega))); have HB6 := Lib.hid (HB5.out.trans ((HBc.out.trans (hb6.mono HBc.out.size)).mono s05)); clear hr6 q6 hb6)
        | (go_simp; go_at_call 29; (with_reducible refine ((C8 _).out).mono ?_); rintro e w7 ⟨rfl, n7, rfl⟩))
      all_goals go_wp2
      all_goals go_ret
      all_goals exact ⟨rfl, HB6.out.drewN _⟩
end Go.Proofs.Ytcoipkogfgcdeaa
