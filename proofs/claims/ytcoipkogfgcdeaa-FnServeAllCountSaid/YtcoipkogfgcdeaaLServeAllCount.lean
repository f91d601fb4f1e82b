/-
  THE WALK OF laws.FnServeAllCount.
-/
import Derived.Test.YtcoipkogfgcdeaaX14
import Derived.Test.YtcoipkogfgcdeaaMath84
import Derived.Test.YtcoipkogfgcdeaaR62
namespace Go.Proofs.Ytcoipkogfgcdeaa
open Go.RowKit
set_option maxRecDepth 20000 in
set_option maxHeartbeats 6400000 in
theorem fnServeAllCount_walk (A : Option Addr) (c : Nat) (l : List Int) (w : World) (hb : RB w 0 w.heap.size A l) (hlc : l.length ≤ c ∧ c ≤ maxLen) :
    Calls Try.prog 12 #[.slice A l.length c] w fun e w' => e = .returned (.bool true) ∧ Below w.heap.size w w' := by
  have hl63 : l.length ≤ 9223372036854775807 := by have := hlc.2; unfold maxLen at this; omega
  by_cases hbig : 1048576 < l.length
  · go_enter Try.func12, Try.ntmps12
    go_wp2
    go_ret
    exact ⟨rfl, Below.refl _ _⟩
  · have C1 := Lib.hid (DrawServeAll_any A c l w hb hlc.1 hlc.2)
    clear hb
    go_enter Try.func12, Try.ntmps12
    go_wp2_with fail
    refine (C1.out).mono ?_
    rintro e w1 ⟨⟨A1, c1, g, a, rfl, hg, hg6, hgc, hcm⟩, hb1⟩
    have HG := Lib.hid hg
    have s1 := hb1.size
    have hl9 : g.length ≤ 9223372036854775807 := by omega
    obtain ⟨L, hL⟩ : ∃ L, L = Bs.seqL g a := ⟨_, rfl⟩
    have c2 := ServeAll_any A1 c1 g a w.heap.size w1.heap.size w1 HG.out (Nat.le_refl _) hl9
    have hlen : L.length ≤ 1000 := by rw [hL]; exact ServeAll_len100 g a (by omega)
    rw [← hL] at c2
    have C2 := Lib.hid c2
    have CS := Lib.hid (fun w2 hg hs => ServeAllS_any A1 c1 g a w.heap.size w1.heap.size w2 hg hs hl9)
    rw [← hL] at CS
    have HL := Lib.hid hL
    have HB1 := Lib.hid hb1
    clear C1 hg hL c2 hb1
    go_wp2_with fail
    refine (C2.out).mono ?_
    rintro e w2 hr2
    obtain ⟨A2, c2, rfl, q2, hb2, hlc2, hcm2⟩ := hr2.ri
    have s2 := hb2.size
    have HQ2 := Lib.hid q2
    have HG2 := Lib.hid (HG.out.below hb2 (Nat.le_refl _))
    have HB2 := Lib.hid (HB1.out.trans (hb2.mono s1))
    have C3 := Lib.hid (CS.out w2 HG2.out s2)
    clear hr2 q2 hb2 C2 HG HB1
    go_wp2_with fail
    refine (C3.out).mono ?_
    rintro e w3 hr3
    obtain ⟨A3, c3, rfl, q3, hb3, hlc3, hcm3⟩ := hr3.ri
    have s3 := hb3.size
    have C4 := Lib.hid (equalInts_same A2 c2 A3 c3 L _ _ _ _ w3 (HQ2.out.below hb3 (Nat.le_refl _)) q3 (by omega))
    have HG3 := Lib.hid (HG2.out.below hb3 s2)
    have HQ3 := Lib.hid (HQ2.out.below hb3 (Nat.le_refl _))
    have HB3 := Lib.hid (HB2.out.trans (hb3.mono (Nat.le_trans s1 s2)))
    clear hr3 q3 hb3 C3 HQ2 HB2 HG2
    go_wp2_with fail
    refine (C4.out).mono ?_
    rintro e w4 ⟨rfl, n, rfl⟩
    clear C4
    obtain ⟨W3, rfl⟩ : ∃ W3, W3 = w3 := ⟨_, rfl⟩
    have hs3 : w1.heap.size ≤ (W3.drewN n).heap.size := Nat.le_trans s2 s3
    have hs23 : w2.heap.size ≤ (W3.drewN n).heap.size := s3
    have cv := ValidUsers_any A1 c1 g w.heap.size w1.heap.size (W3.drewN n) (HG3.out.drewN n) hs3 hl9
    obtain ⟨V, hV⟩ : ∃ V, V = Bs.usersOk g := ⟨_, rfl⟩
    rw [← hV] at cv
    have CV := Lib.hid cv
    have HG4 := Lib.hid (fun W (hb : Below (W3.drewN n).heap.size (W3.drewN n) W) => (HG3.out.drewN n).below hb hs3)
    have HQ4 := Lib.hid (fun W (hb : Below (W3.drewN n).heap.size (W3.drewN n) W) => (HQ3.out.drewN n).below hb hs23)
    have HB4 := Lib.hid (HB3.out.drewN n)
    have s34 : w.heap.size ≤ (W3.drewN n).heap.size := Nat.le_trans s1 hs3
    by_cases hgood : V = true ∧ 1 ≤ a ∧ a ≤ 20
    · obtain ⟨rfl, ha⟩ := hgood
      have hu := hV.symm
      have hok : Bs.srvOk g a = true := Bs.srvOk_iff.2 ⟨hu, ha⟩
      have h5 := (Bs.usersOk_iff.1 hu).1.2
      have z1 := serv_len hok
      rw [← HL.out] at z1
      have HZ1 := Lib.hid z1
      have HWT := Lib.hid (waits_tk hu)
      have HWS := Lib.hid (fun k (hk : k < g.length) => waits_succ hk)
      have HWF := Lib.hid (show (g.map (·.waits)).take g.length = g.map (·.waits) from List.take_of_length_le (by simp))
      have HWZ := Lib.hid (show Bs.sumZ ((g.map (·.waits)).take 0) = 0 from rfl)
      have d1 : decide (a < 1) = false := by simp; omega
      have d2 : decide (20 < a) = false := by simp; omega
      have d3 : ¬ a < 1 := by omega
      have d4 : ¬ 20 < a := by omega
      clear cv hV hu hok z1 HL CS HG3 HQ3 HB3
      generalize W3.drewN n = W4 at *
      go_wp2_with fail
      with_reducible refine (CV.out).mono ?_
      rintro e w5 ⟨rfl, hb5⟩
      have HG5 := Lib.hid (HG4.out w5 hb5)
      have HB5 := Lib.hid (HB4.out.trans (hb5.mono s34))
      clear hb5 CV HG4 HQ4 HB4
      go_wp2
      go_loop [6, 7] (fun v i => ∃ (k : Nat) (t : Int), k ≤ g.length ∧ i = .int .i64 k ∧ v = .int .i64 t ∧ t = Bs.sumZ ((g.map (·.waits)).take k)) (fun _ i => g.length - (intOf i).toNat)
      case atStart => exact ⟨0, 0, Nat.zero_le _, rfl, rfl, HWZ.out.symm⟩
      case round =>
        obtain ⟨k, t, hk, rfl, rfl, ht⟩ := hrel
        by_cases hlt : k < g.length
        · obtain ⟨b, o, rfl, _, _, q0, q1, q2⟩ := HG5.out.at_ hlt
          have h1 := HWT.out k hk
          have h2 := HWS.out k hlt
          have h3 := HWT.out (k + 1) (by omega)
          rw [h2] at h3
          rw [← ht] at h1 h2 h3
          have HS := Lib.hid h2
          clear ht h2 HWT HWS HWF HWZ HZ1 q0 q1
          generalize (Bs.gu g k).waits = wk at *
          have hw : IntKind.i64.wrap (t + wk) = t + wk := IntWalk.i64_in _ ⟨by omega, by omega⟩
          go_wp2
          go_round
          case rel => exact ⟨k + 1, t + wk, by omega, by go_num, by first | rfl | rw [hw], HS.out.symm⟩
          case measure => simp [intOf]; omega
        · obtain rfl : k = g.length := by omega
          have e1 : ((L.length : Int) == t) = true := by rw [beq_iff_eq, ht, HWF.out]; exact HZ1.out
          clear ht HWT HWS HWF HWZ HZ1
          go_wp2
          go_ret
          exact ⟨by first | rfl | simp [e1], HB5.out⟩
    · cases V
      · clear hgood cv hV HL HG3 HQ3 HB3
        generalize W3.drewN n = W4 at *
        go_wp2_with fail
        with_reducible refine (CV.out).mono ?_
        rintro e w5 ⟨rfl, hb5⟩
        have s5 := hb5.size
        have C8 := Lib.hid (CS.out w5 (HG4.out w5 hb5) (Nat.le_trans hs3 s5))
        have HQ5 := Lib.hid (HQ4.out w5 hb5)
        have HB5 := Lib.hid (HB4.out.trans (hb5.mono s34))
        clear hb5 CV HG4 HQ4 HB4 CS
        go_wp2_with fail
        refine (C8.out).mono ?_
        rintro e wA hrA
        obtain ⟨AA, cA, rfl, qA, hbA, _, _⟩ := hrA.ri
        have CB := Lib.hid (equalInts_same A2 c2 AA cA L _ _ _ _ wA (HQ5.out.below hbA (Nat.le_trans hs23 s5)) qA (by omega))
        have HBA := Lib.hid (HB5.out.trans (hbA.mono HB5.out.size))
        clear hrA qA hbA C8
        go_wp2_with fail
        refine (CB.out).mono ?_
        rintro e wB ⟨rfl, nB, rfl⟩
        go_wp2
        go_ret
        exact ⟨rfl, HBA.out.drewN _⟩
      · have hbad : a < 1 ∨ 20 < a := by have : ¬ (1 ≤ a ∧ a ≤ 20) := fun h => hgood ⟨rfl, h⟩; omega
        clear hgood cv hV HL HG3 HQ3 HB3
        generalize W3.drewN n = W4 at *
        go_wp2_with fail
        with_reducible refine (CV.out).mono ?_
        rintro e w5 ⟨rfl, hb5⟩
        have s5 := hb5.size
        have C8 := Lib.hid (CS.out w5 (HG4.out w5 hb5) (Nat.le_trans hs3 s5))
        have HQ5 := Lib.hid (HQ4.out w5 hb5)
        have HB5 := Lib.hid (HB4.out.trans (hb5.mono s34))
        clear hb5 CV HG4 HQ4 HB4 CS
        by_cases hb1 : a < 1
        · have d1 : decide (a < 1) = true := by simp [hb1]
          go_wp2_with fail
          refine (C8.out).mono ?_
          rintro e wA hrA
          obtain ⟨AA, cA, rfl, qA, hbA, _, _⟩ := hrA.ri
          have CB := Lib.hid (equalInts_same A2 c2 AA cA L _ _ _ _ wA (HQ5.out.below hbA (Nat.le_trans hs23 s5)) qA (by omega))
          have HBA := Lib.hid (HB5.out.trans (hbA.mono HB5.out.size))
          clear hrA qA hbA C8
          go_wp2_with fail
          refine (CB.out).mono ?_
          rintro e wB ⟨rfl, nB, rfl⟩
          go_wp2
          go_ret
          exact ⟨rfl, HBA.out.drewN _⟩
        · have hb2 : 20 < a := by omega
          have d1 : decide (a < 1) = false := by simp; omega
          have d2 : decide (20 < a) = true := by simp [hb2]
          go_wp2_with fail
          refine (C8.out).mono ?_
          rintro e wA hrA
          obtain ⟨AA, cA, rfl, qA, hbA, _, _⟩ := hrA.ri
          have CB := Lib.hid (equalInts_same A2 c2 AA cA L _ _ _ _ wA (HQ5.out.below hbA (Nat.le_trans hs23 s5)) qA (by omega))
          have HBA := Lib.hid (HB5.out.trans (hbA.mono HB5.out.size))
          clear hrA qA hbA C8
          go_wp2_with fail
          refine (CB.out).mono ?_
          rintro e wB ⟨rfl, nB, rfl⟩
          go_wp2
          go_ret
          exact ⟨rfl, HBA.out.drewN _⟩
end Go.Proofs.Ytcoipkogfgcdeaa
