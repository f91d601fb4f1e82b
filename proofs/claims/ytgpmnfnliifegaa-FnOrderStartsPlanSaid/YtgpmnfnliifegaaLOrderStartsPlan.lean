/-
  THE WALK OF laws.FnOrderStartsPlan.
-/
import Derived.Test.YtgpmnfnliifegaaK26
import Derived.Test.YtgpmnfnliifegaaK18
import Derived.Test.YtgpmnfnliifegaaK19
import Derived.Test.YtgpmnfnliifegaaK20
import Derived.Test.YtgpmnfnliifegaaMath115
import Derived.Test.YtgpmnfnliifegaaW86
import Derived.Test.YtgpmnfnliifegaaL1
import Derived.Test.YtgpmnfnliifegaaL5
namespace Go.Proofs.Ytgpmnfnliifegaa
open Go.RowKit
set_option maxRecDepth 20000 in
set_option maxHeartbeats 6400000 in
theorem fnOrderStartsPlan_walk (A : Option Addr) (c : Nat) (l : List Int) (w : World) (hb : RB w 0 w.heap.size A l) (hlc : l.length ≤ c ∧ c ≤ maxLen) :
    Calls Try.prog 11 #[.slice A l.length c] w fun e w' => e = .returned (.bool true) ∧ Below w.heap.size w w' := by
  have hl63 : l.length ≤ 9223372036854775807 := by have := hlc.2; unfold maxLen at this; omega
  by_cases hbig : 1048576 < l.length
  · go_enter Try.func11, Try.ntmps11
    go_wp2
    go_ret
    exact ⟨rfl, Below.refl _ _⟩
  · have C1 := Lib.hid (DrawOrderStarts_any A c l w hb hlc.1 hlc.2)
    clear hb
    go_enter Try.func11, Try.ntmps11
    go_wp2_with fail
    refine (C1.out).mono ?_
    rintro e w1 ⟨⟨A1, c1, g, Am, cm, m, wk, Al, cl, q, rfl, hg, hg16, hgc, hcm, hm, hm100, hmc, hmm, hq, hq100, hqc, hqm⟩, hb1⟩
    have HG := Lib.hid hg
    have HM := Lib.hid hm
    have HLI := Lib.hid hq
    have s1 := hb1.size
    have hl9 : g.length ≤ 9223372036854775807 := by omega
    have hm9 : m.length ≤ 9223372036854775807 := by omega
    have hq9 : q.length ≤ 9223372036854775807 := by omega
    obtain ⟨L, hL⟩ : ∃ L, L = Bs.osL g m wk q := ⟨_, rfl⟩
    have c2 := OrderStarts_any A1 c1 g Am cm m Al cl q wk w.heap.size w1.heap.size w.heap.size w1.heap.size w.heap.size w1.heap.size w1 HG.out (Nat.le_refl _) HM.out (Nat.le_refl _) HLI.out (Nat.le_refl _) hl9 hm9 hq9
    have hlen : L.length ≤ 5 := by rw [hL]; exact Bs.osL_len g m wk q
    rw [← hL] at c2
    have C2 := Lib.hid c2
    have CS := Lib.hid (fun w2 hg hm hq hs => OrderStartsS_any A1 c1 g Am cm m Al cl q wk w.heap.size w1.heap.size w.heap.size w1.heap.size w.heap.size w1.heap.size w2 hg hs hm hs hq hs hl9 hm9 hqc hq9)
    rw [← hL] at CS
    have HL := Lib.hid hL
    have HB1 := Lib.hid hb1
    clear C1 hg hm hq hL c2 hb1
    go_wp2_with fail
    with_reducible refine (C2.out).mono ?_
    rintro e w2 hr2
    obtain ⟨A2, c2, rfl, q2, hb2, hlc2, hcm2⟩ := hr2.ri
    have s2 := hb2.size
    have HQ2 := Lib.hid q2
    have HG2 := Lib.hid (HG.out.below hb2 (Nat.le_refl _))
    have HM2 := Lib.hid (HM.out.below hb2 (Nat.le_refl _))
    have HI2 := Lib.hid (HLI.out.below hb2 (Nat.le_refl _))
    have HB2 := Lib.hid (HB1.out.trans (hb2.mono s1))
    have C3 := Lib.hid (CS.out w2 HG2.out HM2.out HI2.out s2)
    clear hr2 q2 hb2 C2 HG HM HLI HB1
    go_wp2_with fail
    with_reducible refine (C3.out).mono ?_
    rintro e w3 hr3
    obtain ⟨A3, c3, rfl, q3, hb3, hlc3, hcm3⟩ := hr3.ri
    have s3 := hb3.size
    have C4 := Lib.hid (equalInts_same A2 c2 A3 c3 L _ _ _ _ w3 (HQ2.out.below hb3 (Nat.le_refl _)) q3 (by omega))
    have HG3 := Lib.hid (HG2.out.below hb3 s2)
    have HM3 := Lib.hid (HM2.out.below hb3 s2)
    have HI3 := Lib.hid (HI2.out.below hb3 s2)
    have HQ3 := Lib.hid (HQ2.out.below hb3 (Nat.le_refl _))
    have HB3 := Lib.hid (HB2.out.trans (hb3.mono (Nat.le_trans s1 s2)))
    clear hr3 q3 hb3 C3 HQ2 HB2 HG2 HM2 HI2
    go_wp2_with fail
    with_reducible refine (C4.out).mono ?_
    rintro e w4 ⟨rfl, n, rfl⟩
    clear C4
    obtain ⟨W3, rfl⟩ : ∃ W3, W3 = w3 := ⟨_, rfl⟩
    have hs3 : w1.heap.size ≤ (W3.drewN n).heap.size := Nat.le_trans s2 s3
    have hs32 : w2.heap.size ≤ (W3.drewN n).heap.size := s3
    by_cases h0 : L.length = 0
    · have hq0 : ((L.length : Int) == 0) = true := by simp [h0]
      clear h0 HL
      have hsA : w1.heap.size ≤ (W3.drewN n).heap.size := hs3
      have hsB : w2.heap.size ≤ (W3.drewN n).heap.size := by first | exact s3 | exact hs25 | omega
      go_wp2_with fail
      with_reducible refine (CS.out (W3.drewN n) (HG3.out.drewN n) (HM3.out.drewN n) (HI3.out.drewN n) hsA).mono ?_
      rintro e wA hrA
      obtain ⟨AA, cA, rfl, qA, hbA, _, _⟩ := hrA.ri
      have sA := hbA.size
      have CB := Lib.hid (equalInts_same A2 c2 AA cA L _ _ _ _ wA ((HQ3.out.drewN n).below hbA (by first | exact hsA | exact hsB | omega)) qA (by omega))
      have HBA := Lib.hid ((HB3.out.drewN n).trans (hbA.mono (Nat.le_trans s1 hsA)))
      clear hrA qA hbA
      go_wp2_with fail
      with_reducible refine (CB.out).mono ?_
      rintro e wB ⟨rfl, nB, rfl⟩
      go_wp2
      go_ret
      exact ⟨rfl, HBA.out.drewN _⟩
    · have hq0 : ((L.length : Int) == 0) = false := by rw [beq_eq_false_iff_ne]; omega
      obtain ⟨P, hP, hpl, hpb, hml, hle⟩ := Bs.plan_order HL.out h0
      have hg5 : g.length ≤ 8 := by have := Bs.planL_len g m wk; rw [← hP] at this; omega
      have HPB := Lib.hid hpb
      have HLE := Lib.hid hle
      have HOK := Lib.hid (fun t => Bs.ordT_len (S := P) (fun i => (hpb i).1) t)
      have HOK2 := Lib.hid (fun t k hk => Bs.byT_len (S := P) (fun i => (hpb i).1) t k hk)
      have c5 := PlanStarts_any A1 c1 g Am cm m wk w.heap.size w1.heap.size w.heap.size w1.heap.size (W3.drewN n) (HG3.out.drewN n) hs3 (HM3.out.drewN n) hs3 hl9 hm9
      rw [← hP] at c5
      have C5 := Lib.hid c5
      have HX4 := Lib.hid (show Below (W3.drewN n).heap.size (W3.drewN n) (W3.drewN n) from Below.refl _ _)
      have CO := Lib.hid (fun A2 c2 q l2 h2 W (hb : Below w1.heap.size (W3.drewN n) W) (hq : RI W l2 h2 A2 q) (hh2 : h2 ≤ W.heap.size) (hq9 : q.length ≤ 9223372036854775807) => OrderStarts_any A1 c1 g Am cm m A2 c2 q wk w.heap.size w1.heap.size w.heap.size w1.heap.size l2 h2 W ((HG3.out.drewN n).below hb (Nat.le_refl _)) (Nat.le_trans hs3 hb.size) ((HM3.out.drewN n).below hb (Nat.le_refl _)) (Nat.le_trans hs3 hb.size) hq hh2 hl9 hm9 hq9)
      have HB4 := Lib.hid (HB3.out.drewN n)
      have hws : w.heap.size ≤ (W3.drewN n).heap.size := Nat.le_trans s1 hs3
      obtain ⟨M, hM⟩ : ∃ M, M = Bs.osL g m wk (Bs.ordT P 201) := ⟨_, rfl⟩
      rw [← hM] at hml
      have HM' := Lib.hid hM
      have HLE2 := Lib.hid (fun i (hi : i < g.length) => show Bs.giZ M i ≤ Bs.giZ P i from by rw [hM]; exact hle i hi)
      have p1 := Nat.le_of_eq hpl
      have p2 := Nat.le_of_eq hpl.symm
      have hP8 : P.length ≤ 8 := by omega
      have m1 := Nat.le_of_eq hml
      have m2 := Nat.le_of_eq hml.symm
      clear hP hpl hpb hml hle HL CS h0 c5 HG3 HM3 HI3 HQ3 HB3 hM HLE
      generalize W3.drewN n = w4 at *
      go_wp2_with fail
      with_reducible refine (C5.out).mono ?_
      rintro e w5 ⟨⟨A5, c5, rfl, ho5⟩, hb5⟩
      have HB5 := Lib.hid (HB4.out.trans (hb5.mono hws))
      have HX5 := Lib.hid (hb5.mono hs3)
      have HP5 := Lib.hid ho5.ri
      have s45 := hb5.size
      have HZ := Lib.hid (OI.new w5 w5.heap.size (Nat.le_refl _))
      have HY := Lib.hid ((Below.refl w5.heap.size w5).alloc (Nat.le_refl _) (.cells #[] 3))
      clear ho5 hb5 C5 HB4 HX4
      have hw15 : w1.heap.size ≤ w5.heap.size := Nat.le_trans hs3 s45
      have hww5 : w.heap.size ≤ w5.heap.size := Nat.le_trans hws s45
      go_wp2
      go_loopw [9, 10, 11] (fun vo i _ wr => ∃ (t : Nat) (A' : Option Addr) (c' : Nat) (o : List Int), t ≤ 201 ∧ vo = .slice A' o.length c' ∧ i = .int .i64 t ∧ o = Bs.ordT P t ∧ OI wr w5.heap.size A' c' o ∧ Below w5.heap.size w5 wr) (fun _ i _ _ => 201 - (intOf i).toNat)
      case atStart => exact ⟨0, _, _, [], Nat.zero_le _, rfl, rfl, rfl, HZ.out, HY.out⟩
      case round =>
        clear HZ HY
        obtain ⟨t, A', c', o, ht, rfl, rfl, ho, hO, hy⟩ := hrel
        by_cases hlt : t ≤ 200
        · have d1 : decide ((t : Int) ≤ 200) = true := decide_eq_true (by omega)
          have HO := Lib.hid hO
          have HY := Lib.hid hy
          have HE0 := Lib.hid (show o = Bs.ordT P t ++ Bs.byT P t 0 from by rw [ho]; exact (List.append_nil _).symm)
          have hwt : IntKind.i64.wrap ((t : Int) + 1) = (t : Int) + 1 := IntWalk.i64_in _ ⟨by omega, by omega⟩
          clear ho hO hy
          go_wp2
          go_loopw [9, 11] (fun vo i wr => ∃ (k : Nat) (A' : Option Addr) (c' : Nat) (o : List Int), k ≤ P.length ∧ vo = .slice A' o.length c' ∧ i = .int .i64 k ∧ o = Bs.ordT P t ++ Bs.byT P t k ∧ OI wr w5.heap.size A' c' o ∧ Below w5.heap.size w5 wr) (fun _ i _ => P.length - (intOf i).toNat)
          case atStart => exact ⟨0, _, _, o, Nat.zero_le _, rfl, rfl, HE0.out, HO.out, HY.out⟩
          case round =>
            clear HO HY HE0
            obtain ⟨k, A2', c2', o2, hk, rfl, rfl, ho2, hO2, hy2⟩ := hrel
            by_cases hklt : k < P.length
            · obtain ⟨b5, o5, rfl, _, _, k5⟩ := (HP5.out.below hy2 (Nat.le_refl _)).at_ hklt
              rw [← Bs.giZ_at hklt] at k5
              have hbs := Bs.byT_succ P t k
              have hol := HOK2.out t k (by omega)
              rw [← ho2] at hol
              have HOL := Lib.hid hol
              have HO2 := Lib.hid hO2
              have HY2 := Lib.hid hy2
              have sy := hy2.size
              have i0 : (0 : Int) ≤ (k : Int) := by omega
              have i1 : (k : Int) < (P.length : Int) := by omega
              cases hcmp : (Bs.giZ P k == (t : Int))
              · rw [hcmp] at hbs
                simp only [Bool.false_eq_true, if_false] at hbs
                have HE := Lib.hid (show o2 = Bs.ordT P t ++ Bs.byT P t (k + 1) from by rw [hbs]; exact ho2)
                clear hbs hol ho2 hO2 hy2
                generalize Bs.giZ P k = pk at *
                go_wp2
                go_roundw
                case rel => exact ⟨k + 1, A2', c2', o2, by omega, rfl, by go_num, HE.out, HO2.out, HY2.out⟩
                case measure => simp [intOf]; omega
              · rw [hcmp] at hbs
                simp only [if_true] at hbs
                have HE := Lib.hid (show o2 ++ [(k : Int)] = Bs.ordT P t ++ Bs.byT P t (k + 1) from by rw [hbs, ho2, List.append_assoc])
                have HO3 := Lib.hid (HO2.out.alloc (.cells #[.int .i64 (k : Int)] 3))
                have HY3 := Lib.hid (HY2.out.alloc sy (.cells #[.int .i64 (k : Int)] 3))
                clear hbs hol ho2 hO2 hy2
                generalize Bs.giZ P k = pk at *
                go_wp2_with (first
                  | (at_builtin; refine push_int rfl _ _ rfl w5.heap.size A2' c2' o2 (k : Int) rfl HO3.out wr.heap.size 1 rfl (by simp [go_sem]) (by have := HOL.out; omega) (by simp; omega) ?_; intro A6 c6 w6 ho6 hb6 _; have HO6 := Lib.hid ho6; have HY6 := Lib.hid (HY3.out.trans hb6); clear ho6 hb6))
                go_roundw
                case rel => exact ⟨k + 1, A6, c6, o2 ++ [(k : Int)], by omega, by rw [List.length_append]; rfl, by go_num, HE.out, HO6.out, HY6.out⟩
                case measure => simp [intOf]; omega
            · obtain rfl : k = P.length := by omega
              have HE := Lib.hid (show o2 = Bs.ordT P (t + 1) from ho2)
              have HO2 := Lib.hid hO2
              have HY2 := Lib.hid hy2
              clear ho2 hO2 hy2
              go_wp2
              go_roundw
              case rel => exact ⟨t + 1, A2', c2', o2, by omega, rfl, by go_num, HE.out, HO2.out, HY2.out⟩
              case measure => simp [intOf]; omega
        · obtain rfl : t = 201 := by omega
          have d1 : decide ((201 : Int) ≤ 200) = false := by decide
          have hol := HOK.out 201
          rw [← ho] at hol
          have HXr := HX5.out.trans (hy.mono hw15)
          have c6 := CO.out A' c' o _ _ wr HXr hO.ri (Nat.le_refl _) (by omega)
          rw [ho, ← HM'.out, ← ho] at c6
          have C6 := Lib.hid c6
          have HBr := Lib.hid (HB5.out.trans (hy.mono hww5))
          have HPr := Lib.hid (HP5.out.below hy (Nat.le_refl _))
          have sy := hy.size
          clear ho hO hy hol HXr c6 CO HOK HOK2
          go_wp2_with fail
          with_reducible refine (C6.out).mono ?_
          rintro e w7 ⟨⟨A7, c7, rfl, ho7⟩, hb7⟩
          have HM7 := Lib.hid ho7.ri
          have HP7 := Lib.hid (HPr.out.below hb7 sy)
          have HB7 := Lib.hid (HBr.out.trans (hb7.mono HBr.out.size))
          clear ho7 hb7 C6
          go_wp2
          go_loopw [13] (fun i wr => ∃ k : Nat, k ≤ P.length ∧ i = .int .i64 k ∧ ∃ n, wr = w7.drewN n) (fun i _ => P.length - (intOf i).toNat)
          case atStart => exact ⟨0, Nat.zero_le _, rfl, 0, rfl⟩
          case round =>
            obtain ⟨k, hk, rfl, n7, rfl⟩ := hrel
            by_cases hklt : k < P.length
            · obtain ⟨b5, o5, rfl, _, _, k5⟩ := HP7.out.at_ hklt
              obtain ⟨b6, o6, rfl, _, _, k6⟩ := HM7.out.at_ (k := k) (by omega)
              have hle := HLE2.out k (by omega)
              rw [← Bs.giZ_at hklt] at k5
              rw [← Bs.giZ_at (by omega)] at k6
              have i0 : (0 : Int) ≤ (k : Int) := by omega
              have i1 : (k : Int) < (P.length : Int) := by omega
              have i2 : (k : Int) < (M.length : Int) := by omega
              have e1 : decide ((k : Int) ≥ (M.length : Int)) = false := decide_eq_false (by omega)
              have e1b : decide ((M.length : Int) ≤ (k : Int)) = false := decide_eq_false (by omega)
              have e1c : decide (M.length ≤ k) = false := decide_eq_false (by omega)
              generalize Bs.giZ M k = x at *
              generalize Bs.giZ P k = y at *
              have e2 : decide (x > y) = false := decide_eq_false (by omega)
              have e2b : decide (y < x) = false := decide_eq_false (by omega)
              clear hle p1 p2 m1 m2
              go_wp2
              go_quiet (fail)
              go_wp2
              go_roundw
              case rel => exact ⟨k + 1, by omega, by go_num, _, by first | rfl | rw [World.drewN_drewN]⟩
              case measure => simp [intOf]; omega
            · obtain rfl : k = P.length := by omega
              go_wp2
              go_ret
              exact ⟨rfl, HB7.out.drewN _⟩
end Go.Proofs.Ytgpmnfnliifegaa
