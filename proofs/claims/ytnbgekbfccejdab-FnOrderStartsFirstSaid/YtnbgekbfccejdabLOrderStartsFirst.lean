/-
  THE WALK OF laws.FnOrderStartsFirst.
-/
import Derived.Test.YtnbgekbfccejdabX9
import Derived.Test.YtnbgekbfccejdabK18
import Derived.Test.YtnbgekbfccejdabK19
import Derived.Test.YtnbgekbfccejdabK20
import Derived.Test.YtnbgekbfccejdabK14
namespace Go.Proofs.Ytnbgekbfccejdab
open Go.RowKit
set_option maxRecDepth 20000 in
set_option maxHeartbeats 6400000 in
theorem fnOrderStartsFirst_walk (A : Option Addr) (c : Nat) (l : List Int) (w : World) (hb : RB w 0 w.heap.size A l) (hlc : l.length ≤ c ∧ c ≤ maxLen) :
    Calls Try.prog 4 #[.slice A l.length c] w fun e w' => e = .returned (.bool true) ∧ Below w.heap.size w w' := by
  have hl63 : l.length ≤ 9223372036854775807 := by have := hlc.2; unfold maxLen at this; omega
  by_cases hbig : 1048576 < l.length
  · go_enter Try.func4, Try.ntmps4
    go_wp2
    go_ret
    exact ⟨rfl, Below.refl _ _⟩
  · have C1 := Lib.hid (DrawOrderStarts_any A c l w hb hlc.1 hlc.2)
    clear hb
    go_enter Try.func4, Try.ntmps4
    go_wp2_with fail
    refine (C1.out).mono ?_
    rintro e w1 ⟨⟨A1, c1, g, Am, cm, m, wk, Al, cl, q, rfl, hg, hg16, hgc, hcm, hm, hm100, hmc, hmm, hq, hq100, hqc, hqm⟩, hb1⟩
    have HG := Lib.hid hg
    have HM := Lib.hid hm
    have HLI := Lib.hid hq
    have s1 := hb1.size
    have hl9 : g.length ≤ 9223372036854775807 := by omega
    have hm9 : m.length ≤ 9223372036854775807 := by omega
    have hq9 : q.length ≤ 9223372036854775807 := by omega
    obtain ⟨L, hL⟩ : ∃ L, L = Bs.osL g m wk q := ⟨_, rfl⟩
    have c2 := OrderStarts_any A1 c1 g Am cm m Al cl q wk w.heap.size w1.heap.size w.heap.size w1.heap.size w.heap.size w1.heap.size w1 HG.out (Nat.le_refl _) HM.out (Nat.le_refl _) HLI.out (Nat.le_refl _) hl9 hm9 hq9
    have hlen : L.length ≤ 5 := by rw [hL]; exact Bs.osL_len g m wk q
    rw [← hL] at c2
    have C2 := Lib.hid c2
    have CS := Lib.hid (fun w2 hg hm hq hs => OrderStartsS_any A1 c1 g Am cm m Al cl q wk w.heap.size w1.heap.size w.heap.size w1.heap.size w.heap.size w1.heap.size w2 hg hs hm hs hq hs hl9 hm9 hqc hq9)
    rw [← hL] at CS
    have HL := Lib.hid hL
    have HB1 := Lib.hid hb1
    clear C1 hg hm hq hL c2 hb1
    go_wp2_with fail
    with_reducible refine (C2.out).mono ?_
    rintro e w2 hr2
    obtain ⟨A2, c2, rfl, q2, hb2, hlc2, hcm2⟩ := hr2.ri
    have s2 := hb2.size
    have HQ2 := Lib.hid q2
    have HG2 := Lib.hid (HG.out.below hb2 (Nat.le_refl _))
    have HM2 := Lib.hid (HM.out.below hb2 (Nat.le_refl _))
    have HI2 := Lib.hid (HLI.out.below hb2 (Nat.le_refl _))
    have HB2 := Lib.hid (HB1.out.trans (hb2.mono s1))
    have C3 := Lib.hid (CS.out w2 HG2.out HM2.out HI2.out s2)
    clear hr2 q2 hb2 C2 HG HM HLI HB1
    go_wp2_with fail
    with_reducible refine (C3.out).mono ?_
    rintro e w3 hr3
    obtain ⟨A3, c3, rfl, q3, hb3, hlc3, hcm3⟩ := hr3.ri
    have s3 := hb3.size
    have C4 := Lib.hid (equalInts_same A2 c2 A3 c3 L _ _ _ _ w3 (HQ2.out.below hb3 (Nat.le_refl _)) q3 (by omega))
    have HG3 := Lib.hid (HG2.out.below hb3 s2)
    have HM3 := Lib.hid (HM2.out.below hb3 s2)
    have HI3 := Lib.hid (HI2.out.below hb3 s2)
    have HQ3 := Lib.hid (HQ2.out.below hb3 (Nat.le_refl _))
    have HB3 := Lib.hid (HB2.out.trans (hb3.mono (Nat.le_trans s1 s2)))
    clear hr3 q3 hb3 C3 HQ2 HB2 HG2 HM2 HI2
    go_wp2_with fail
    with_reducible refine (C4.out).mono ?_
    rintro e w4 ⟨rfl, n, rfl⟩
    clear C4
    obtain ⟨W3, rfl⟩ : ∃ W3, W3 = w3 := ⟨_, rfl⟩
    have hs3 : w1.heap.size ≤ (W3.drewN n).heap.size := Nat.le_trans s2 s3
    have hs32 : w2.heap.size ≤ (W3.drewN n).heap.size := s3
    by_cases h0 : L.length = 0
    · have hq0 : ((L.length : Int) == 0) = true := by simp [h0]
      clear h0 HL
      have hsA : w1.heap.size ≤ (W3.drewN n).heap.size := hs3
      have hsB : w2.heap.size ≤ (W3.drewN n).heap.size := by first | exact s3 | exact hs25 | omega
      go_wp2_with fail
      with_reducible refine (CS.out (W3.drewN n) (HG3.out.drewN n) (HM3.out.drewN n) (HI3.out.drewN n) hsA).mono ?_
      rintro e wA hrA
      obtain ⟨AA, cA, rfl, qA, hbA, _, _⟩ := hrA.ri
      have sA := hbA.size
      have CB := Lib.hid (equalInts_same A2 c2 AA cA L _ _ _ _ wA ((HQ3.out.drewN n).below hbA (by first | exact hsA | exact hsB | omega)) qA (by omega))
      have HBA := Lib.hid ((HB3.out.drewN n).trans (hbA.mono (Nat.le_trans s1 hsA)))
      clear hrA qA hbA
      go_wp2_with fail
      with_reducible refine (CB.out).mono ?_
      rintro e wB ⟨rfl, nB, rfl⟩
      go_wp2
      go_ret
      exact ⟨rfl, HBA.out.drewN _⟩
    · have hq0 : ((L.length : Int) == 0) = false := by rw [beq_eq_false_iff_ne]; omega
      obtain ⟨hsea, hord, hLe⟩ := Bs.osL_ok HL.out h0
      obtain ⟨hst, he0, he1, hLg⟩ := Bs.os_valid hsea hord hLe
      obtain ⟨hsome, hfirst⟩ := Bs.os_first hsea hord hLe
      have hF := valid_fine (Bs.canV_iff.1 (Bs.sea_can hsea).1).1
      have hclk := (Bs.stV_iff.1 hst).2.1
      have hql := (Bs.isOrd_at hord).1
      have hqat := (Bs.isOrd_at hord).2
      have hq1 : 0 < q.length := by omega
      have hx := (hqat 0 hq1).1
      have hf0 := hfirst hq1
      have HSB := Lib.hid (fun i => Bs.clk_at hclk i)
      have HTT := Lib.hid (fun i (hi : i < g.length) => Bs.fine_time' hF hi)
      have HSO := Lib.hid hsome
      have HLG := Lib.hid hLg
      obtain ⟨x, hxe⟩ : ∃ x, x = q[0] := ⟨_, rfl⟩
      rw [← hxe] at hx hf0
      obtain ⟨bq, oq, rfl, _, _, hc0⟩ := (HI3.out.drewN n) 0 hq1
      rw [← hxe, Nat.add_zero] at hc0
      obtain ⟨v, rfl⟩ : ∃ v : Nat, x = (v : Int) := ⟨x.toNat, by omega⟩
      rw [Int.toNat_natCast] at hf0
      have hvL : v < L.length := by omega
      have HC0 := Lib.hid hc0
      have HF0 := Lib.hid hf0
      have HQ1 := Lib.hid hq1
      have HG4 := Lib.hid (HG3.out.drewN n)
      have HQ4 := Lib.hid (HQ3.out.drewN n)
      have HB4 := Lib.hid (HB3.out.drewN n)
      clear hsea hord hLe hst he0 he1 hF hclk hql hqat hsome hfirst hx hf0 hc0 hxe HL CS h0 hLg hq1 HG3 HQ3 HB3 HM3 HI3
      obtain ⟨W, hW⟩ : ∃ W, W = W3.drewN n := ⟨_, rfl⟩
      rw [← hW] at HC0 HG4 HQ4 HB4 hs3 hs32 ⊢
      clear hW
      go_wp2
      go_loopw [8] (fun i wr => ∃ (a n : Nat), a ≤ L.length ∧ i = .int .i64 a ∧ wr = W.drewN n) (fun i _ => L.length - (intOf i).toNat)
      case atStart => exact ⟨0, 0, Nat.zero_le _, rfl, rfl⟩
      case round =>
        obtain ⟨a, n1, ha, rfl, rfl⟩ := hrel
        by_cases hal : a < L.length
        · obtain ⟨bS, oS, rfl, _, _, hca⟩ := HQ4.out.at_ hal
          rw [← Bs.giZ_at hal] at hca
          have HCA := Lib.hid hca
          have HZ := Lib.hid (Bs.someI_zero g L a)
          have HSU := Lib.hid (fun k => Bs.someI_succ g L a k)
          have HSA := Lib.hid (HSO.out a (by have := HLG.out; omega))
          have a0 : (0 : Int) ≤ (a : Int) := by omega
          have a1 : (a : Int) < (L.length : Int) := by omega
          go_wp2
          go_loopw [9, 10] (fun vo i wr => ∃ (k : Nat) (b : Bool) (n : Nat), k ≤ L.length ∧ vo = .bool b ∧ i = .int .i64 k ∧ b = Bs.someI g L a k ∧ wr = W.drewN n) (fun _ i _ => L.length - (intOf i).toNat)
          case atStart => exact ⟨0, _, n1, Nat.zero_le _, rfl, rfl, HZ.out.symm, rfl⟩
          case round =>
            obtain ⟨k, b, n2, hk, rfl, rfl, hbk, rfl⟩ := hrel
            by_cases hkl : k < L.length
            · have hkg : k < g.length := by have := HLG.out; omega
              obtain ⟨bS2, oS2, hA2, _, _, hc⟩ := HQ4.out.at_ hkl
              obtain ⟨rfl, rfl⟩ : bS2 = bS ∧ oS2 = oS := by injection hA2 with e; injection e with e1 e2 _; exact ⟨e1.symm, e2.symm⟩
              obtain ⟨bg, og, N, cN, rfl, _, _, t0, _, _, _, hnc, hcN, hN⟩ := HG4.out k hkg
              rw [← Bs.giZ_at hkl] at hc
              have hsb := HSB.out k
              have htt := HTT.out k hkg
              have hsu := HSU.out k
              rw [← hbk, time_at hkg] at hsu
              have HS4 := Lib.hid hsu
              have i0 : (0 : Int) ≤ (k : Int) := by omega
              have i1 : (k : Int) < (L.length : Int) := by omega
              have i2 : (k : Int) < (g.length : Int) := by omega
              clear hsu hbk hN hA2
              generalize g[k].time = tk at *
              generalize Bs.giZ L k = sk at *
              generalize Bs.giZ L a = sa at *
              have hw : IntKind.i64.wrap (sk + tk) = sk + tk := IntWalk.i64_in _ ⟨by omega, by omega⟩
              cases b
              · have HS5 := Lib.hid (show (sk + tk == sa) = Bs.someI g L a (k + 1) from by rw [HS4.out]; rfl)
                go_wp2
                go_quiet (fail)
                go_wp2
                go_roundw
                case rel => exact ⟨k + 1, _, _, by omega, rfl, by go_num, HS5.out, by first | rfl | rw [World.drewN_drewN]⟩
                case measure => simp [intOf]; omega
              · have HS5 := Lib.hid (show true = Bs.someI g L a (k + 1) from by rw [HS4.out]; rfl)
                go_wp2
                go_quiet (fail)
                go_wp2
                go_roundw
                case rel => exact ⟨k + 1, _, _, by omega, rfl, by go_num, HS5.out, by first | rfl | rw [World.drewN_drewN]⟩
                case measure => simp [intOf]; omega
            · obtain rfl : k = L.length := by omega
              have HBT := Lib.hid (show b = true from by rw [hbk, HLG.out]; exact HSA.out)
              have hbt := HBT.out
              subst hbt
              clear hbk
              go_wp2
              go_roundw
              case rel => exact ⟨a + 1, _, by omega, by go_num, rfl⟩
              case measure => simp [intOf]; omega
        · obtain rfl : a = L.length := by omega
          obtain ⟨bS, oS, rfl, _, _, hca⟩ := HQ4.out.at_ hvL
          rw [← Bs.giZ_at hvL, HF0.out] at hca
          have hc0 := HC0.out
          have hq1 := HQ1.out
          have v0 : (0 : Int) ≤ (v : Int) := by omega
          have v1 : (v : Int) < (L.length : Int) := by omega
          have v2 : (0 : Int) < (q.length : Int) := by omega
          go_wp2
          go_ret
          exact ⟨ret_bool rfl, HB4.out.drewN _⟩
end Go.Proofs.Ytnbgekbfccejdab
