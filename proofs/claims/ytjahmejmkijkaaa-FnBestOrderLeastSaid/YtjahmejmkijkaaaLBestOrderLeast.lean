/-
  THE WALK OF laws.FnBestOrderLeast.
-/
import Derived.Test.YtjahmejmkijkaaaK26
import Derived.Test.YtjahmejmkijkaaaK25
import Derived.Test.YtjahmejmkijkaaaK23
import Derived.Test.YtjahmejmkijkaaaK14
import Derived.Test.YtjahmejmkijkaaaR34
import Derived.Test.YtjahmejmkijkaaaOT
namespace Go.Proofs.Ytjahmejmkijkaaa
open Go.RowKit
set_option linter.unusedVariables false
set_option maxRecDepth 20000 in
set_option maxHeartbeats 6400000 in
theorem fnBestOrderLeast_walk (A : Option Addr) (c : Nat) (l : List Int) (w : World) (hb : RB w 0 w.heap.size A l) (hlc : l.length ≤ c ∧ c ≤ maxLen) :
    Calls Try.prog 7 #[.slice A l.length c] w fun e w' => e = .returned (.bool true) ∧ Below w.heap.size w w' := by
  have hl63 : l.length ≤ 9223372036854775807 := by have := hlc.2; unfold maxLen at this; omega
  by_cases hbig : 1048576 < l.length
  · go_enter Try.func7, Try.ntmps7
    go_wp2
    go_ret
    exact ⟨rfl, Below.refl _ _⟩
  · have C1 := Lib.hid (DrawBestOrder_any A c l w hb hlc.1 hlc.2)
    clear hb
    go_enter Try.func7, Try.ntmps7
    go_wp2_with fail
    refine (C1.out).mono ?_
    rintro e w1 ⟨⟨A1, c1, g, A2, c2, m, wk, rfl, hg, hg16, hgc, hcm, hm, hm100, hmc, hmm⟩, hb1⟩
    have HG := Lib.hid hg
    have HM := Lib.hid hm
    have s1 := hb1.size
    have hl9 : g.length ≤ 9223372036854775807 := by omega
    have hm9 : m.length ≤ 9223372036854775807 := by omega
    obtain ⟨L, hL⟩ : ∃ L, L = Bs.bestL g m wk := ⟨_, rfl⟩
    have CI := Lib.hid (fun W (hb : Below w1.heap.size w1 W) => BestOrder_any A1 c1 g A2 c2 m wk w.heap.size w1.heap.size w.heap.size w1.heap.size W (HG.out.below hb (Nat.le_refl _)) hb.size (HM.out.below hb (Nat.le_refl _)) hb.size hl9 hm9)
    have qs := fun W (hb : Below w1.heap.size w1 W) => BestOrderS_any A1 c1 g A2 c2 m wk w.heap.size w1.heap.size w.heap.size w1.heap.size W (HG.out.below hb (Nat.le_refl _)) hb.size (HM.out.below hb (Nat.le_refl _)) hb.size hl9 hm9
    have CT := Lib.hid (fun W (hb : Below w1.heap.size w1 W) => BestTime_any A1 c1 g A2 c2 m wk w.heap.size w1.heap.size w.heap.size w1.heap.size W (HG.out.below hb (Nat.le_refl _)) hb.size (HM.out.below hb (Nat.le_refl _)) hb.size hl9 hm9)
    have CO := Lib.hid (fun A' c' q l2 h2 W (hb : Below w1.heap.size w1 W) (hq : RI W l2 h2 A' q) (hh2 : h2 ≤ W.heap.size) (hql : q.length ≤ 9223372036854775807) => OrderStarts_any A1 c1 g A2 c2 m A' c' q wk w.heap.size w1.heap.size w.heap.size w1.heap.size l2 h2 W (HG.out.below hb (Nat.le_refl _)) hb.size (HM.out.below hb (Nat.le_refl _)) hb.size hq hh2 hl9 hm9 hql)
    have CE := Lib.hid (fun A' c' q l2 h2 W (hb : Below w1.heap.size w1 W) (hq : RI W l2 h2 A' q) (hh2 : h2 ≤ W.heap.size) (hql : q.length ≤ 9223372036854775807) => EndTime_any A1 c1 g A2 c2 m A' c' q wk w.heap.size w1.heap.size w.heap.size w1.heap.size l2 h2 W (HG.out.below hb (Nat.le_refl _)) hb.size (HM.out.below hb (Nat.le_refl _)) hb.size hq hh2 hl9 hm9 hql)
    have q2 := CI.out w1 (Below.refl _ _)
    have hlen : L.length ≤ 1000 := by rw [hL]; exact bestL_len1000 g m wk
    rw [← hL] at q2 qs
    have HL := Lib.hid hL
    have C2 := Lib.hid q2
    have CS := Lib.hid qs
    have HB1 := Lib.hid hb1
    clear C1 hg hm q2 qs hb1 hL
    go_wp2_with fail
    with_reducible refine (C2.out).mono ?_
    rintro e w2 ⟨⟨A4, c4, rfl, ho4⟩, hb2⟩
    have s2 := hb2.size
    have hr4 := ho4.ri
    have HX2 := Lib.hid hb2
    have HB2 := Lib.hid (HB1.out.trans (hb2.mono s1))
    have C3 := Lib.hid (CS.out w2 HX2.out)
    clear hb2 ho4 C2
    go_wp2_with fail
    with_reducible refine (C3.out).mono ?_
    rintro e w3 ⟨⟨A5, c5, rfl, ho5⟩, hb3⟩
    have s3 := hb3.size
    have hr43 := hr4.below hb3 (Nat.le_refl _)
    have C4 := Lib.hid (equalInts_same A4 c4 A5 c5 L _ _ _ _ w3 hr43 ho5.ri (by omega))
    have HQ3 := Lib.hid hr43
    have HX3 := Lib.hid (HX2.out.trans (hb3.mono s2))
    have HB3 := Lib.hid (HB2.out.trans (hb3.mono (Nat.le_trans s1 s2)))
    clear hb3 ho5 hr4 hr43 C3
    go_wp2_with fail
    with_reducible refine (C4.out).mono ?_
    rintro e w4 ⟨rfl, n, rfl⟩
    clear C4
    have HQ4 := Lib.hid (HQ3.out.drewN n)
    have HX4 := Lib.hid (HX3.out.drewN n)
    have HB4 := Lib.hid (HB3.out.drewN n)
    have hs24 : w2.heap.size ≤ (w3.drewN n).heap.size := s3
    clear HQ3 HX3 HB3 HX2 HB2
    generalize w3.drewN n = W4 at *
    have hs4 : w1.heap.size ≤ W4.heap.size := HX4.out.size
    by_cases h0 : L.length = 0
    · have hq0 : ((L.length : Int) == 0) = true := by simp [h0]
      clear h0 HL CE CO CT CI
      have CA := Lib.hid (CS.out W4 HX4.out)
      go_wp2_with fail
      with_reducible refine (CA.out).mono ?_
      rintro e wA ⟨⟨AA, cA, rfl, oA⟩, hbA⟩
      have sA := hbA.size
      have CB := Lib.hid (equalInts_same A4 c4 AA cA L _ _ _ _ wA (HQ4.out.below hbA hs24) oA.ri (by omega))
      have HBA := Lib.hid (HB4.out.trans (hbA.mono (Nat.le_trans s1 hs4)))
      clear hbA oA CA
      go_wp2_with fail
      with_reducible refine (CB.out).mono ?_
      rintro e wB ⟨rfl, nB, rfl⟩
      go_wp2
      go_ret
      exact ⟨rfl, HBA.out.drewN _⟩
    · have hq0 : ((L.length : Int) == 0) = false := by rw [beq_eq_false_iff_ne]; omega
      have hq0' : (L.length == 0) = false := by rw [beq_eq_false_iff_ne]; omega
      obtain ⟨f1, f2, f3⟩ := Bs.best_one HL.out h0
      have HF3 := Lib.hid f3
      have HM4 := Lib.hid (HM.out.below HX4.out (Nat.le_refl _))
      have hW : w.heap.size ≤ W4.heap.size := Nat.le_trans s1 hs4
      clear HL CE CO CT CI CS h0 f1 f3
      go_wp2
      go_loopw [7, 8] (fun v i wr => ∃ (k : Nat) (A' : Option Addr) (c' : Nat), i = .int .i64 k ∧ k ≤ g.length ∧ v = .slice A' (Bs.oneE k).length c' ∧ OT wr W4.heap.size A' c' (Bs.oneE k) ∧ Below W4.heap.size W4 wr) (fun _ i _ => g.length + 1 - (intOf i).toNat)
      case atStart => exact ⟨0, _, _, rfl, Nat.zero_le _, rfl, OT.nil _ _ (Nat.le_refl _), (Below.refl _ _).alloc (Nat.le_refl _) _⟩
      case round =>
        obtain ⟨k, A', c', rfl, hk, rfl, hO, hbr⟩ := hrel
        have sr := hbr.size
        have hol : (Bs.oneE k).length ≤ 16 := by rw [Bs.one_len]; omega
        by_cases hlt : k < g.length
        · have HO := Lib.hid (hO.alloc (.cells #[.int .i64 3, .slice none 0 0, .int .i64 0, .int .i64 1] 37))
          have HBR := Lib.hid (hbr.alloc sr (.cells #[.int .i64 3, .slice none 0 0, .int .i64 0, .int .i64 1] 37))
          have HC := Lib.hid (show ∀ j u, ([Bs.oneT].flatMap tc0)[j]? = some u → (wr.alloc (.cells #[.int .i64 3, .slice none 0 0, .int .i64 0, .int .i64 1] 37)).cell? ⟨wr.heap.size, j, none⟩ = some u from fun j u hu => new_cells wr Bs.oneT j u (by simpa using hu))
          have HS := Lib.hid (show Bs.oneE k ++ [Bs.oneT] = Bs.oneE (k + 1) from by unfold Bs.oneE; rw [List.replicate_succ'])
          have HLL := Lib.hid (show (Bs.oneE k).length + [Bs.oneT].length = (Bs.oneE (k + 1)).length from by rw [Bs.one_len, Bs.one_len]; rfl)
          clear hO hbr
          generalize Bs.oneE k = E at *
          go_wp2_with (first
            | (at_builtin; refine push_tasks rfl _ _ rfl W4.heap.size A' c' E [Bs.oneT] rfl HO.out wr.heap.size 1 rfl HC.out (by simp; omega) (by simp; omega) ?_; intro A6 c6 w6 ho6 hb6; have HO6 := Lib.hid ho6; have HB6 := Lib.hid (HBR.out.trans (hb6.mono (Nat.le_refl _))); clear ho6 hb6))
          go_roundw
          case rel => exact ⟨k + 1, A6, c6, by go_num, by omega, by rw [← HLL.out]; rfl, by rw [← HS.out]; exact HO6.out, HB6.out⟩
          case measure => simp [intOf]; omega
        · obtain rfl : k = g.length := by omega
          have c7 := BestOrder_any A' c' (Bs.oneE g.length) A2 c2 m 1 W4.heap.size wr.heap.size w.heap.size w1.heap.size wr (by have := OT.rg (g := Bs.oneE g.length) (by rw [Bs.one_bare]; exact hO); rw [Bs.one_bare] at this; exact this) (Nat.le_refl _) (HM4.out.below hbr hs4) (Nat.le_trans hs4 sr) (by omega) hm9
          rw [HF3.out] at c7
          have C7 := Lib.hid c7
          have HBR := Lib.hid hbr
          have HIL := Lib.hid (Bs.idZ_len g.length)
          have hD5 : (Bs.idZ g.length).length ≤ 5 := by rw [Bs.idZ_len]; exact f2
          have HIA := Lib.hid (fun i (hi : i < (Bs.idZ g.length).length) => Bs.idZ_at hi)
          clear c7 hO hbr hol HF3
          generalize Bs.oneE g.length = E at *
          generalize Bs.idZ g.length = D at *
          go_wp2_with fail
          with_reducible refine (C7.out).mono ?_
          rintro e w7 ⟨⟨A7, c7, rfl, ho7⟩, hb7⟩
          have HR7 := Lib.hid ho7.ri
          have HB7 := Lib.hid (HB4.out.trans ((HBR.out.trans (hb7.mono sr)).mono hW))
          have hdl : ((D.length : Int) == (g.length : Int)) = true := by rw [beq_iff_eq, HIL.out]
          have hdl' : (D.length == g.length) = true := by rw [beq_iff_eq, HIL.out]
          clear hb7 ho7 C7
          go_wp2
          go_loop [10] (fun i => ∃ k : Nat, k ≤ D.length ∧ i = .int .i64 k) (fun i => D.length - (intOf i).toNat)
          case atStart => exact ⟨0, Nat.zero_le _, rfl⟩
          case round =>
            obtain ⟨k, hk, rfl⟩ := hrel
            by_cases hlt : k < D.length
            · obtain ⟨b, o, rfl, _, _, hc⟩ := HR7.out.at_ hlt
              rw [HIA.out k hlt] at hc
              have i0 : (0 : Int) ≤ (k : Int) := by omega
              have i1 : (k : Int) < (D.length : Int) := by omega
              have d9 : ((k : Int) != (k : Int)) = false := by simp
              go_wp2
              go_round
              case rel => exact ⟨k + 1, by omega, by go_num⟩
              case measure => simp [intOf]; omega
            · go_wp2
              go_ret
              exact ⟨rfl, HB7.out⟩
end Go.Proofs.Ytjahmejmkijkaaa
