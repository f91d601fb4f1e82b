/-
  THE WALK OF laws.FnCancelAt.
-/
import Derived.Test.YtlanlcdbcblfjaaX11
import Derived.Test.YtlanlcdbcblfjaaLSum
import Derived.Test.YtlanlcdbcblfjaaMath64
import Derived.Test.YtlanlcdbcblfjaaR44
namespace Go.Proofs.Ytlanlcdbcblfjaa
open Go.RowKit
set_option linter.unusedVariables false
set_option maxRecDepth 20000 in
set_option maxHeartbeats 6400000 in
theorem fnCancelAt_walk (A : Option Addr) (c : Nat) (l : List Int) (w : World) (hb : RB w 0 w.heap.size A l) (hlc : l.length ≤ c ∧ c ≤ maxLen) :
    Calls Try.prog 9 #[.slice A l.length c] w fun e w' => e = .returned (.bool true) ∧ Below w.heap.size w w' := by
  have hl63 : l.length ≤ 9223372036854775807 := by have := hlc.2; unfold maxLen at this; omega
  by_cases hbig : 1048576 < l.length
  · go_enter Try.func9, Try.ntmps9
    go_wp2
    go_ret
    exact ⟨rfl, Below.refl _ _⟩
  · have C1 := Lib.hid (DrawCancelAt_any A c l w hb hlc.1 hlc.2)
    clear hb
    go_enter Try.func9, Try.ntmps9
    go_wp2_with fail
    refine (C1.out).mono ?_
    rintro e w1 ⟨⟨A1, c1, g, A2, c2, m, wk, A3, c3, S, now, rfl, hg, hg16, hgc, hcm, hm, hm100, hmc, hmm, hS, hS100, hSc, hSm⟩, hb1⟩
    have HG := Lib.hid hg
    have HM := Lib.hid hm
    have HS := Lib.hid hS
    have s1 := hb1.size
    have hl9 : g.length ≤ 9223372036854775807 := by omega
    have hm9 : m.length ≤ 9223372036854775807 := by omega
    have hS9 : S.length ≤ 9223372036854775807 := by omega
    obtain ⟨L, hL⟩ : ∃ L, L = Bs.canL g m wk S now := ⟨_, rfl⟩
    have CI := Lib.hid (fun now' W (hb : Below w1.heap.size w1 W) => CancelAt_any A1 c1 g A2 c2 m A3 c3 S wk now' w.heap.size w1.heap.size w.heap.size w1.heap.size w.heap.size w1.heap.size W (HG.out.below hb (Nat.le_refl _)) hb.size (HM.out.below hb (Nat.le_refl _)) hb.size (HS.out.below hb (Nat.le_refl _)) hb.size hl9 hm9 hS9)
    have qs := fun W (hb : Below w1.heap.size w1 W) => CancelAtS_any A1 c1 g A2 c2 m A3 c3 S wk now w.heap.size w1.heap.size w.heap.size w1.heap.size w.heap.size w1.heap.size W (HG.out.below hb (Nat.le_refl _)) hb.size (HM.out.below hb (Nat.le_refl _)) hb.size (HS.out.below hb (Nat.le_refl _)) hb.size hl9 hm9 hS9
    have CE := Lib.hid (fun W (hb : Below w1.heap.size w1 W) => EndTime_any A1 c1 g A2 c2 m A3 c3 S wk w.heap.size w1.heap.size w.heap.size w1.heap.size w.heap.size w1.heap.size W (HG.out.below hb (Nat.le_refl _)) hb.size (HM.out.below hb (Nat.le_refl _)) hb.size (HS.out.below hb (Nat.le_refl _)) hb.size hl9 hm9 hS9)
    have q2 := CI.out now w1 (Below.refl _ _)
    have hlen : L.length ≤ 1000 := by rw [hL]; exact canL_len1000 g m wk S now
    rw [← hL] at q2 qs
    have HL := Lib.hid hL
    have C2 := Lib.hid q2
    have CS := Lib.hid qs
    have HB1 := Lib.hid hb1
    clear C1 hg hm hS q2 qs hb1 hL
    go_wp2_with fail
    with_reducible refine (C2.out).mono ?_
    rintro e w2 ⟨⟨A4, c4, rfl, ho4⟩, hb2⟩
    have s2 := hb2.size
    have hr4 := ho4.ri
    have HX2 := Lib.hid hb2
    have HB2 := Lib.hid (HB1.out.trans (hb2.mono s1))
    have C3 := Lib.hid (CS.out w2 HX2.out)
    clear hb2 ho4 C2
    go_wp2_with fail
    with_reducible refine (C3.out).mono ?_
    rintro e w3 ⟨⟨A5, c5, rfl, ho5⟩, hb3⟩
    have s3 := hb3.size
    have hr43 := hr4.below hb3 (Nat.le_refl _)
    have C4 := Lib.hid (equalInts_same A4 c4 A5 c5 L _ _ _ _ w3 hr43 ho5.ri (by omega))
    have HQ3 := Lib.hid hr43
    have HX3 := Lib.hid (HX2.out.trans (hb3.mono s2))
    have HB3 := Lib.hid (HB2.out.trans (hb3.mono (Nat.le_trans s1 s2)))
    clear hb3 ho5 hr4 hr43 C3
    go_wp2_with fail
    with_reducible refine (C4.out).mono ?_
    rintro e w4 ⟨rfl, n, rfl⟩
    clear C4
    have HQ4 := Lib.hid (HQ3.out.drewN n)
    have HX4 := Lib.hid (HX3.out.drewN n)
    have HB4 := Lib.hid (HB3.out.drewN n)
    have hs24 : w2.heap.size ≤ (w3.drewN n).heap.size := s3
    clear HQ3 HX3 HB3 HX2 HB2
    generalize w3.drewN n = W4 at *
    have hs4 : w1.heap.size ≤ W4.heap.size := HX4.out.size
    by_cases h0 : L.length = g.length
    rotate_left
    · have hq0 : ((L.length : Int) != (g.length : Int)) = true := by rw [bne_iff_ne]; omega
      clear h0 HL
      have CA := Lib.hid (CS.out W4 HX4.out)
      go_wp2_with fail
      with_reducible refine (CA.out).mono ?_
      rintro e wA ⟨⟨AA, cA, rfl, oA⟩, hbA⟩
      have sA := hbA.size
      have CB := Lib.hid (equalInts_same A4 c4 AA cA L _ _ _ _ wA (HQ4.out.below hbA hs24) oA.ri (by omega))
      have HBA := Lib.hid (HB4.out.trans (hbA.mono (Nat.le_trans s1 hs4)))
      clear hbA oA CA
      go_wp2_with fail
      with_reducible refine (CB.out).mono ?_
      rintro e wB ⟨rfl, nB, rfl⟩
      go_wp2
      go_ret
      exact ⟨rfl, HBA.out.drewN _⟩
    · have hq0 : ((L.length : Int) != (g.length : Int)) = false := by rw [bne_eq_false_iff_eq]; omega
      have HTA := Lib.hid (fun k hk => cancel_task HL.out h0 (k := k) hk)
      have HG4 := Lib.hid (HG.out.below HX4.out (Nat.le_refl _))
      have HS4 := Lib.hid (HS.out.below HX4.out (Nat.le_refl _))
      have HH0 := Lib.hid h0
      clear HL CI CS CE h0
      go_wp2
      go_loopw [9, 10, 11] (fun i _ _ wr => ∃ (k j : Nat), k ≤ g.length ∧ i = .int .i64 k ∧ wr = W4.drewN j) (fun i _ _ _ => g.length - (intOf i).toNat)
      case atStart => exact ⟨0, 0, Nat.zero_le _, rfl, rfl⟩
      case round =>
        obtain ⟨k, j, hk, rfl, rfl⟩ := hrel
        by_cases hlt : k < g.length
        · obtain ⟨hnr, hnl, hkS, hsb, htb, hgx, hnd⟩ := HTA.out k hlt
          have hkL : k < L.length := by have := HH0.out; omega
          obtain ⟨b, o, rfl, _, _, hcell⟩ := HQ4.out.at_ hkL
          rw [← Bs.gi_at hkL] at hcell
          obtain ⟨b2, o2, rfl, _, _, hs2⟩ := HS4.out.at_ hkS
          rw [← Bs.giZ_at hkS] at hs2
          obtain ⟨bg, og, N, cN, rfl, _, hgh, q0, q1, q2, q3, hlN, hcN, hN⟩ := HG4.out k hlt
          have HND := Lib.hid hnd
          have HNR := Lib.hid (fun p (hp : p < g[k].needs.length) => And.intro (hnr _ (List.getElem_mem hp)) (List.getElem_mem hp))
          have HN := Lib.hid hN
          have HGA := Lib.hid (fun v (hv : v < L.length) => Bs.gi_at (l := L) hv)
          have i0 : (0 : Int) ≤ (k : Int) := by omega
          have i1 : (k : Int) < (g.length : Int) := by omega
          have i2 : (k : Int) < (L.length : Int) := by omega
          have i3 : (k : Int) < (S.length : Int) := by omega
          clear hnr hN hnd HTA
          generalize hneeds : g[k].needs = nds at *
          clear hneeds
          generalize hxe : Bs.gi L k = x at *
          clear hxe
          generalize g[k].time = tk at *
          generalize Bs.giZ S k = sk at *
          have hw : IntKind.i64.wrap (sk + tk) = sk + tk := IntWalk.i64_in _ ⟨by omega, by omega⟩
          by_cases g1 : sk + tk ≤ now
          · rw [if_pos g1] at hgx
            subst hgx
            have d1 : decide (sk + tk ≤ now) = true := by simp [g1]
            have g2 : sk < now := by omega
            have d2 : decide (sk < now) = true := by simp [g2]
            have HN3 := Lib.hid (HND.out (by omega))
            clear g1 g2 HND
            go_wp2
            go_quiet (fail)
            go_wp2
            go_quiet (fail)
            go_wp2
            go_loopw [11] (fun i wr => ∃ (p n : Nat), p ≤ nds.length ∧ i = .int .i64 p ∧ wr = W4.drewN n) (fun i _ => nds.length - (intOf i).toNat)
            case atStart => exact ⟨0, _, Nat.zero_le _, rfl, by first | rfl | (rw [World.drewN_drewN, World.drewN_drewN]) | rw [World.drewN_drewN]⟩
            case round =>
              obtain ⟨p, n, hp, rfl, rfl⟩ := hrel
              by_cases hpl : p < nds.length
              · obtain ⟨bn, on, rfl, _, _, hcn⟩ := HN.out p hpl
                obtain ⟨hyb, hym⟩ := HNR.out p hpl
                have j1 : (p : Int) < (nds.length : Int) := by omega
                have j0 : (0 : Int) ≤ (p : Int) := by omega
                have hy0 := HN3.out _ hym
                generalize nds[p] = y at *
                obtain ⟨v, rfl⟩ := Int.eq_ofNat_of_zero_le hyb.1
                have hvL : v < L.length := by omega
                obtain ⟨b3, o3, e3, _, _, hcv⟩ := HQ4.out.at_ hvL
                cases e3
                rw [← HGA.out v hvL, show Bs.gi L v = 0 from hy0] at hcv
                have j2 : (v : Int) < (L.length : Int) := by omega
                have j3 : (0 : Int) ≤ (v : Int) := by omega
                clear hy0
                clear hyb hym
                go_wp2
                go_roundw
                case rel => exact ⟨p + 1, _, by omega, by go_num, by first | rfl | rw [World.drewN_drewN]⟩
                case measure => simp [intOf]; omega
              · go_wp2
                go_roundw
                case rel => exact ⟨k + 1, _, by omega, by go_num, by first | rfl | rw [World.drewN_drewN]⟩
                case measure => simp [intOf]; omega
          · have d1 : decide (sk + tk ≤ now) = false := by simp [g1]
            rw [if_neg g1] at hgx
            by_cases g2 : sk < now
            · have d2 : decide (sk < now) = true := by simp [g2]
              rw [if_pos g2] at hgx
              subst hgx
              have HN3 := Lib.hid (HND.out (by omega))
              clear g1 g2 HND
              go_wp2
              go_quiet (fail)
              go_wp2
              go_quiet (fail)
              go_wp2
              go_loopw [11] (fun i wr => ∃ (p n : Nat), p ≤ nds.length ∧ i = .int .i64 p ∧ wr = W4.drewN n) (fun i _ => nds.length - (intOf i).toNat)
              case atStart => exact ⟨0, _, Nat.zero_le _, rfl, by first | rfl | (rw [World.drewN_drewN, World.drewN_drewN]) | rw [World.drewN_drewN]⟩
              case round =>
                obtain ⟨p, n, hp, rfl, rfl⟩ := hrel
                by_cases hpl : p < nds.length
                · obtain ⟨bn, on, rfl, _, _, hcn⟩ := HN.out p hpl
                  obtain ⟨hyb, hym⟩ := HNR.out p hpl
                  have j1 : (p : Int) < (nds.length : Int) := by omega
                  have j0 : (0 : Int) ≤ (p : Int) := by omega
                  have hy0 := HN3.out _ hym
                  generalize nds[p] = y at *
                  obtain ⟨v, rfl⟩ := Int.eq_ofNat_of_zero_le hyb.1
                  have hvL : v < L.length := by omega
                  obtain ⟨b3, o3, e3, _, _, hcv⟩ := HQ4.out.at_ hvL
                  cases e3
                  rw [← HGA.out v hvL, show Bs.gi L v = 0 from hy0] at hcv
                  have j2 : (v : Int) < (L.length : Int) := by omega
                  have j3 : (0 : Int) ≤ (v : Int) := by omega
                  clear hy0
                  clear hyb hym
                  go_wp2
                  go_roundw
                  case rel => exact ⟨p + 1, _, by omega, by go_num, by first | rfl | rw [World.drewN_drewN]⟩
                  case measure => simp [intOf]; omega
                · go_wp2
                  go_roundw
                  case rel => exact ⟨k + 1, _, by omega, by go_num, by first | rfl | rw [World.drewN_drewN]⟩
                  case measure => simp [intOf]; omega
            · have d2 : decide (sk < now) = false := by simp [g2]
              rw [if_neg g2] at hgx
              subst hgx
              clear g1 g2 HND
              go_wp2
              go_quiet (fail)
              go_wp2
              go_quiet (fail)
              go_wp2
              go_loopw [11] (fun i wr => ∃ (p n : Nat), p ≤ nds.length ∧ i = .int .i64 p ∧ wr = W4.drewN n) (fun i _ => nds.length - (intOf i).toNat)
              case atStart => exact ⟨0, _, Nat.zero_le _, rfl, by first | rfl | (rw [World.drewN_drewN, World.drewN_drewN]) | rw [World.drewN_drewN]⟩
              case round =>
                obtain ⟨p, n, hp, rfl, rfl⟩ := hrel
                by_cases hpl : p < nds.length
                · obtain ⟨bn, on, rfl, _, _, hcn⟩ := HN.out p hpl
                  obtain ⟨hyb, hym⟩ := HNR.out p hpl
                  have j1 : (p : Int) < (nds.length : Int) := by omega
                  have j0 : (0 : Int) ≤ (p : Int) := by omega
                  generalize nds[p] = y at *
                  clear hyb hym
                  go_wp2
                  go_roundw
                  case rel => exact ⟨p + 1, _, by omega, by go_num, by first | rfl | rw [World.drewN_drewN]⟩
                  case measure => simp [intOf]; omega
                · go_wp2
                  go_roundw
                  case rel => exact ⟨k + 1, _, by omega, by go_num, by first | rfl | rw [World.drewN_drewN]⟩
                  case measure => simp [intOf]; omega
        · go_wp2
          go_ret
          exact ⟨rfl, HB4.out.drewN _⟩
end Go.Proofs.Ytlanlcdbcblfjaa
