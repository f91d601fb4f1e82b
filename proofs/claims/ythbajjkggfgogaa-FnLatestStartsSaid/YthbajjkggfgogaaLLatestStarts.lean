/-
  THE WALK OF laws.FnLatestStarts.
-/
import Derived.Test.YthbajjkggfgogaaX17
import Derived.Test.YthbajjkggfgogaaMath121
import Derived.Test.YthbajjkggfgogaaW121
import Derived.Test.YthbajjkggfgogaaR81
import Derived.Test.YthbajjkggfgogaaL1
namespace Go.Proofs.Ythbajjkggfgogaa
open Go.RowKit
set_option linter.unusedVariables false
set_option maxRecDepth 20000 in
set_option maxHeartbeats 6400000 in
theorem fnLatestStarts_walk (A : Option Addr) (c : Nat) (l : List Int) (w : World) (hb : RB w 0 w.heap.size A l) (hlc : l.length ≤ c ∧ c ≤ maxLen) :
    Calls Try.prog 3 #[.slice A l.length c] w fun e w' => e = .returned (.bool true) ∧ Below w.heap.size w w' := by
  have hl63 : l.length ≤ 9223372036854775807 := by have := hlc.2; unfold maxLen at this; omega
  by_cases hbig : 1048576 < l.length
  · go_enter Try.func3, Try.ntmps3
    go_wp2
    go_ret
    exact ⟨rfl, Below.refl _ _⟩
  · have C1 := Lib.hid (DrawLatestStarts_any A c l w hb hlc.1 hlc.2)
    clear hb
    go_enter Try.func3, Try.ntmps3
    go_wp2_with fail
    refine (C1.out).mono ?_
    rintro e w1 ⟨⟨A1, c1, g, d, rfl, hg, hg16, hgc, hcm⟩, hb1⟩
    have HG := Lib.hid hg
    have s1 := hb1.size
    have hl9 : g.length ≤ 9223372036854775807 := by omega
    have HX1 := Lib.hid (Below.refl w1.heap.size w1)
    have HB1 := Lib.hid hb1
    have QLS := Lib.hid (fun (d : Int) W (hb : Below w1.heap.size w1 W) => LatestStarts_any A1 c1 g d w.heap.size w1.heap.size W (HG.out.below hb (Nat.le_refl _)) hb.size hl9)
    have QLSm := Lib.hid (fun (d : Int) W (hb : Below w1.heap.size w1 W) => LatestStartsS_any A1 c1 g d w.heap.size w1.heap.size W (HG.out.below hb (Nat.le_refl _)) hb.size hl9)
    clear C1 hb1
    obtain ⟨L, hL⟩ : ∃ L, L = Bs.latL g d := ⟨_, rfl⟩
    have hlen : L.length ≤ 1000 := by rw [hL]; exact Nat.le_trans (Bs.latL_len g d) (by decide)
    have HL := Lib.hid hL
    have e2 := QLS.out d w1 HX1.out
    have e3 := fun W hb => QLSm.out d W hb
    rw [← hL] at e2 e3
    have E2 := Lib.hid e2
    have CS := Lib.hid e3
    clear hL e2 e3
    go_wp2_with fail
    with_reducible refine (E2.out).mono ?_
    rintro e w2 ⟨⟨A22, c22, rfl, ho2⟩, hb2⟩
    have HX2 := Lib.hid hb2
    have HB2 := Lib.hid (HB1.out.trans (hb2.mono s1))
    have hr2 := ho2.ri
    have C3 := Lib.hid (CS.out w2 HX2.out)
    clear ho2 hb2 E2
    go_wp2_with fail
    with_reducible refine (C3.out).mono ?_
    rintro e w3 ⟨⟨A23, c23, rfl, ho3⟩, hb3⟩
    have hr3 := hr2.below hb3 (Nat.le_refl _)
    have C4 := Lib.hid (equalInts_same A22 c22 A23 c23 L _ _ _ _ w3 hr3 ho3.ri (by omega))
    have HQL3 := Lib.hid hr3
    have HX3 := Lib.hid (HX2.out.trans (hb3.mono HX2.out.size))
    have HB3 := Lib.hid (HB2.out.trans (hb3.mono (Nat.le_trans s1 HX2.out.size)))
    have hqL3 := hb3.size
    clear hb3 ho3 hr2 hr3 C3
    go_wp2_with fail
    with_reducible refine (C4.out).mono ?_
    rintro e w4 ⟨rfl, n, rfl⟩
    clear C4
    have HQL4 := Lib.hid (HQL3.out.drewN n)
    have HX4 := Lib.hid (HX3.out.drewN n)
    have HB4 := Lib.hid (HB3.out.drewN n)
    have hqL4 : w2.heap.size ≤ (w3.drewN n).heap.size := hqL3
    clear HQL3 HX3 HB3 HX2 HB2 hqL3
    generalize w3.drewN n = w4 at *
    by_cases h0 : L.length = g.length
    · have hq0 : ((L.length : Int) != (g.length : Int)) = false := by simp [h0]
      have HT := Lib.hid (Bs.lat_law HL.out h0)
      have hll := Nat.le_of_eq h0.symm
      have HG4 := Lib.hid (HG.out.below HX4.out (Nat.le_refl _))
      clear HL QLS CS h0
      go_wp2
      go_loopw [6, 7, 8] (fun i _ _ wr => ∃ k : Nat, i = .int .i64 k ∧ ∃ n, wr = w4.drewN n) (fun i _ _ _ => g.length + 1 - (intOf i).toNat)
      case atStart => exact ⟨0, rfl, 0, rfl⟩
      case round =>
        obtain ⟨i, rfl, n, rfl⟩ := hrel
        by_cases hi : i < g.length
        · have hiL : i < L.length := by omega
          obtain ⟨b, o, rfl, _, _, hc0⟩ := HQL4.out.at_ hiL
          obtain ⟨b1, o1, N, cN, rfl, _, _, k0, k1, k2, k3, hnc, hcN, hN⟩ := HG4.out i hi
          obtain ⟨t0, t1, t2, t3, t4, t5⟩ := HT.out i hi
          rw [← Bs.giZ_at hiL] at hc0
          have b0 : (0 : Int) ≤ (i : Int) := by omega
          have b1' : (i : Int) < (L.length : Int) := by omega
          have b2 : (i : Int) < (g.length : Int) := by omega
          have H5 := Lib.hid t5
          have HN := Lib.hid hN
          clear t5 k2 k3 hN
          generalize Bs.giZ L i = y at *
          generalize g[i].time = ti at *
          generalize hneeds : g[i].needs = nd at *
          clear hneeds
          have hw : IntKind.i64.wrap (y + ti) = y + ti := IntWalk.i64_in _ ⟨by omega, by omega⟩
          have e1 : decide (y + ti > d) = false := decide_eq_false (by omega)
          have e2 : decide (d < y + ti) = false := decide_eq_false (by omega)
          clear t4
          go_wp2
          go_quiet (fail)
          go_wp2
          go_loopw [7, 8] (fun j _ wr => ∃ k : Nat, j = .int .i64 (k : Int) ∧ k ≤ nd.length ∧ ∃ n, wr = w4.drewN n) (fun j _ _ => nd.length + 1 - (intOf j).toNat)
          case atStart => exact ⟨0, rfl, Nat.zero_le _, _, by first | rfl | rw [World.drewN_drewN]⟩
          case round =>
            obtain ⟨k, rfl, hk, m, rfl⟩ := hrel
            by_cases hkl : k < nd.length
            · obtain ⟨b3, o3, rfl, _, _, hc3⟩ := HN.out.at_ hkl
              obtain ⟨x0, x1, x2, x3, x4⟩ := H5.out nd[k] (List.getElem_mem hkl)
              obtain ⟨x, hx⟩ : ∃ x : Nat, nd[k] = (x : Int) := ⟨nd[k].toNat, by omega⟩
              rw [hx] at hc3 x0 x1 x2 x3 x4
              rw [Int.toNat_natCast] at x2 x3 x4
              have hxg : x < g.length := by omega
              obtain ⟨b5, o5, e5, _, _, hc5⟩ := HQL4.out.at_ (k := x) (by omega)
              obtain ⟨b6, o6, N6, cN6, e6, _, _, j0, _, _, _, _, _, _⟩ := HG4.out x hxg
              cases e5
              cases e6
              rw [← Bs.giZ_at (by omega)] at hc5
              rw [← time_at hxg] at j0
              have c0 : (0 : Int) ≤ (k : Int) := by omega
              have c1 : (k : Int) < (nd.length : Int) := by omega
              have c2 : (0 : Int) ≤ (x : Int) := by omega
              have c3 : (x : Int) < (g.length : Int) := by omega
              have c4 : (x : Int) < (L.length : Int) := by omega
              obtain ⟨u0, u1, _⟩ := HT.out x hxg
              generalize Bs.giZ L x = z at *
              generalize Bs.timeOf g x = tx at *
              have hwz : IntKind.i64.wrap (z + tx) = z + tx := IntWalk.i64_in _ ⟨by omega, by omega⟩
              have e3 : decide (z + tx > y) = false := decide_eq_false (by omega)
              have e4 : decide (y < z + tx) = false := decide_eq_false (by omega)
              clear x4 hx x0 x1
              go_wp2
              go_quiet (fail)
              go_wp2
              go_roundw
              case rel => exact ⟨k + 1, by go_num, by omega, _, by first | rfl | rw [World.drewN_drewN]⟩
              case measure => simp [intOf]; omega
            · have hkn : ¬ ((k : Int) < (nd.length : Int)) := by omega
              go_wp2
              go_roundw
              case rel => exact ⟨i + 1, by go_num, _, by first | rfl | rw [World.drewN_drewN]⟩
              case measure => simp [intOf]; omega
        · have hn : ¬ ((i : Int) < (g.length : Int)) := by omega
          go_wp2
          go_ret
          exact ⟨rfl, HB4.out.drewN _⟩
    · have hq0 : ((L.length : Int) != (g.length : Int)) = true := by rw [bne_iff_ne]; omega
      clear h0 HL QLS
      have CA := Lib.hid (CS.out w4 HX4.out)
      go_wp2_with fail
      with_reducible refine (CA.out).mono ?_
      rintro e wA ⟨⟨AA, cA, rfl, oA⟩, hbA⟩
      have CB := Lib.hid (equalInts_same A22 c22 AA cA L _ _ _ _ wA (HQL4.out.below hbA hqL4) oA.ri (by omega))
      have HBA := Lib.hid (HB4.out.trans (hbA.mono (Nat.le_trans s1 HX4.out.size)))
      clear hbA oA CA
      go_wp2_with fail
      with_reducible refine (CB.out).mono ?_
      rintro e wB ⟨rfl, nB, rfl⟩
      go_wp2
      go_ret
      exact ⟨rfl, HBA.out.drewN _⟩
end Go.Proofs.Ythbajjkggfgogaa
