/-
  THE WALK OF laws.FnValidStartsRow.
-/
import Derived.Test.YtnbgekbfccejdabK17
import Derived.Test.YtnbgekbfccejdabK16
import Derived.Test.YtnbgekbfccejdabK14
import Derived.Test.YtnbgekbfccejdabK15
import Derived.Test.YtnbgekbfccejdabMath46
import Derived.Test.YtnbgekbfccejdabK8
namespace Go.Proofs.Ytnbgekbfccejdab
open Go.RowKit
set_option maxRecDepth 20000 in
set_option maxHeartbeats 6400000 in
theorem fnValidStartsRow_walk (A : Option Addr) (c : Nat) (l : List Int) (w : World) (hb : RB w 0 w.heap.size A l) (hlc : l.length ≤ c ∧ c ≤ maxLen) :
    Calls Try.prog 13 #[.slice A l.length c] w fun e w' => e = .returned (.bool true) ∧ Below w.heap.size w w' := by
  have hl63 : l.length ≤ 9223372036854775807 := by have := hlc.2; unfold maxLen at this; omega
  by_cases hbig : 1048576 < l.length
  · go_enter Try.func13, Try.ntmps13
    go_wp2
    go_ret
    exact ⟨rfl, Below.refl _ _⟩
  · have C1 := Lib.hid (DrawValidStarts_any A c l w hb hlc.1 hlc.2)
    clear hb
    go_enter Try.func13, Try.ntmps13
    go_wp2_with fail
    refine (C1.out).mono ?_
    rintro e w1 ⟨⟨A1, c1, g, A2, c2, m, wk, A3, c3, S, rfl, hg, hg16, hgc, hcm, hm, hm100, hmc, hmm, hS, hS100, hSc, hSm⟩, hb1⟩
    have HG := Lib.hid hg
    have HM := Lib.hid hm
    have HS := Lib.hid hS
    have s1 := hb1.size
    have hl9 : g.length ≤ 9223372036854775807 := by omega
    have hm9 : m.length ≤ 9223372036854775807 := by omega
    have hS9 : S.length ≤ 9223372036854775807 := by omega
    have q2 := ValidStarts_any A1 c1 g A2 c2 m A3 c3 S wk w.heap.size w1.heap.size w.heap.size w1.heap.size w.heap.size w1.heap.size w1 HG.out (Nat.le_refl _) HM.out (Nat.le_refl _) HS.out (Nat.le_refl _) hl9 hm9 hS9
    have qs := fun W hg hm hr hs => ValidStartsS_any A1 c1 g A2 c2 m A3 c3 S wk w.heap.size w1.heap.size w.heap.size w1.heap.size w.heap.size w1.heap.size W hg hs hm hs hr hs hl9 hm9 hS9
    have CI := Lib.hid (fun (A2 : Option Addr) (c2 : Nat) (m' : List Int) (A3 : Option Addr) (c3 : Nat) (S' : List Int) (wk' : Int) (l1 h1 l2 h2 : Nat) W hg hs hm hh1 hS hh2 hml hsl => ValidStarts_any A1 c1 g A2 c2 m' A3 c3 S' wk' w.heap.size w1.heap.size l1 h1 l2 h2 W hg hs hm hh1 hS hh2 hl9 hml hsl)
    obtain ⟨V, hV⟩ : ∃ V, V = Bs.stV g m wk S := ⟨_, rfl⟩
    rw [← hV] at q2 qs
    have HV := Lib.hid hV
    have C2 := Lib.hid q2
    have CS := Lib.hid qs
    have HB1 := Lib.hid hb1
    have hne : (V != V) = false := by simp
    have heq : (V == V) = true := by simp
    clear C1 hg hm hS q2 qs hb1 hV
    go_wp2_with fail
    with_reducible refine (C2.out).mono ?_
    rintro e w2 ⟨rfl, hb2⟩
    have s2 := hb2.size
    have HG2 := Lib.hid (HG.out.below hb2 (Nat.le_refl _))
    have HM2 := Lib.hid (HM.out.below hb2 (Nat.le_refl _))
    have HS2 := Lib.hid (HS.out.below hb2 (Nat.le_refl _))
    have HB2 := Lib.hid (HB1.out.trans (hb2.mono s1))
    have C3 := Lib.hid (CS.out w2 HG2.out HM2.out HS2.out s2)
    clear hb2 C2 HG HM HS HB1
    go_wp2_with fail
    with_reducible refine (C3.out).mono ?_
    rintro e w3 ⟨rfl, hb3⟩
    have s3 := hb3.size
    have hs3 : w1.heap.size ≤ w3.heap.size := Nat.le_trans s2 s3
    have HG3 := Lib.hid (HG2.out.below hb3 s2)
    have HM3 := Lib.hid (HM2.out.below hb3 s2)
    have HS3 := Lib.hid (HS2.out.below hb3 s2)
    have HB3 := Lib.hid (HB2.out.trans (hb3.mono (Nat.le_trans s1 s2)))
    clear hb3 C3 HG2 HM2 HS2 HB2
    obtain ⟨W3, rfl⟩ : ∃ W3, W3 = w3 := ⟨_, rfl⟩
    have q4 := ValidGraph_any A1 c1 g w.heap.size w1.heap.size W3 HG3.out hs3 hl9
    obtain ⟨gv, hgv⟩ : ∃ gv, gv = Bs.valid g := ⟨_, rfl⟩
    rw [← hgv] at q4
    have HGV := Lib.hid hgv
    have C4 := Lib.hid q4
    clear q4 hgv HV
    go_wp2_with fail
    with_reducible refine (C4.out).mono ?_
    rintro e w5 ⟨rfl, hb5⟩
    have s5 := hb5.size
    have hs5 : w1.heap.size ≤ w5.heap.size := Nat.le_trans hs3 s5
    have HG5 := Lib.hid (HG3.out.below hb5 hs3)
    have HM5 := Lib.hid (HM3.out.below hb5 hs3)
    have HS5 := Lib.hid (HS3.out.below hb5 hs3)
    have HB5 := Lib.hid (HB3.out.trans (hb5.mono (Nat.le_trans s1 hs3)))
    clear hb5 C4 HG3 HM3 HS3 HB3
    cases gv
    · have C6 := Lib.hid (CS.out w5 HG5.out HM5.out HS5.out hs5)
      clear CS CI HGV
      go_wp2_with fail
      with_reducible refine (C6.out).mono ?_
      rintro e w6 ⟨rfl, hb6⟩
      have HB6 := Lib.hid (HB5.out.trans (hb6.mono (Nat.le_trans s1 hs5)))
      clear hb6 C6
      go_wp2
      go_ret
      exact ⟨rfl, HB6.out⟩
    · have q6 := ValidRoom_same A2 c2 m w.heap.size w1.heap.size w5 HM5.out hm9
      obtain ⟨ro, hro⟩ : ∃ ro, ro = Bs.roomOk m := ⟨_, rfl⟩
      rw [← hro] at q6
      have HRO := Lib.hid hro
      have C6 := Lib.hid q6
      clear q6 hro
      go_wp2_with fail
      with_reducible refine (C6.out).mono ?_
      rintro e w6 ⟨rfl, rfl⟩
      obtain ⟨W5, rfl⟩ : ∃ W5, W5 = w5 := ⟨_, rfl⟩
      cases ro
      · have C7 := Lib.hid (CS.out W5 HG5.out HM5.out HS5.out hs5)
        clear CS CI HGV HRO
        go_wp2_with fail
        with_reducible refine (C7.out).mono ?_
        rintro e w7 ⟨rfl, hb7⟩
        have HB7 := Lib.hid (HB5.out.trans (hb7.mono (Nat.le_trans s1 hs5)))
        clear hb7 C7
        go_wp2
        go_ret
        exact ⟨rfl, HB7.out⟩
      · have hv : Bs.valid g = true := HGV.out.symm
        have hF := valid_fine hv
        have h8 := Bs.fine_len hF
        have hrow := Bs.row_valid hv HRO.out.symm
        have hol : (Bs.top g).length = g.length := valid_full hv
        have hdist := Bs.top_dist g
        have HOI := Lib.hid hdist.2
        have HTT := Lib.hid (fun i (hi : i < g.length) => Bs.fine_time' hF hi)
        have HRT := Lib.hid (fun k hk => Bs.rowT_succ (g := g) (O := Bs.top g) (k := k) hk)
        have HRB := Lib.hid (fun k hk => Bs.rowT_b (g := g) (O := Bs.top g) hF k hk)
        have HRL := Lib.hid (fun k => Bs.rowS_len g (Bs.top g) k)
        have HRS := Lib.hid (fun k => show Bs.rowS g (Bs.top g) (k + 1) = (Bs.rowS g (Bs.top g) k).set (Bs.giZ (Bs.top g) k).toNat (Bs.rowT g (Bs.top g) k) from rfl)
        have hmk := make_ints g.length (by omega) W5
        have hR0 : Arr (W5.alloc (.cells (intsA (List.replicate g.length 0)) 3)) W5.heap.size (Bs.rowS g (Bs.top g) 0) := Blk.new W5 _ _
        have hBa : Below W5.heap.size W5 (W5.alloc (.cells (intsA (List.replicate g.length 0)) 3)) := (Below.refl _ _).alloc (Nat.le_refl _) _
        have c8 := TopOrder_any A1 c1 g w.heap.size w1.heap.size (W5.alloc (.cells (intsA (List.replicate g.length 0)) 3)) (HG5.out.below hBa hs5) (by simp; omega) hl9
        rw [show Bs.topL g = Bs.top g from by unfold Bs.topL; rw [hv]; rfl] at c8
        generalize Bs.top g = O at *
        have C8 := Lib.hid c8
        have HR0 := Lib.hid hR0
        have HBa := Lib.hid hBa
        have HROW := Lib.hid hrow
        have HOL := Lib.hid hol
        generalize (.cells (intsA (List.replicate g.length 0)) 3 : Obj) = ob at *
        clear HGV HRO CS hv hF hrow hdist c8 hR0 hBa hol
        go_wp2_with fail
        with_reducible refine (C8.out).mono ?_
        rintro e w8 ⟨⟨A8, c8, rfl, ho8⟩, hb8⟩
        have HO8 := Lib.hid ho8.ri
        have s8 : W5.heap.size + 1 ≤ w8.heap.size := by have := hb8.size; rw [World.size_alloc] at this; exact this
        have HR8 := Lib.hid (HR0.out.below hb8 (by simp))
        have HB8 := Lib.hid (HBa.out.trans (hb8.mono HBa.out.size))
        clear ho8 hb8 C8 HR0 HBa hmk
        go_wp2
        go_loopw [10, 11] (fun vn i wr => ∃ (k : Nat), k ≤ O.length ∧ vn = .int .i64 (Bs.rowT g O k) ∧ i = .int .i64 k ∧ Arr wr W5.heap.size (Bs.rowS g O k) ∧ RI wr (W5.heap.size + 1) w8.heap.size A8 O ∧ Below W5.heap.size W5 wr) (fun _ i _ => O.length - (intOf i).toNat)
        case atStart => exact ⟨0, Nat.zero_le _, rfl, rfl, HR8.out, HO8.out.more (by rw [World.size_alloc]; exact Nat.le_refl _) (Nat.le_refl _), HB8.out⟩
        case round =>
          clear HR8 HO8 HB8
          obtain ⟨k, hk, rfl, rfl, hA, hO, hbw⟩ := hrel
          by_cases hlt : k < O.length
          · obtain ⟨bo, oo, rfl, hbo, _, hco⟩ := hO.at_ hlt
            have hx := HOI.out _ (List.getElem_mem hlt)
            have hrt := HRT.out k hlt
            have hrb := HRB.out k hk
            have hrs := HRS.out k
            rw [Bs.giZ_at hlt] at hrt hrs
            obtain ⟨x, hxv⟩ : ∃ x : Nat, O[k] = (x : Int) := ⟨O[k].toNat, by omega⟩
            rw [hxv] at hx hco hrt hrs
            rw [Int.toNat_natCast] at hrt hrs
            have hxl : x < g.length := by omega
            obtain ⟨bg, og, N, cN, rfl, _, hgh, t0, _, _, _, hnc, hcN, hN⟩ := (HG5.out.below hbw hs5) x hxl
            rw [time_at hxl] at hrt
            have kc := hA.at_ (i := x) (by rw [HRL.out]; exact hxl)
            have kf := hA.frozen x
            have htt := HTT.out x hxl
            have hA2 := hA.set_ x (Bs.rowT g O k)
            rw [← hrs] at hA2
            have HA2 := Lib.hid hA2
            have HO2 := Lib.hid (show RI (wr.setCell ⟨W5.heap.size, x, none⟩ (.int .i64 (Bs.rowT g O k))) (W5.heap.size + 1) w8.heap.size _ O from hO.keep (fun p hp _ => World.cell?_setCell_far _ _ _ _ (show W5.heap.size ≠ p.block from by omega)))
            have HB2 := Lib.hid (hbw.setCell (p := ⟨W5.heap.size, x, none⟩) (Nat.le_refl _) (.int .i64 (Bs.rowT g O k)))
            have HT2 := Lib.hid hrt.symm
            have i0 : (0 : Int) ≤ (k : Int) := by omega
            have i1 : (k : Int) < (O.length : Int) := by omega
            have i2 : (0 : Int) ≤ (x : Int) := by omega
            have i3 : (x : Int) < (g.length : Int) := by omega
            have d1 : decide ((x : Int) < 0) = false := by simp
            have d2 : decide ((x : Int) ≥ (g.length : Int)) = false := by simp; omega
            have d3 : decide ((g.length : Int) ≤ (x : Int)) = false := by simp; omega
            have d4 : decide (g.length ≤ x) = false := by simp; omega
            have hne1 : ¬ bo = W5.heap.size := by omega
            have hne2 : ¬ bg = W5.heap.size := by omega
            have hne3 : ¬ W5.heap.size = bo := by omega
            have hne4 : ¬ W5.heap.size = bg := by omega
            have hk8 : k ≤ 8 := by have := HOL.out; omega
            clear hA hA2 hO hbw hrt hrs hxv hN
            generalize g[x].time = tx at *
            generalize Bs.rowT g O k = rk at *
            have hw : IntKind.i64.wrap (rk + tx) = rk + tx := IntWalk.i64_in _ ⟨by omega, by omega⟩
            go_wp2
            go_roundw
            case rel => exact ⟨k + 1, by omega, by rw [← HT2.out], by go_num, HA2.out, HO2.out, HB2.out⟩
            case measure => simp [intOf]; omega
          · have hkn : k = g.length := by have := HOL.out; omega
            subst hkn
            have hri := hA.ri (by rw [HRL.out]; omega)
            have c9 := CI.out A2 c2 m (some ⟨W5.heap.size, 0, none⟩) g.length (Bs.rowS g O g.length) 1 _ _ _ _ wr (HG5.out.below hbw hs5) (Nat.le_trans hs5 hbw.size) (HM5.out.below hbw hs5) (Nat.le_trans hs5 hbw.size) hri (Nat.le_refl _) hm9 (by rw [HRL.out]; omega)
            rw [HROW.out, HRL.out] at c9
            have C9 := Lib.hid c9
            have HBw := Lib.hid (HB5.out.trans (hbw.mono (Nat.le_trans s1 hs5)))
            clear c9 hri hA hO hbw CI
            go_wp2_with fail
            with_reducible refine (C9.out).mono ?_
            rintro e w9 ⟨rfl, hb9⟩
            have HB9 := Lib.hid (HBw.out.trans (hb9.mono HBw.out.size))
            clear hb9 C9
            go_wp2
            go_ret
            exact ⟨rfl, HB9.out⟩
end Go.Proofs.Ytnbgekbfccejdab
