/-
  WALKS: graphs without useless needs, of the model.
-/
import Derived.Test.YtoaakidapgbhhaaR93
import Derived.Test.YtoaakidapgbhhaaW135
namespace Go.Proofs.Ytoaakidapgbhhaa
open Go.RowKit
set_option maxHeartbeats 3200000 in
theorem WithoutUselessS_any (A : Option Addr) (c : Nat) (g : List Bs.T) (lo hi : Nat) (w : World) (h : RG w lo hi A g) (hh : hi ≤ w.heap.size) (hl : g.length ≤ 9223372036854775807) :
    Calls Try.prog 31 #[.slice A g.length c] w (RetT w (Bs.wuL g)) := by
  have hb0 : Below w.heap.size w (w.alloc (.cells #[] 29)) := (Below.refl _ _).alloc (Nat.le_refl _) _
  have q1 := validGraphS_any A c g lo hi (w.alloc (.cells #[] 29)) (h.below hb0 hh) (Nat.le_trans hh hb0.size) hl
  have HB0 := Lib.hid hb0
  cases hv : Bs.valid g
  · rw [hv] at q1
    have C1 := Lib.hid q1
    have HV := Lib.hid (Bs.wuL_no hv)
    clear q1 hv h hb0
    go_enter Try.func31, Try.ntmps31
    go_wp2_with fail
    with_reducible refine (C1.out).mono ?_
    rintro e w1 ⟨rfl, hb⟩
    have HB := Lib.hid (HB0.out.trans (hb.mono HB0.out.size))
    clear hb
    go_wp2
    go_ret
    exact RetT.nil HB.out HV.out
  rw [hv] at q1
  have C1 := Lib.hid q1
  have hF := valid_fine hv
  have h8 := Bs.fine_len hF
  have CU := Lib.hid (fun (a : Nat) (x : Int) (ha : a < g.length) W (hb : Below w.heap.size w W) => isUselessS_any A c g a x lo hi W (h.below hb hh) (Nat.le_trans hh hb.size) hv ha)
  have HT := Lib.hid (fun k (hk : k < g.length) => Bs.wuG_take hk)
  have HE := Lib.hid ((Bs.wuL_yes hv).trans (show Bs.wuG g = (Bs.wuG g).take g.length from by rw [List.take_of_length_le (by rw [Bs.wuG_len]; exact Nat.le_refl _)]))
  have HL8 := Lib.hid (fun a (ha : a < g.length) => Bs.fine_needs_len hF ha)
  have HNE := Lib.hid (fun a (ha : a < g.length) => Bs.need_eq ha)
  have HO0 := Lib.hid (OU.nil w w.heap.size (Nat.le_refl _))
  have HG := Lib.hid h
  clear q1 hv h hb0 hF
  go_enter Try.func31, Try.ntmps31
  go_wp2_with fail
  with_reducible refine (C1.out).mono ?_
  rintro e w1 ⟨rfl, hb⟩
  have HB1 := Lib.hid (HB0.out.trans (hb.mono HB0.out.size))
  have HO1 := Lib.hid (HO0.out.below hb (Nat.le_refl _))
  clear hb C1 HO0 HB0
  go_wp2
  go_loopw [3, 4] (fun vo i wr => ∃ (k : Nat) (A' : Option Addr) (c' : Nat) (rs : List RW), k ≤ g.length ∧ vo = .slice A' rs.length c' ∧ i = .int .i64 k ∧ OU wr w.heap.size A' c' rs ∧ TSc wr w.heap.size wr.heap.size rs ((Bs.wuG g).take k) ∧ Below w.heap.size w wr) (fun _ i _ => g.length - (intOf i).toNat)
  case atStart => exact ⟨0, _, _, [], Nat.zero_le _, rfl, rfl, HO1.out, TSc.nil _ HB1.out.size, HB1.out⟩
  case round =>
    clear HO1 HB1
    obtain ⟨k, A', c', rs, hk, rfl, rfl, hO, hT, hb⟩ := hrel
    have sr := hb.size
    obtain ⟨WR, rfl⟩ : ∃ WR, WR = wr := ⟨_, rfl⟩
    by_cases hlt : k < g.length
    · obtain ⟨b, o, N, cN, rfl, h1, h2, t0, t1, t2, t3, hlN, hcN, hN⟩ := (HG.out.below hb hh) k hlt
      have hrl := hT.len
      rw [List.length_take, Bs.wuG_len] at hrl
      have hr8 : rs.length ≤ 8 := by omega
      have hn8 := HL8.out k hlt
      have HNK := Lib.hid (HNE.out k hlt)
      have HPE := Lib.hid (show ∀ p, p < g[k].needs.length → Bs.keepP g k (p + 1) = Bs.keepP g k p ++ (if Bs.uslB g k ((Bs.need g k).getD p 0) then [] else [(Bs.need g k).getD p 0]) from fun p hp => by
        have hp' : p < (Bs.need g k).length := by rw [HNK.out]; exact hp
        rw [Bs.keepP_succ hp', show (Bs.need g k).getD p 0 = (Bs.need g k)[p] from by simp [hp']])
      have HALL := Lib.hid (show Bs.keepP g k g[k].needs.length = Bs.keepL g k from by rw [← Bs.keepP_all, HNK.out])
      have HPP := Lib.hid (fun p => show (Bs.keepP g k p).length ≤ 8 from by
        have h3 := List.length_filter_le (fun x => !Bs.uslB g k x) ((Bs.need g k).take p)
        have h5 : (Bs.need g k).length ≤ 8 := by rw [HNK.out]; omega
        rw [List.length_take] at h3
        unfold Bs.keepP
        omega)
      have HZ := Lib.hid (Bs.keepP_zero g k)
      have HTk := Lib.hid (HT.out k hlt)
      have HWT := Lib.hid (show Bs.wuT g k g[k] = { time := g[k].time, needs := Bs.keepL g k, pool := g[k].pool, units := g[k].units } from rfl)
      have hOlt := fun a (e : A' = some a) => show a.block < WR.heap.size from by
        subst e
        rcases hO.2 with ⟨hv, hn⟩ | ⟨b', cap, cur, hv, hb', hg, _⟩
        · cases hv
        · injection hv with hA _ _
          injection hA with hA
          rw [hA]
          exact (Array.getElem?_eq_some_iff.1 hg).1
      have HOL := Lib.hid hOlt
      have HN5 := Lib.hid (hN.below ((Below.refl WR.heap.size WR).alloc (Nat.le_refl _) (.cells #[.int .i64 g[k].time, .slice N g[k].needs.length cN, .int .i64 g[k].pool, .int .i64 g[k].units] 29)) (Nat.le_trans hh sr))
      have HBL := Lib.hid (Blk.new WR 29 #[.int .i64 g[k].time, .slice N g[k].needs.length cN, .int .i64 g[k].pool, .int .i64 g[k].units])
      have HB5 := Lib.hid (hb.alloc sr (.cells #[.int .i64 g[k].time, .slice N g[k].needs.length cN, .int .i64 g[k].pool, .int .i64 g[k].units] 29))
      have HO5 := Lib.hid (hO.alloc0 (.cells #[.int .i64 g[k].time, .slice N g[k].needs.length cN, .int .i64 g[k].pool, .int .i64 g[k].units] 29))
      have HT5 := Lib.hid (hT.alloc (.cells #[.int .i64 g[k].time, .slice N g[k].needs.length cN, .int .i64 g[k].pool, .int .i64 g[k].units] 29))
      have HSZ := Lib.hid (show (WR.alloc (.cells #[.int .i64 g[k].time, .slice N g[k].needs.length cN, .int .i64 g[k].pool, .int .i64 g[k].units] 29)).heap.size = WR.heap.size + 1 from by simp)
      have HNO := Lib.hid (OI.new (WR.alloc (.cells #[.int .i64 g[k].time, .slice N g[k].needs.length cN, .int .i64 g[k].pool, .int .i64 g[k].units] 29)) (WR.heap.size + 1) (by simp))
      rw [HSZ.out] at HNO
      have HBW := Lib.hid ((Below.refl (WR.heap.size + 1) (WR.alloc (.cells #[.int .i64 g[k].time, .slice N g[k].needs.length cN, .int .i64 g[k].pool, .int .i64 g[k].units] 29))).alloc (by simp) (.cells #[] 3))
      have i0 : (0 : Int) ≤ (k : Int) := by omega
      have i1 : (k : Int) < (g.length : Int) := by omega
      have hbw : b < WR.heap.size := by omega
      have hhs : hi ≤ WR.heap.size := Nat.le_trans hh sr
      clear hO hT hb hN HT HL8 HNE hOlt hrl HG
      go_wp2
      go_loopw [6, 7] (fun vo j wr2 => ∃ (p : Nat) (A2 : Option Addr) (c2 : Nat), p ≤ g[k].needs.length ∧ vo = .slice A2 (Bs.keepP g k p).length c2 ∧ j = .int .i64 p ∧ OI wr2 (WR.heap.size + 1) A2 c2 (Bs.keepP g k p) ∧ Below (WR.heap.size + 1) (WR.alloc (.cells #[.int .i64 g[k].time, .slice N g[k].needs.length cN, .int .i64 g[k].pool, .int .i64 g[k].units] 29)) wr2) (fun _ j _ => g[k].needs.length - (intOf j).toNat)
      case atStart => exact ⟨0, _, _, Nat.zero_le _, by rw [HZ.out]; rfl, rfl, by rw [HZ.out]; exact HNO.out, HBW.out⟩
      case round =>
        clear HNO HBW
        obtain ⟨p, A2, c2, hp, rfl, rfl, ho, hbw2⟩ := hrel
        have hq1 : wr.cell? ⟨WR.heap.size, 1, none⟩ = some (.slice N g[k].needs.length cN) := (HBL.out.below hbw2 (by omega)).cell 1
        have HBX := Lib.hid (HB5.out.trans (hbw2.mono (by omega)))
        have sx := HBX.out.size
        have sw := hbw2.size
        rw [HSZ.out] at sw
        have hpp := HPP.out p
        by_cases hpl : p < g[k].needs.length
        · obtain ⟨b3, o3, rfl, b3l, b3h, hc3'⟩ := HN5.out.at_ hpl
          have hc3 := (hbw2.cell (p := ⟨b3, o3 + p, none⟩) (by show b3 < _; omega)).trans hc3'
          have hPE := HPE.out p hpl
          have he : (Bs.need g k).getD p 0 = g[k].needs[p] := by rw [HNK.out]; simp [hpl]
          rw [he] at hPE
          have C6 := Lib.hid (CU.out k g[k].needs[p] hlt wr HBX.out)
          have HPE2 := Lib.hid hPE
          have HOo := Lib.hid ho
          have HBw := Lib.hid hbw2
          have j0 : (0 : Int) ≤ (p : Int) := by omega
          have j1 : (p : Int) < (g[k].needs.length : Int) := by omega
          clear hPE he ho hbw2 HPE HNK HPP CU hc3' HZ
          generalize g[k].needs[p] = x at *
          cases hu : Bs.uslB g k x
          · rw [hu] at C6 HPE2
            have HP2 := Lib.hid (show Bs.keepP g k p ++ [x] = Bs.keepP g k (p + 1) from by rw [HPE2.out, if_neg (by simp)])
            go_wp2_with fail
            with_reducible refine (C6.out).mono ?_
            rintro e w6 ⟨rfl, hb6⟩
            have s6 := hb6.size
            have hq2 := (hb6.cell (p := ⟨WR.heap.size, 1, none⟩) (by show WR.heap.size < _; omega)).trans hq1
            have hc4 := (hb6.cell (p := ⟨b3, o3 + p, none⟩) (by show b3 < _; omega)).trans hc3
            have HO6 := Lib.hid (HOo.out.below hb6 (Nat.le_refl _))
            have HB6 := Lib.hid (HBw.out.trans (hb6.mono sw))
            clear hb6 C6 HOo HBw hq1 hc3
            go_wp2_with (first
              | (at_builtin; refine push_int rfl _ _ rfl (WR.heap.size + 1) A2 c2 (Bs.keepP g k p) x rfl (HO6.out.alloc _) w6.heap.size 1 rfl (by simp [go_sem]) (by omega) (by simp; omega) ?_; intro A9 c9 w9 ho9 hb9 _; have HO9 := Lib.hid ho9; have HB9 := Lib.hid ((HB6.out.alloc (by omega) _).trans hb9); clear ho9 hb9))
            go_roundw
            case rel => exact ⟨p + 1, A9, c9, by omega, by rw [← HP2.out, List.length_append]; rfl, by go_num, by rw [← HP2.out]; exact HO9.out, HB9.out⟩
            case measure => simp [intOf]; omega
          · rw [hu] at C6 HPE2
            have HP2 := Lib.hid (show Bs.keepP g k p = Bs.keepP g k (p + 1) from by rw [HPE2.out, if_pos (by trivial), List.append_nil])
            go_wp2_with fail
            with_reducible refine (C6.out).mono ?_
            rintro e w6 ⟨rfl, hb6⟩
            have HO6 := Lib.hid (HOo.out.below hb6 (Nat.le_refl _))
            have HB6 := Lib.hid (HBw.out.trans (hb6.mono sw))
            clear hb6 C6 HOo HBw hq1 hc3
            go_wp2
            go_roundw
            case rel => exact ⟨p + 1, A2, c2, by omega, by rw [← HP2.out], by go_num, by rw [← HP2.out]; exact HO6.out, HB6.out⟩
            case measure => simp [intOf]; omega
        · obtain rfl : p = g[k].needs.length := by omega
          rw [HALL.out] at ho hpp
          have HBL6 := Lib.hid ((HBL.out.below hbw2 (by omega)).set_ 1 (.slice A2 (Bs.keepL g k).length c2))
          have HB6 := Lib.hid (HBX.out.setCell (p := ⟨WR.heap.size, 1, none⟩) sr (.slice A2 (Bs.keepL g k).length c2))
          have HO6 := Lib.hid ((HO5.out.below hbw2 (Nat.le_of_eq HSZ.out)).set_ (p := ⟨WR.heap.size, 1, none⟩) (.slice A2 (Bs.keepL g k).length c2) (fun a e => by have := HOL.out a e; show a.block ≠ WR.heap.size; omega))
          have HP6 := Lib.hid (ho.set_far (p := ⟨WR.heap.size, 1, none⟩) (.slice A2 (Bs.keepL g k).length c2) (by show WR.heap.size < _; omega))
          have HT6 := Lib.hid ((HT5.out.below hbw2 (Nat.le_of_eq HSZ.out)).set_far (p := ⟨WR.heap.size, 1, none⟩) (.slice A2 (Bs.keepL g k).length c2) (by show _ ≤ WR.heap.size; exact Nat.le_refl _))
          have mf := (HBL.out.below hbw2 (by omega)).frozen 1
          have HLT6 := Lib.hid (fun a (e : A2 = some a) => ho.blk_lt e)
          rw [HALL.out]
          have HALL2 := Lib.hid HALL.out
          clear ho hbw2 HPE HPP CU HALL HZ
          generalize Bs.keepL g k = P at *
          have c0 : (wr.setCell ⟨WR.heap.size, 1, none⟩ (.slice A2 P.length c2)).cell? ⟨WR.heap.size, 0, none⟩ = some (.int .i64 g[k].time) := HBL6.out.cell 0
          have c1 : (wr.setCell ⟨WR.heap.size, 1, none⟩ (.slice A2 P.length c2)).cell? ⟨WR.heap.size, 1, none⟩ = some (.slice A2 P.length c2) := HBL6.out.cell 1
          have c2' : (wr.setCell ⟨WR.heap.size, 1, none⟩ (.slice A2 P.length c2)).cell? ⟨WR.heap.size, 2, none⟩ = some (.int .i64 g[k].pool) := HBL6.out.cell 2
          have c3 : (wr.setCell ⟨WR.heap.size, 1, none⟩ (.slice A2 P.length c2)).cell? ⟨WR.heap.size, 3, none⟩ = some (.int .i64 g[k].units) := HBL6.out.cell 3
          have hs6 : (wr.setCell ⟨WR.heap.size, 1, none⟩ (.slice A2 P.length c2)).heap.size = wr.heap.size := by simp [World.setCell]
          have HS6 := Lib.hid hs6
          have HNC := Lib.hid (new_cellsV (wr.setCell ⟨WR.heap.size, 1, none⟩ (.slice A2 P.length c2)) ⟨{ time := g[k].time, needs := P, pool := g[k].pool, units := g[k].units }, A2, c2⟩)
          rw [hs6] at HNC
          have HO7 := Lib.hid (HO6.out.alloc0 (.cells #[.int .i64 g[k].time, .slice A2 P.length c2, .int .i64 g[k].pool, .int .i64 g[k].units] 29))
          have HT7 := Lib.hid (((HT6.out.more (show WR.heap.size ≤ WR.heap.size + 1 by omega)).snoc (t := { time := g[k].time, needs := P, pool := g[k].pool, units := g[k].units }) (N := A2) (c := c2) HP6.out (h2 := wr.heap.size) sw HLT6.out).alloc (.cells #[.int .i64 g[k].time, .slice A2 P.length c2, .int .i64 g[k].pool, .int .i64 g[k].units] 29))
          have HB7 := Lib.hid (HB6.out.alloc (by rw [HS6.out]; exact sx) (.cells #[.int .i64 g[k].time, .slice A2 P.length c2, .int .i64 g[k].pool, .int .i64 g[k].units] 29))
          have HS7 := Lib.hid (show ((wr.setCell ⟨WR.heap.size, 1, none⟩ (.slice A2 P.length c2)).alloc (.cells #[.int .i64 g[k].time, .slice A2 P.length c2, .int .i64 g[k].pool, .int .i64 g[k].units] 29)).heap.size = wr.heap.size + 1 from by rw [World.size_alloc, HS6.out])
          have hpl : [({ t := { time := g[k].time, needs := P, pool := g[k].pool, units := g[k].units }, N := A2, c := c2 } : RW)].length = 1 := rfl
          clear HO5 HT5 HB5 HN5 HBL HBL6 HO6 HP6 HT6 HB6 hs6 HBX
          go_wp2_with (first
            | (at_builtin; refine push_rowsG rfl _ _ rfl w.heap.size A' c' rs [⟨{ time := g[k].time, needs := P, pool := g[k].pool, units := g[k].units }, A2, c2⟩] rfl HO7.out (by simp) wr.heap.size 0 1 rfl HNC.out (by simp; omega) (by rw [HS7.out]; omega) ?_; intro A9 c9 w9 ho9 hb9 hg9 s9; have HO9 := Lib.hid ho9; have HT9 := Lib.hid ((HT7.out.kept HO7.out hg9).more (show wr.heap.size ≤ w9.heap.size from by rw [HS7.out] at s9; omega)); have HB9 := Lib.hid (HB7.out.trans hb9); clear ho9 hb9 hg9))
          go_roundw
          case rel => exact ⟨k + 1, A9, c9, rs ++ [⟨{ time := g[k].time, needs := P, pool := g[k].pool, units := g[k].units }, A2, c2⟩], by omega, by rw [List.length_append]; rfl, by go_num, HO9.out, by rw [HTk.out, HWT.out]; exact HT9.out, HB9.out⟩
          case measure => simp [intOf]; omega
    · obtain rfl : k = g.length := by omega
      have HO := Lib.hid hO
      have HT := Lib.hid hT
      have HB := Lib.hid hb
      clear hO hT hb
      go_wp2
      go_ret
      rw [HE.out]
      exact ⟨⟨A', c', rs, rfl, HO.out, HT.out⟩, HB.out⟩
end Go.Proofs.Ytoaakidapgbhhaa
