/-
  WALKS: the least time, of the model.
-/
import Derived.Test.YtgpmnfnliifegaaK15
import Derived.Test.YtgpmnfnliifegaaW56
namespace Go.Proofs.Ytgpmnfnliifegaa
open Go.RowKit
set_option maxHeartbeats 1600000 in
theorem LeastTimeS_any (A : Option Addr) (c : Nat) (g : List Bs.T) (A1 : Option Addr) (c1 : Nat) (m : List Int) (wk : Int) (lo hi l1 h1 : Nat) (w : World) (h : RG w lo hi A g) (hh : hi ≤ w.heap.size) (hm : RI w l1 h1 A1 m) (hh1 : h1 ≤ w.heap.size) (hl : g.length ≤ 9223372036854775807) (hml : m.length ≤ 9223372036854775807) :
    Calls Try.prog 25 #[.slice A g.length c, .slice A1 m.length c1, .int .i64 wk] w fun e w' => e = .returned (.int .i64 (leastL g m wk)) ∧ Below w.heap.size w w' := by
  have q1 := validGraphS_any A c g lo hi w h hh hl
  have q2 := fun W (hb : Below w.heap.size w W) => validRoom_any A1 c1 m l1 h1 W (hm.below hb hh1) hml
  have q3 := fun W => inRange_any wk 1 4 W
  cases hv : Bs.valid g
  · rw [hv] at q1
    have C1 := Lib.hid q1
    have HV := Lib.hid (leastL_no (Bs.canV_no1 (m := m) (wk := wk) hv))
    clear q1 q2 q3 hv h hm
    go_enter Try.func25, Try.ntmps25
    go_wp2_with fail
    with_reducible refine (C1.out).mono ?_
    rintro e w1 ⟨rfl, hb⟩
    have HB := Lib.hid hb
    clear hb
    go_wp2
    go_ret
    exact ⟨ret_int HV.out.symm, HB.out⟩
  rw [hv] at q1
  have C1 := Lib.hid q1
  cases hr : Bs.roomOk m
  · rw [hr] at q2
    have C2 := Lib.hid q2
    have HV := Lib.hid (leastL_no (Bs.canV_no2 (g := g) (wk := wk) hr))
    clear q1 q2 q3 hv hr h hm
    go_enter Try.func25, Try.ntmps25
    go_wp2_with fail
    with_reducible refine (C1.out).mono ?_
    rintro e w1 ⟨rfl, hb⟩
    have HB := Lib.hid hb
    clear hb
    go_wp2_with fail
    with_reducible refine (C2.out _ HB.out).mono ?_
    rintro e w2 ⟨rfl, rfl⟩
    go_wp2
    go_ret
    exact ⟨ret_int HV.out.symm, HB.out⟩
  rw [hr] at q2
  have C2 := Lib.hid q2
  cases hwk : decide (1 ≤ wk ∧ wk ≤ 4)
  · rw [hwk] at q3
    have C3 := Lib.hid q3
    have HV := Lib.hid (leastL_no (Bs.canV_no3 (g := g) (m := m) hwk))
    clear q1 q2 q3 hv hr hwk h hm
    go_enter Try.func25, Try.ntmps25
    go_wp2_with fail
    with_reducible refine (C1.out).mono ?_
    rintro e w1 ⟨rfl, hb⟩
    have HB := Lib.hid hb
    clear hb
    go_wp2_with fail
    with_reducible refine (C2.out _ HB.out).mono ?_
    rintro e w2 ⟨rfl, rfl⟩
    go_wp2_with fail
    with_reducible refine (C3.out _).mono ?_
    rintro e w2 ⟨rfl, rfl⟩
    go_wp2
    go_ret
    exact ⟨ret_int HV.out.symm, HB.out⟩
  rw [hwk] at q3
  have C3 := Lib.hid q3
  have hcan := Bs.canV_yes hv hr hwk
  have HV := Lib.hid (leastL_yes hcan)
  obtain ⟨hw1, hw4⟩ : 1 ≤ wk ∧ wk ≤ 4 := by simpa using hwk
  have hF := valid_fine hv
  have h8 := Bs.fine_len hF
  have hm3 := Bs.roomOk_len hr
  have C5 := Lib.hid (fun W (hb : Below w.heap.size w W) => longestS_any A c g lo hi W (h.below hb hh) (Nat.le_trans hh hb.size) hv)
  have C4 := Lib.hid (fun (p r : Int) W (hb : Below w.heap.size w W) => PoolTimeS_any A c g p r lo hi W (h.below hb hh) (Nat.le_trans hh hb.size) hl)
  have hsb := Bs.sumT_b hF g.length (Nat.le_refl _)
  rw [List.take_length] at hsb
  have hsb2 : 0 ≤ Bs.sumT g ∧ Bs.sumT g ≤ 160 := ⟨hsb.1, by have h1 := hsb.2; unfold Bs.sumT; omega⟩
  have HSB2 := Lib.hid hsb2
  have HST := Lib.hid (fun k hk => Bs.sumZ_takeT g Bs.T.time k hk)
  have HSB := Lib.hid (fun k hk => Bs.sumT_b hF k hk)
  have HTT := Lib.hid (fun i (hi : i < g.length) => Bs.fine_time' hF hi)
  have HL0 := Lib.hid (show leastK g m wk 0 = max (longC g) ((Bs.sumT g + wk - 1) / wk) from rfl)
  have HLK := Lib.hid (fun k => show leastK g m wk (k + 1) = max (leastK g m wk k) (Bs.poolT g (k : Nat) (Bs.giZ m k)) from rfl)
  have HM := Lib.hid hm
  have HG := Lib.hid h
  have HM3 := Lib.hid hm3
  clear q1 q2 q3 hv hr hwk h hm hcan hF hsb hsb2 hl hml hm3
  go_enter Try.func25, Try.ntmps25
  go_wp2_with fail
  with_reducible refine (C1.out).mono ?_
  rintro e w1 ⟨rfl, hb⟩
  have HB := Lib.hid hb
  clear hb
  go_wp2_with fail
  with_reducible refine (C2.out _ HB.out).mono ?_
  rintro e w2 ⟨rfl, rfl⟩
  go_wp2_with fail
  with_reducible refine (C3.out _).mono ?_
  rintro e w2 ⟨rfl, rfl⟩
  clear C1 C2 C3
  go_wp2
  go_loopw [7, 8] (fun s i wr => ∃ (k : Nat) (t : Int), k ≤ g.length ∧ s = .int .i64 t ∧ i = .int .i64 k ∧ t = Bs.sumZ ((g.take k).map Bs.T.time) ∧ Below w.heap.size w wr) (fun _ i _ => g.length - (intOf i).toNat)
  case atStart => exact ⟨0, 0, Nat.zero_le _, rfl, rfl, rfl, HB.out⟩
  case round =>
    obtain ⟨k, t, hk, rfl, rfl, ht, hb0⟩ := hrel
    have HB0 := Lib.hid hb0
    clear hb0 HB
    by_cases hlt : k < g.length
    · obtain ⟨bg, og, N, cN, rfl, _, _, k0, k1, k2, k3, hnc, hcN, hN⟩ := (HG.out.below HB0.out hh) k hlt
      have hst := HST.out k hlt
      rw [← ht] at hst
      have htb := HSB.out k hk
      rw [← ht] at htb
      have htt := HTT.out k hlt
      have H1 := Lib.hid hst
      have d1 : (k : Int) < (g.length : Int) := by omega
      clear hN hnc ht hst
      generalize g[k].time = tv at *
      have hw1 : IntKind.i64.wrap (t + tv) = t + tv := IntWalk.i64_in _ ⟨by omega, by omega⟩
      go_wp2
      go_roundw
      case rel => exact ⟨k + 1, t + tv, by omega, by first | rfl | rw [hw1], by go_num, H1.out.symm, HB0.out⟩
      case measure => simp [intOf]; omega
    · have e : g.take k = g := List.take_of_length_le (by omega)
      rw [e] at ht
      have hts : t = Bs.sumT g := ht
      have hsb2 := HSB2.out
      rw [← hts] at hsb2
      have hl0 := HL0.out
      rw [← hts] at hl0
      have HX1 := Lib.hid (show Below w.heap.size w wr.drew from HB0.out.drewN 1)
      have C6 := Lib.hid (C5.out _ HX1.out)
      have hq : (wk == 0) = false := by rw [beq_eq_false_iff_ne]; omega
      have hwk0 : ¬ wk = 0 := by omega
      have hx1 : IntKind.i64.wrap (t + wk) = t + wk := IntWalk.i64_in _ ⟨by omega, by omega⟩
      have hx2 : IntKind.i64.wrap (t + wk - 1) = t + wk - 1 := IntWalk.i64_in _ ⟨by omega, by omega⟩
      have e2 : Int.tdiv (t + wk - 1) wk = (t + wk - 1) / wk := Int.tdiv_eq_ediv_of_nonneg (by omega)
      have hdb : 0 ≤ (t + wk - 1) / wk ∧ (t + wk - 1) / wk ≤ 1000 := ⟨Int.ediv_nonneg (by omega) (by omega), Int.le_trans (Int.ediv_le_self _ (by omega)) (by omega)⟩
      have hx3 : IntKind.i64.wrap ((t + wk - 1) / wk) = (t + wk - 1) / wk := IntWalk.i64_in _ ⟨by omega, by omega⟩
      have HL := Lib.hid hl0
      clear ht e hts hl0 HL0 C5 HTT HSB HST HSB2
      generalize longC g = lg at *
      go_wp2_with fail
      go_region_law (go_simp; (go_at_call 63; (with_reducible refine (C6.out).mono ?_); rintro e w5 ⟨rfl, hb5⟩; have HB5 := Lib.hid (HX1.out.trans (hb5.mono HX1.out.size)); clear hb5))
      all_goals
        clear C6 HX1
        go_wp2
      all_goals
        go_loopw [9, 10] (fun s i wr => ∃ (k : Nat) (t : Int), k ≤ 3 ∧ s = .int .i64 t ∧ i = .int .i64 k ∧ t = leastK g m wk k ∧ Below w.heap.size w wr) (fun _ i _ => 3 - (intOf i).toNat)
        case atStart => exact ⟨0, _, by omega, rfl, rfl, by rw [HL.out]; first | rfl | (split <;> omega) | omega, HB5.out⟩
        case round =>
          obtain ⟨k, t, hk, rfl, rfl, ht, hb⟩ := hrel
          clear hx1 hx2 e2 hdb hx3
          by_cases hlt : k < 3
          · have hml3 : k < m.length := by have := HM3.out; omega
            have hmlz : (k : Int) < (m.length : Int) := by omega
            obtain ⟨b, o, rfl, _, _, hc⟩ := (HM.out.below hb hh1).at_ hml3
            rw [← Bs.giZ_at hml3] at hc
            have hst := HLK.out k
            rw [← ht] at hst
            have C7 := Lib.hid (C4.out (k : Int) (Bs.giZ m k) wr hb)
            have H1 := Lib.hid hst
            have HB1 := Lib.hid hb
            have i0 : (0 : Int) ≤ (k : Int) := by omega
            clear hst hb ht C4
            generalize Bs.giZ m k = mk at *
            generalize Bs.poolT g (k : Nat) mk = y at *
            go_wp2_with fail
            with_reducible refine (C7.out).mono ?_
            rintro e w6 ⟨rfl, hb6⟩
            have HB6 := Lib.hid (HB1.out.trans (hb6.mono HB1.out.size))
            clear hb6 C7
            go_wp2
            all_goals
              go_roundw
              case rel => exact ⟨k + 1, max t y, by omega, by first | rfl | (congr 1; split <;> omega) | (congr 1; omega), by go_num, H1.out.symm, HB6.out⟩
              case measure => simp [intOf]; omega
          · obtain rfl : k = 3 := by omega
            have HVT := Lib.hid (show t = leastL g m wk from by rw [HV.out, ht])
            clear ht
            go_wp2
            go_ret
            exact ⟨ret_int HVT.out, hb⟩
end Go.Proofs.Ytgpmnfnliifegaa
