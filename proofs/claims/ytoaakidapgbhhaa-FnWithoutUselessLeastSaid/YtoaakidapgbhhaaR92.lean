/-
  WALKS: stages of the model: the tasks of all stages.
-/
import Derived.Test.YtoaakidapgbhhaaR91
import Derived.Test.YtoaakidapgbhhaaW131
namespace Go.Proofs.Ytoaakidapgbhhaa
open Go.RowKit
theorem stg_pick (g : List Bs.T) (s : Nat) : Bs.stgS g s = Bs.pick g.length fun i => Bs.gi (Bs.levC g) i == (s : Int) := rfl
set_option maxHeartbeats 1600000 in
theorem StagesOfS_any (A : Option Addr) (c : Nat) (g : List Bs.T) (lo hi : Nat) (w : World) (h : RG w lo hi A g) (hh : hi ≤ w.heap.size) (hl : g.length ≤ 9223372036854775807) :
    Calls Try.prog 21 #[.slice A g.length c] w (RetOS w (Bs.stgL g)) := by
  have hb0 : Below w.heap.size w (w.alloc (.cells #[] 25)) := (Below.refl _ _).alloc (Nat.le_refl _) _
  have q1 := validGraphS_any A c g lo hi (w.alloc (.cells #[] 25)) (h.below hb0 hh) (Nat.le_trans hh hb0.size) hl
  have HB0 := Lib.hid hb0
  cases hv : Bs.valid g
  · rw [hv] at q1
    have C1 := Lib.hid q1
    have HV := Lib.hid (Bs.stgL_no hv)
    clear q1 hv h hb0
    go_enter Try.func21, Try.ntmps21
    go_wp2_with fail
    with_reducible refine (C1.out).mono ?_
    rintro e w1 ⟨rfl, hb⟩
    have HB := Lib.hid (HB0.out.trans (hb.mono HB0.out.size))
    clear hb
    go_wp2
    go_ret
    exact RetOS.nil HB.out HV.out
  rw [hv] at q1
  have C1 := Lib.hid q1
  have h8 := Bs.fine_len (valid_fine hv)
  have hll := Bs.levC_len hv
  have C2 := Lib.hid (fun W (hb : Below w.heap.size w W) => levelsS_any A c g lo hi W (h.below hb hh) (Nat.le_trans hh hb.size) (valid_fine hv))
  have HE := Lib.hid (Bs.stgL_yes hv)
  have HPS := Lib.hid (fun s => Bs.stgP_succ g s)
  have HSP := Lib.hid (fun s => stg_pick g s)
  have HPL := Lib.hid (fun s => show (Bs.stgP g s).length ≤ s from by
    unfold Bs.stgP
    exact Nat.le_trans (List.length_filter_le _ _) (by simp [Bs.stgK]))
  have HO0 := Lib.hid (OS.new w w.heap.size (Nat.le_refl _))
  clear q1 hv h hb0
  generalize hLV : Bs.levC g = LV at *
  clear hLV
  go_enter Try.func21, Try.ntmps21
  go_wp2_with fail
  with_reducible refine (C1.out).mono ?_
  rintro e w1 ⟨rfl, hb⟩
  have HB1 := Lib.hid (HB0.out.trans (hb.mono HB0.out.size))
  have HO1 := Lib.hid (HO0.out.below hb (Nat.le_refl _))
  clear hb C1 HO0 HB0
  have C3 := Lib.hid (C2.out w1 HB1.out)
  clear C2
  go_wp2_with fail
  with_reducible refine (C3.out).mono ?_
  rintro e w2 ⟨⟨AL, cL, rfl, ho2⟩, hb2⟩
  have HL2 := Lib.hid (ho2.base HB1.out.size)
  have HO2 := Lib.hid (HO1.out.below hb2 (Nat.le_refl _))
  have HB2 := Lib.hid (HB1.out.trans (hb2.mono HB1.out.size))
  clear ho2 hb2 HO1 HB1 C3
  go_wp2
  go_loopw [3, 5] (fun vo iv wr => ∃ (s : Nat) (A' : Option Addr) (c' : Nat) (vs : List Value), vo = .slice A' vs.length c' ∧ iv = .int .i64 s ∧ s ≤ g.length ∧ OS wr w.heap.size A' c' vs ∧ SLs wr w.heap.size vs (Bs.stgP g s) ∧ OI wr w.heap.size AL cL LV ∧ Below w.heap.size w wr) (fun _ iv _ => g.length - (intOf iv).toNat)
  case atStart => exact ⟨0, _, _, [], rfl, rfl, Nat.zero_le _, HO2.out, SLs.nil _ _, HL2.out, HB2.out⟩
  case round =>
    clear HO2 HB2 HL2
    obtain ⟨s, A', c', vs, rfl, rfl, hs, hO, hS, hL, hb⟩ := hrel
    have sr := hb.size
    by_cases hlt : s < g.length
    · have hvl : vs.length ≤ 8 := by have := HPL.out s; have := hS.1; omega
      have HO := Lib.hid hO
      have HS := Lib.hid hS
      have HL := Lib.hid hL
      have HB := Lib.hid hb
      have HPSs := Lib.hid (HPS.out s)
      have HSPs := Lib.hid (HSP.out s)
      have HN := Lib.hid (OI.new wr wr.heap.size (Nat.le_refl _))
      have HW := Lib.hid ((Below.refl wr.heap.size wr).alloc (Nat.le_refl _) (.cells #[] 3))
      clear hO hS hL hb HPS HSP HPL
      generalize hP : Bs.stgS g s = P at *
      clear hP
      obtain ⟨WR, rfl⟩ : ∃ WR, WR = wr := ⟨_, rfl⟩
      go_wp2
      go_loopw [6, 7] (fun lv jv wr2 => ∃ (j : Nat) (A2 : Option Addr) (c2 : Nat) (l : List Int), l = Bs.pick j (fun i => Bs.gi LV i == (s : Int)) ∧ lv = .slice A2 l.length c2 ∧ jv = .int .i64 j ∧ j ≤ g.length ∧ OI wr2 WR.heap.size A2 c2 l ∧ Below WR.heap.size WR wr2) (fun _ jv _ => g.length - (intOf jv).toNat)
      case atStart => exact ⟨0, _, _, [], rfl, rfl, rfl, Nat.zero_le _, HN.out, HW.out⟩
      case round =>
        clear HN HW
        obtain ⟨j, A2, c2, l, hle, rfl, rfl, hj, ho, hbw⟩ := hrel
        have sw := hbw.size
        have hl8 : l.length ≤ j := by rw [hle]; exact Bs.pick_len _ _
        by_cases hjl : j < g.length
        · have hjv : j < LV.length := by omega
          obtain ⟨b, o, rfl, _, _, hc⟩ := RI.at_ ((HL.out.below hbw (Nat.le_refl _)).ri) (k := j) hjv
          rw [show LV[j] = Bs.gi LV j from by unfold Bs.gi; simp [hjv]] at hc
          have HPK := Lib.hid (Bs.pick_succ j (fun i => Bs.gi LV i == (s : Int)))
          have HLE := Lib.hid hle
          have HOo := Lib.hid ho
          have HBw := Lib.hid hbw
          generalize Bs.gi LV j = x at *
          have j0 : (0 : Int) ≤ (j : Int) := by omega
          have j1 : (j : Int) < (LV.length : Int) := by omega
          clear hle ho hbw
          cases hq : (x == (s : Int))
          · have HQ := Lib.hid (show l = Bs.pick (j + 1) (fun i => Bs.gi LV i == (s : Int)) from by rw [HPK.out, hq, if_neg (by simp)]; exact HLE.out)
            go_wp2
            go_roundw
            case rel => exact ⟨j + 1, A2, c2, l, HQ.out, rfl, by go_num, by omega, HOo.out, HBw.out⟩
            case measure => simp [intOf]; omega
          · have HQ := Lib.hid (show l ++ [(j : Int)] = Bs.pick (j + 1) (fun i => Bs.gi LV i == (s : Int)) from by rw [HPK.out, hq, if_pos rfl, HLE.out])
            go_wp2_with (first
              | (at_builtin; refine push_int rfl _ _ rfl WR.heap.size A2 c2 l (j : Int) rfl (HOo.out.alloc _) wr.heap.size 1 rfl (by simp [go_sem]) (by omega) (by simp; omega) ?_; intro A6 c6 w6 ho6 hb6 _; have HO6 := Lib.hid ho6; have HB6 := Lib.hid ((HBw.out.alloc sw _).trans hb6); clear ho6 hb6))
            go_roundw
            case rel => exact ⟨j + 1, A6, c6, l ++ [(j : Int)], HQ.out, by rw [List.length_append]; rfl, by go_num, by omega, HO6.out, HB6.out⟩
            case measure => simp [intOf]; omega
        · obtain rfl : j = g.length := by omega
          rw [← HSPs.out] at hle
          subst hle
          have HO3 := Lib.hid (HO.out.below hbw (Nat.le_refl _))
          have HS3 := Lib.hid (HS.out.below hbw (Nat.le_refl _))
          have HL3 := Lib.hid (HL.out.below hbw (Nat.le_refl _))
          have HB3 := Lib.hid (HB.out.trans (hbw.mono sr))
          have HV := Lib.hid (ho.base sr)
          clear ho hbw HO HS HL HB
          by_cases hp : 0 < l.length
          · have hq : decide (0 < (l.length : Int)) = true := decide_eq_true (by omega)
            have HPS2 := Lib.hid (show Bs.stgP g (s + 1) = Bs.stgP g s ++ [l] from by rw [HPSs.out, if_pos hp])
            have s3 := HB3.out.size
            have HO4 := Lib.hid (HO3.out.alloc (.cells #[.slice A2 l.length c2] 25))
            have HS4 := Lib.hid (HS3.out.alloc (.cells #[.slice A2 l.length c2] 25))
            have HL4 := Lib.hid (HL3.out.alloc (.cells #[.slice A2 l.length c2] 25))
            have HB4 := Lib.hid (HB3.out.alloc s3 (.cells #[.slice A2 l.length c2] 25))
            have HU4 := Lib.hid (OS.one wr w.heap.size s3 (.slice A2 l.length c2))
            have HV4 := Lib.hid ((SLs.one HV.out).alloc (.cells #[.slice A2 l.length c2] 25))
            have HONE := Lib.hid (SLs.one HV.out).oneCell
            clear HO3 HS3 HL3 HB3
            go_wp2_with (first
              | (at_builtin; refine push_vs rfl _ _ rfl w.heap.size A' c' vs [.slice A2 l.length c2] rfl HO4.out (some ⟨wr.heap.size, 0, none⟩) 1 w.heap.size rfl HU4.out HONE.out (by simp; omega) (by simp; omega) ?_; intro A6 c6 w6 ho6 hb6 hg6 s6; have HO6 := Lib.hid ho6; have HS6 := Lib.hid ((HS4.out.kept HO4.out hg6).append (HV4.out.kept HO4.out hg6)); have HL6 := Lib.hid (HL4.out.kept hg6 (OI.ne_os HL4.out HO4.out)); have HB6 := Lib.hid (HB4.out.trans hb6); clear ho6 hb6 hg6))
            go_roundw
            case rel => exact ⟨s + 1, A6, c6, vs ++ [.slice A2 l.length c2], by rw [List.length_append]; rfl, by go_num, by omega, HO6.out, by rw [HPS2.out]; exact HS6.out, HL6.out, HB6.out⟩
            case measure => simp [intOf]; omega
          · have hq : decide (0 < (l.length : Int)) = false := decide_eq_false (by omega)
            have HPS2 := Lib.hid (show Bs.stgP g (s + 1) = Bs.stgP g s from by rw [HPSs.out, if_neg hp, List.append_nil])
            go_wp2
            go_roundw
            case rel => exact ⟨s + 1, A', c', vs, rfl, by go_num, by omega, HO3.out, by rw [HPS2.out]; exact HS3.out, HL3.out, HB3.out⟩
            case measure => simp [intOf]; omega
    · obtain rfl : s = g.length := by omega
      have HO := Lib.hid hO
      have HS := Lib.hid hS
      have HB := Lib.hid hb
      clear hO hS hb hL
      go_wp2
      go_ret
      rw [HE.out]
      exact ⟨⟨A', c', vs, rfl, HO.out, HS.out⟩, HB.out⟩
end Go.Proofs.Ytoaakidapgbhhaa
