/-
  WALKS: the draws beside an exact memory: tasks that are done.
-/
import Derived.Test.YtcddjgiclnnilabX3
import Derived.Test.YtcddjgiclnnilabK4
namespace Go.Proofs.Ytcddjgiclnnilab
open Go.RowKit
theorem finL_len (g : List Bs.T) (d : List Int) (a : Int) : (Bs.finL g d a).length ≤ g.length := by
  unfold Bs.finL
  split
  · exact Bs.finC_len g d a
  · simp
theorem readyL_len (g : List Bs.T) (d : List Int) : (Bs.readyL g d).length ≤ g.length := by
  unfold Bs.readyL
  split
  · exact Bs.readyC_len g d
  · simp
set_option maxHeartbeats 3200000 in
theorem someDoneX (A : Option Addr) (c : Nat) (g : List Bs.T) (lo hi lor rb P : Nat) (w : World) (hs : RD w lor rb P) (hP : P ≤ 800000) (hg : RGs rb w lo hi A g) (hh : hi ≤ w.heap.size) (hg16 : g.length ≤ 16) :
    Calls Try.prog 66 #[.pointer (some ⟨rb, 0, none⟩), .slice A g.length c] w (SpX lor rb (P + 30) 100 w) := by
  have hrb := hs.lt
  have hal := Below.alloc (Below.refl w.heap.size w) (Nat.le_refl _) (.cells #[] 3)
  have HF0 := Lib.hid (Fx.of (rb := rb) hal)
  have HS0 := Lib.hid (hs.after hal)
  have HG := Lib.hid hg
  have c1 := pickX (g.length + 1) lor rb P _ HS0.out (by omega) (by omega)
  rw [show ((g.length + 1 : Nat) : Int) = (g.length : Int) + 1 from by omega] at c1
  have C1 := Lib.hid c1
  clear hs hal hg c1
  go_enter Try.func66, Try.ntmps66
  have hw : IntKind.i64.wrap ((g.length : Int) + 1) = (g.length : Int) + 1 := IntWalk.i64_in _ ⟨by omega, by omega⟩
  go_wp2_with fail
  refine (C1.out).mono ?_
  rintro e w1 ⟨⟨n0, rfl, hn0, _⟩, hs1, hf1⟩
  have hn0 := hn0 (by omega)
  have HS1 := Lib.hid hs1
  have HF1 := Lib.hid (HF0.out.trans hf1)
  clear hs1 hf1 C1 HF0 HS0 hw
  go_wp2
  go_loopw [5, 6, 7, 8, 9] (fun v n _ _ _ wr => ∃ (A1 : Option Addr) (c1 : Nat) (d : List Int) (j z : Nat), v = .slice A1 d.length c1 ∧ n = .int .i64 (z : Int) ∧ z + j = n0 ∧ d.length ≤ 16 ∧ RI wr w.heap.size wr.heap.size A1 d ∧ RD wr lor rb (P + 1 + j) ∧ Fx rb w wr) (fun _ n _ _ _ _ => (intOf n).toNat)
  case atStart => exact ⟨_, _, [], 0, n0, rfl, rfl, by omega, by simp, RI.nil, HS1.out, HF1.out⟩
  case round =>
    obtain ⟨A1, c1, d, j, z, rfl, rfl, hzj, hd16, hd, hs, hf⟩ := hrel
    have sr := hf.size
    have HD := Lib.hid hd
    have HS := Lib.hid hs
    have HF := Lib.hid hf
    clear hd hs hf HS1 HF1
    by_cases hz : z = 0
    · have d1 : decide ((0 : Int) < (z : Int)) = false := by simp [hz]
      have d1' : decide (0 < z) = false := by simp [hz]
      have C2 := Lib.hid (spoilX A1 c1 d lor rb (P + 1 + j) w.heap.size wr.heap.size 8 wr HS.out (by omega) HD.out (Nat.le_refl _) (by omega))
      clear hz
      go_wp2_with fail
      refine (C2.out).mono ?_
      rintro e w2 ⟨⟨A2, c2, l, rfl, hl, hlc, hcm, hlm⟩, hs2, hf2⟩
      have HL := Lib.hid (hl.more sr (Nat.le_refl _))
      have HS2 := Lib.hid (hs2.more (P' := P + 30) (by omega))
      have HF2 := Lib.hid (HF.out.trans hf2)
      clear hl hs2 hf2 C2
      go_wp2
      go_ret
      exact ⟨⟨A2, c2, l, rfl, HL.out, hlc, hcm, by omega⟩, HS2.out, HF2.out⟩
    · obtain ⟨R, hR⟩ : ∃ R, R = Bs.readyL g d := ⟨_, rfl⟩
      have d1 : decide ((0 : Int) < (z : Int)) = true := by simp; omega
      have d1' : decide (0 < z) = true := by simp; omega
      have HGr := Lib.hid (HG.out.fx HF.out hh)
      have c2 := ReadyTasksS_any A c g A1 c1 d lo hi w.heap.size wr.heap.size wr HGr.out.rg (Nat.le_trans hh sr) HD.out (Nat.le_refl _) (by omega) (by omega)
      have hrl := readyL_len g d
      rw [← hR] at c2 hrl
      have C2 := Lib.hid c2
      clear c2 hR
      obtain ⟨WR, rfl⟩ : ∃ WR, WR = wr := ⟨_, rfl⟩
      go_wp2_with fail
      refine (C2.out).mono ?_
      rintro e w2 hr2
      obtain ⟨A2, c2, rfl, q2, hb2, hlc2, hcm2⟩ := hr2.ri
      have s2 := hb2.size
      have HS2 := Lib.hid (HS.out.after hb2)
      have HF2 := Lib.hid (HF.out.trans (Fx.of hb2))
      have HD2 := Lib.hid ((HD.out.below hb2 (Nat.le_refl _)).more (Nat.le_refl _) s2)
      have HR2 := Lib.hid q2
      clear hr2 q2 hb2 C2 HD HS HF
      by_cases hR0 : R.length = 0
      · have e1 : decide ((0 : Int) < (R.length : Int)) = false := by simp [hR0]
        have e1' : decide (0 < R.length) = false := by simp [hR0]
        clear hR0
        go_wp2
        go_roundw
        case rel => exact ⟨A1, c1, d, j + 1, z - 1, rfl, by go_num, by omega, hd16, HD2.out, HS2.out.more (by omega), HF2.out⟩
        case measure => simp [intOf]; omega
      · have e1 : decide ((0 : Int) < (R.length : Int)) = true := by simp; omega
        have e1' : decide (0 < R.length) = true := by simp; omega
        have C3 := Lib.hid (pickX R.length lor rb (P + 1 + j) w2 HS2.out (by omega) (by omega))
        go_wp2_with fail
        refine (C3.out).mono ?_
        rintro e w3 ⟨⟨q, rfl, hq, _⟩, hs3, hf3⟩
        have hq := hq (by omega)
        have s3 := hf3.size
        obtain ⟨b, o, rfl, hbl, _, hc0⟩ := HR2.out.fx hf3 (by omega) (Nat.le_refl _) q hq
        have HS3 := Lib.hid hs3
        have HF3 := Lib.hid (HF2.out.trans hf3)
        have HD3 := Lib.hid ((HD2.out.fx hf3 hrb (Nat.le_refl _)).more (Nat.le_refl _) s3)
        have HG3 := Lib.hid (HG.out.fx HF3.out hh)
        clear hs3 hf3 C3 HD2 HR2 HS2 HF2 HGr
        have b0 : (0 : Int) ≤ (q : Int) := by omega
        have b1 : (q : Int) < (R.length : Int) := by omega
        generalize R[q] = x at *
        have c4 := FinishTaskS_any A c g A1 c1 d x lo hi w.heap.size w3.heap.size w3 HG3.out.rg (by omega) HD3.out (Nat.le_refl _) (by omega) (by omega)
        have hfl := finL_len g d x
        generalize Bs.finL g d x = L at *
        generalize Bs.finOk g d x = ok at *
        have C4 := Lib.hid c4
        clear c4
        go_wp2_with fail
        refine (C4.out).mono ?_
        rintro e w4 ⟨⟨A4, c4, rfl, ho4⟩, hb4⟩
        have s4 := hb4.size
        have HS4 := Lib.hid (HS3.out.after hb4)
        have HF4 := Lib.hid (HF3.out.trans (Fx.of hb4))
        have HL4 := Lib.hid (ho4.ri.more (lo' := w.heap.size) (by omega) (Nat.le_refl _))
        have HD4 := Lib.hid ((HD3.out.below hb4 (Nat.le_refl _)).more (Nat.le_refl _) s4)
        clear ho4 hb4 C4 HD3 HS3 HF3
        cases ok
        · go_wp2
          go_roundw
          case rel => exact ⟨A1, c1, d, j + 1, z - 1, rfl, by go_num, by omega, hd16, HD4.out, HS4.out.more (by omega), HF4.out⟩
          case measure => simp [intOf]; omega
        · go_wp2
          go_roundw
          case rel => exact ⟨A4, c4, L, j + 1, z - 1, rfl, by go_num, by omega, by omega, HL4.out, HS4.out.more (by omega), HF4.out⟩
          case measure => simp [intOf]; omega
end Go.Proofs.Ytcddjgiclnnilab
