/-
  WALKS: used units, what runs together, of the program.
-/
import Derived.Test.YtjahmejmkijkaaaW36
namespace Go.Proofs.Ytjahmejmkijkaaa
open Go.RowKit
theorem used_list (g : List Bs.T) (r : List Int) (h : Bs.valid g = true) (h2 : Bs.inG g r = true) : Bs.usedL g r = [Bs.usedC g r 0, Bs.usedC g r 1, Bs.usedC g r 2] := by
  unfold Bs.usedL
  rw [h, h2]
  simp [List.range_succ]
set_option maxHeartbeats 1600000 in
theorem RunsTogether_any (A : Option Addr) (c : Nat) (g : List Bs.T) (A1 : Option Addr) (c1 : Nat) (m : List Int) (A' : Option Addr) (c' : Nat) (r : List Int) (lo hi l1 h1 lo' hi' : Nat) (w : World) (h : RG w lo hi A g) (hh : hi ≤ w.heap.size) (hm : RI w l1 h1 A1 m) (hh1 : h1 ≤ w.heap.size) (h' : RI w lo' hi' A' r) (hh' : hi' ≤ w.heap.size) (hl : g.length ≤ 9223372036854775807) (hml : m.length ≤ 9223372036854775807) (hr : r.length ≤ 9223372036854775807) :
    Calls Try.prog 100 #[.slice A g.length c, .slice A1 m.length c1, .slice A' r.length c'] w fun e w' => e = .returned (.bool (Bs.runOk g m r)) ∧ Below w.heap.size w w' := by
  have q1 := ValidGraph_any A c g lo hi w h hh hl
  cases hv : Bs.valid g
  · rw [hv] at q1
    have C1 := Lib.hid q1
    have HV := Lib.hid (runOk_no1 (m := m) (r := r) hv)
    clear q1 hv h h' hm
    go_enter Try.func100, Try.ntmps100
    go_wp2_with fail
    refine (C1.out).mono ?_
    rintro e w1 ⟨rfl, hb⟩
    have HB := Lib.hid hb
    clear hb
    go_wp2
    go_ret
    exact ⟨ret_bool HV.out.symm, HB.out⟩
  · have hF := valid_fine hv
    have h8 := Bs.fine_len hF
    have q2 := fun W (hb : Below w.heap.size w W) => ValidRoom_same A1 c1 m l1 h1 W (hm.below hb hh1) hml
    have q3 := fun W (hb : Below w.heap.size w W) => ascendingTasks_any A g.length c A' c' r lo' hi' W (by omega) (h'.below hb hh') hr
    rw [asc_flip] at q3
    rw [hv] at q1
    have C1 := Lib.hid q1
    cases hok : Bs.roomOk m
    · rw [hok] at q2
      have C2 := Lib.hid q2
      have HV := Lib.hid (runOk_no2 (g := g) (r := r) hok)
      clear q1 q2 q3 hv h h' hm hok
      go_enter Try.func100, Try.ntmps100
      go_wp2_with fail
      refine (C1.out).mono ?_
      rintro e w1 ⟨rfl, hb⟩
      have HB := Lib.hid hb
      clear hb
      go_wp2_with fail
      refine (C2.out _ HB.out).mono ?_
      rintro e w2 ⟨rfl, rfl⟩
      go_wp2
      go_ret
      exact ⟨ret_bool HV.out.symm, HB.out⟩
    · rw [hok] at q2
      have C2 := Lib.hid q2
      cases ha : Bs.inG g r
      · rw [ha] at q3
        have C3 := Lib.hid q3
        have HV := Lib.hid (runOk_no3 (m := m) ha)
        clear q1 q2 q3 hv h h' hm hok ha
        go_enter Try.func100, Try.ntmps100
        go_wp2_with fail
        refine (C1.out).mono ?_
        rintro e w1 ⟨rfl, hb⟩
        have HB := Lib.hid hb
        clear hb
        go_wp2_with fail
        refine (C2.out _ HB.out).mono ?_
        rintro e w2 ⟨rfl, rfl⟩
        go_wp2_with fail
        refine (C3.out _ HB.out).mono ?_
        rintro e w2 ⟨rfl, rfl⟩
        go_wp2
        go_ret
        exact ⟨ret_bool HV.out.symm, HB.out⟩
      · rw [ha] at q3
        have C3 := Lib.hid q3
        have hrl := Bs.inG_len ha
        have hm3 := Bs.roomOk_len hok
        have q4 := fun W (hb : Below w.heap.size w W) => countUnits_any A c g A' c' r lo hi lo' hi' W (h.below hb hh) (Nat.le_trans hh hb.size) (h'.below hb hh') (Nat.le_trans hh' hb.size) hF (Bs.inG_mem ha) (by omega)
        have HV := Lib.hid (show Bs.runOk g m r = fit3 (Bs.usedC g r 0) (Bs.usedC g r 1) (Bs.usedC g r 2) m from by rw [runOk_at hv hok ha, fits_eq])
        have C5 := Lib.hid (fun (x0 x1 x2 n : Int) W (hb : Below w.heap.size w W) => fits_any x0 x1 x2 n A1 c1 m l1 h1 W (hm.below hb hh1) (Nat.le_trans hh1 hb.size) hm3)
        unfold pcV at q4
        have C4 := Lib.hid q4
        generalize Bs.usedC g r 0 = x0 at *
        generalize Bs.usedC g r 1 = x1 at *
        generalize Bs.usedC g r 2 = x2 at *
        clear q1 q2 q3 q4 hv h h' hm hok ha hF hm3
        go_enter Try.func100, Try.ntmps100
        go_wp2_with fail
        refine (C1.out).mono ?_
        rintro e w1 ⟨rfl, hb⟩
        have HB := Lib.hid hb
        clear hb
        go_wp2_with fail
        refine (C2.out _ HB.out).mono ?_
        rintro e w2 ⟨rfl, rfl⟩
        go_wp2_with fail
        refine (C3.out _ HB.out).mono ?_
        rintro e w2 ⟨rfl, rfl⟩
        go_wp2_with fail
        refine (C4.out _ HB.out).mono ?_
        rintro e w2 ⟨rfl, hb2⟩
        have HB2 := Lib.hid (HB.out.trans (hb2.mono HB.out.size))
        clear hb2
        go_wp2_with fail
        refine (C5.out _ _ _ _ _ HB2.out).mono ?_
        rintro e w3 ⟨rfl, hb3⟩
        have HB3 := Lib.hid (HB2.out.trans (hb3.mono HB2.out.size))
        clear hb3
        go_wp2
        go_ret
        exact ⟨ret_bool HV.out.symm, HB3.out⟩
end Go.Proofs.Ytjahmejmkijkaaa
