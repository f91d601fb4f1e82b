/-
  WALKS: what is admitted, of the program: the whole function.
-/
import Derived.Test.YtihgakbopkaemaaK27
namespace Go.Proofs.Ytihgakbopkaemaa
open Go.RowKit
set_option maxHeartbeats 1600000 in
theorem AdmitTasks_any (A : Option Addr) (c : Nat) (g : List Bs.T) (A1 : Option Addr) (c1 : Nat) (m : List Int) (A2 : Option Addr) (c2 : Nat) (r : List Int) (A3 : Option Addr) (c3 : Nat) (l : List Int) (wk : Int) (lo hi l1 h1 l2 h2 l3 h3 : Nat) (w : World) (h : RG w lo hi A g) (hh : hi ≤ w.heap.size) (hm : RI w l1 h1 A1 m) (hh1 : h1 ≤ w.heap.size) (h' : RI w l2 h2 A2 r) (hh2 : h2 ≤ w.heap.size) (h'' : RI w l3 h3 A3 l) (hh3 : h3 ≤ w.heap.size) (hl : g.length ≤ 9223372036854775807) (hml : m.length ≤ 9223372036854775807) (hr : r.length ≤ 9223372036854775807) (hll : l.length ≤ 9223372036854775807) :
    Calls Try.prog 90 #[.slice A g.length c, .slice A1 m.length c1, .slice A2 r.length c2, .slice A3 l.length c3, .int .i64 wk] w (RetI w (Bs.admL g m r l wk)) := by
  cases hok : Bs.admV g m r l wk
  · have HV := Lib.hid (Bs.admL_no hok)
    have q1 := RunsTogether_any A c g A1 c1 m A2 c2 r lo hi l1 h1 l2 h2 w h hh hm hh1 h' hh2 hl hml hr
    cases hrun : Bs.runOk g m r
    · rw [hrun] at q1
      have C1 := Lib.hid q1
      clear q1 hok h hm h' h''
      go_enter Try.func90, Try.ntmps90
      go_wp2_with fail
      with_reducible refine (C1.out).mono ?_
      rintro e w1 ⟨rfl, hb⟩
      have HB := Lib.hid hb
      clear hb
      go_wp2
      go_ret
      exact RetI.nil HB.out HV.out
    · rw [hrun] at q1
      have C1 := Lib.hid q1
      have q2 := fun W => validWorkers_any wk W
      cases hwk : decide (1 ≤ wk ∧ wk ≤ 4)
      · rw [hwk] at q2
        have C2 := Lib.hid q2
        clear q1 q2 hok h hm h' h'' hrun hwk
        go_enter Try.func90, Try.ntmps90
        go_wp2_with fail
        with_reducible refine (C1.out).mono ?_
        rintro e w1 ⟨rfl, hb⟩
        have HB := Lib.hid hb
        clear hb
        go_wp2_with fail
        with_reducible refine (C2.out _).mono ?_
        rintro e w2 ⟨rfl, rfl⟩
        go_wp2
        go_ret
        exact RetI.nil HB.out HV.out
      · rw [hwk] at q2
        have C2 := Lib.hid q2
        have hrun0 := hrun
        unfold Bs.runOk at hrun
        simp only [Bool.and_eq_true] at hrun
        obtain ⟨⟨⟨hv, hroom⟩, hig⟩, hfit⟩ := hrun
        have h8 := Bs.fine_len (valid_fine hv)
        have hrl := Bs.inG_len hig
        have q3 := fun W (hb : Below w.heap.size w W) => idleTasks_any A g.length c A2 c2 r A3 c3 l l2 h2 l3 h3 W (h'.below hb hh2) (h''.below hb hh3) h8 (Bs.inG_mem hig) (by omega) hll
        have hno : (Bs.allInB l 0 ((g.length : Int) - 1) && Bs.idleB r l l.length) = false := by
          cases hx : (Bs.allInB l 0 ((g.length : Int) - 1) && Bs.idleB r l l.length)
          · rfl
          · rw [Bool.and_eq_true] at hx
            rw [Bs.admV_yes hrun0 hwk hx.1 hx.2] at hok
            exact hok
        rw [hno] at q3
        have C3 := Lib.hid q3
        clear q1 q2 q3 hok h hm h' h'' hrun0 hwk hno hv hroom hig hfit
        go_enter Try.func90, Try.ntmps90
        go_wp2_with fail
        with_reducible refine (C1.out).mono ?_
        rintro e w1 ⟨rfl, hb⟩
        have HB := Lib.hid hb
        clear hb
        go_wp2_with fail
        with_reducible refine (C2.out _).mono ?_
        rintro e w2 ⟨rfl, rfl⟩
        go_wp2_with fail
        with_reducible refine (C3.out _ HB.out).mono ?_
        rintro e w2 ⟨rfl, rfl⟩
        go_wp2
        go_ret
        exact RetI.nil HB.out HV.out
  · rw [Bs.admL_yes hok]
    exact AdmitTasks_loop A c g A1 c1 m A2 c2 r A3 c3 l wk lo hi l1 h1 l2 h2 l3 h3 w h hh hm hh1 h' hh2 h'' hh3 hl hml hr hll hok
end Go.Proofs.Ytihgakbopkaemaa
