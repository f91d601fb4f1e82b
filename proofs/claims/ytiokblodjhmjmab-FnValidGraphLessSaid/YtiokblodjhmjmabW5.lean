/-
  WALKS: valid graphs, orders, stuck tasks.
-/
import Derived.Test.YtiokblodjhmjmabW4
namespace Go.Proofs.Ytiokblodjhmjmab
open Go.RowKit
/-- what is said of a list that a call hands back in memory of its own -/
def RetI (w : World) (L : List Int) (e : Ending) (w' : World) : Prop := (∃ A c, e = .returned (.slice A L.length c) ∧ OI w' w.heap.size A c L) ∧ Below w.heap.size w w'

theorem valid_false {g : List Bs.T} (h : Bs.fine g = false) : Bs.valid g = false := by unfold Bs.valid; rw [h]; rfl
theorem valid_true {g : List Bs.T} (h : Bs.fine g = true) : Bs.valid g = decide ((Bs.top g).length = g.length) := by unfold Bs.valid; rw [h]; rfl
theorem len_beq (a b : Nat) : ((a : Int) == (b : Int)) = decide (a = b) := by rw [Bool.eq_iff_iff]; simp only [beq_iff_eq, decide_eq_true_eq]; omega

theorem validGraphS_any (A : Option Addr) (c : Nat) (g : List Bs.T) (lo hi : Nat) (w : World) (h : RG w lo hi A g) (hh : hi ≤ w.heap.size) (hl : g.length ≤ 9223372036854775807) :
    Calls Try.prog 48 #[.slice A g.length c] w fun e w' => e = .returned (.bool (Bs.valid g)) ∧ Below w.heap.size w w' := by
  have c1 := tasksFine_any A c g lo hi w h hh hl
  cases hf : Bs.fine g
  · rw [hf] at c1
    have C1 := Lib.hid c1
    have HV := Lib.hid (valid_false hf)
    clear c1 hf
    go_enter Try.func48, Try.ntmps48
    go_wp2_with (go_at_call 62; refine (C1.out).mono ?_; rintro e w' ⟨rfl, hb⟩)
    go_ret
    exact ⟨ret_bool HV.out.symm, by exact hb⟩
  · rw [hf] at c1
    have C1 := Lib.hid c1
    have HV := Lib.hid (valid_true hf)
    have h8 := Bs.fine_len hf
    have c2 := fun w' (hb : Below w.heap.size w w') => topOrder_any A c g lo hi w' (h.below hb hh) (by have := hb.size; omega) h8
    have C2 := Lib.hid c2
    clear c1 c2 hf
    go_enter Try.func48, Try.ntmps48
    go_wp2_with (first | (go_at_call 62; refine (C1.out).mono ?_; rintro e w' ⟨rfl, hb⟩) | (go_at_call 59; refine (C2.out _ hb).mono ?_; rintro e w2 ⟨⟨A', c', rfl, _⟩, hb2⟩))
    go_ret
    exact ⟨ret_bool (by rw [HV.out, len_beq]), by exact hb.trans (hb2.mono hb.size)⟩
theorem ValidGraphS_any (A : Option Addr) (c : Nat) (g : List Bs.T) (lo hi : Nat) (w : World) (h : RG w lo hi A g) (hh : hi ≤ w.heap.size) (hl : g.length ≤ 9223372036854775807) :
    Calls Try.prog 26 #[.slice A g.length c] w fun e w' => e = .returned (.bool (Bs.valid g)) ∧ Below w.heap.size w w' := by
  have C1 := Lib.hid (validGraphS_any A c g lo hi w h hh hl)
  go_enter Try.func26, Try.ntmps26
  go_wp2_with (go_at_call 48; refine (C1.out).mono ?_; rintro e w' ⟨rfl, hb⟩)
  go_ret
  exact ⟨rfl, by exact hb⟩
theorem ValidGraph_any (A : Option Addr) (c : Nat) (g : List Bs.T) (lo hi : Nat) (w : World) (h : RG w lo hi A g) (hh : hi ≤ w.heap.size) (hl : g.length ≤ 9223372036854775807) :
    Calls Try.prog 24 #[.slice A g.length c] w fun e w' => e = .returned (.bool (Bs.valid g)) ∧ Below w.heap.size w w' := by
  have c1 := validTasks_any A c g lo hi w h hh hl
  cases hf : Bs.fine g
  · rw [hf] at c1
    have C1 := Lib.hid c1
    have HV := Lib.hid (valid_false hf)
    clear c1 hf
    go_enter Try.func24, Try.ntmps24
    go_wp2_with (go_at_call 54; refine (C1.out).mono ?_; rintro e w' ⟨rfl, hb⟩)
    go_ret
    exact ⟨ret_bool HV.out.symm, by exact hb⟩
  · have c2 := fun w' (hb : Below w.heap.size w w') => possibleOrder_any A c g lo hi w' (h.below hb hh) (by have := hb.size; omega) hf
    rw [hf] at c1
    have C1 := Lib.hid c1
    have HV := Lib.hid (valid_true hf)
    have C2 := Lib.hid c2
    clear c1 c2 hf
    go_enter Try.func24, Try.ntmps24
    go_wp2_with (first | (go_at_call 54; refine (C1.out).mono ?_; rintro e w' ⟨rfl, hb⟩) | (go_at_call 55; refine (C2.out _ hb).mono ?_; rintro e w2 ⟨⟨A', c', rfl, _⟩, hb2⟩))
    go_ret
    exact ⟨ret_bool (by rw [HV.out, len_beq]), by exact hb.trans (hb2.mono hb.size)⟩

theorem topL_no {g : List Bs.T} (h : Bs.valid g = false) : Bs.topL g = [] := by unfold Bs.topL; rw [h]; rfl
theorem topL_yes {g : List Bs.T} (h : Bs.valid g = true) : Bs.topL g = Bs.top g := by unfold Bs.topL; rw [h]; rfl
theorem RetI.nil {w w' : World} (hb : Below w.heap.size w w') {L : List Int} (h : L = []) : RetI w L (.returned (.slice none 0 0)) w' := by
  subst h
  exact ⟨⟨none, 0, rfl, OI.nil _ _⟩, hb⟩
theorem RetI.after {w w1 w' : World} {L L' : List Int} {e : Ending} (hb : Below w.heap.size w w1) (h : RetI w1 L e w') (hL : L = L') : RetI w L' e w' := by
  subst hL
  obtain ⟨⟨A, c, he, ho⟩, hb'⟩ := h
  refine ⟨⟨A, c, he, ?_⟩, hb.trans (hb'.mono hb.size)⟩
  refine ⟨ho.1, ?_⟩
  rcases ho.2 with hn | ⟨g, cap, cur, hv, h1, rest⟩
  · exact .inl hn
  · exact .inr ⟨g, cap, cur, hv, Nat.le_trans hb.size h1, rest⟩
theorem possibleOrder_ret (A : Option Addr) (c : Nat) (g : List Bs.T) (lo hi : Nat) (w : World) (h : RG w lo hi A g) (hh : hi ≤ w.heap.size) (hf : Bs.fine g = true) :
    Calls Try.prog 55 #[.slice A g.length c] w (RetI w (Bs.top g)) := (possibleOrder_any A c g lo hi w h hh hf).mono fun _ _ h => h
theorem topOrder_ret (A : Option Addr) (c : Nat) (g : List Bs.T) (lo hi : Nat) (w : World) (h : RG w lo hi A g) (hh : hi ≤ w.heap.size) (hl : g.length ≤ 8) :
    Calls Try.prog 59 #[.slice A g.length c] w (RetI w (Bs.top g)) := (topOrder_any A c g lo hi w h hh hl).mono fun _ _ h => h
theorem valid_fine {g : List Bs.T} (h : Bs.valid g = true) : Bs.fine g = true := ((Bs.valid_iff g).1 h).1
theorem valid_full {g : List Bs.T} (h : Bs.valid g = true) : Bs.Full g := ((Bs.valid_iff g).1 h).2

theorem TopOrder_any (A : Option Addr) (c : Nat) (g : List Bs.T) (lo hi : Nat) (w : World) (h : RG w lo hi A g) (hh : hi ≤ w.heap.size) (hl : g.length ≤ 9223372036854775807) :
    Calls Try.prog 29 #[.slice A g.length c] w (RetI w (Bs.topL g)) := by
  have c1 := ValidGraph_any A c g lo hi w h hh hl
  cases hf : Bs.valid g
  · rw [hf] at c1
    have C1 := Lib.hid c1
    have HV := Lib.hid (topL_no hf)
    clear c1 hf
    go_enter Try.func29, Try.ntmps29
    go_wp2_with (go_at_call 24; refine (C1.out).mono ?_; rintro e w' ⟨rfl, hb⟩)
    go_ret
    exact RetI.nil hb HV.out
  · have c2 := fun w' (hb : Below w.heap.size w w') => possibleOrder_ret A c g lo hi w' (h.below hb hh) (by have := hb.size; omega) (valid_fine hf)
    rw [hf] at c1
    have C1 := Lib.hid c1
    have HV := Lib.hid (topL_yes hf)
    have C2 := Lib.hid c2
    clear c1 c2 hf
    go_enter Try.func29, Try.ntmps29
    go_wp2_with (first | (go_at_call 24; refine (C1.out).mono ?_; rintro e w' ⟨rfl, hb⟩) | (go_at_call 55; refine (C2.out _ hb).mono ?_; rintro e w2 ⟨⟨A', c', rfl, ho⟩, hb2⟩))
    go_ret
    exact RetI.after hb ⟨⟨A', c', rfl, ho⟩, hb2⟩ HV.out.symm
theorem TopOrderS_any (A : Option Addr) (c : Nat) (g : List Bs.T) (lo hi : Nat) (w : World) (h : RG w lo hi A g) (hh : hi ≤ w.heap.size) (hl : g.length ≤ 9223372036854775807) :
    Calls Try.prog 30 #[.slice A g.length c] w (RetI w (Bs.topL g)) := by
  have c1 := validGraphS_any A c g lo hi w h hh hl
  cases hf : Bs.valid g
  · rw [hf] at c1
    have C1 := Lib.hid c1
    have HV := Lib.hid (topL_no hf)
    clear c1 hf
    go_enter Try.func30, Try.ntmps30
    go_wp2_with (go_at_call 48; refine (C1.out).mono ?_; rintro e w' ⟨rfl, hb⟩)
    go_ret
    exact RetI.nil hb HV.out
  · have c2 := fun w' (hb : Below w.heap.size w w') => topOrder_ret A c g lo hi w' (h.below hb hh) (by have := hb.size; omega) (Bs.fine_len (valid_fine hf))
    rw [hf] at c1
    have C1 := Lib.hid c1
    have HV := Lib.hid (topL_yes hf)
    have C2 := Lib.hid c2
    clear c1 c2 hf
    go_enter Try.func30, Try.ntmps30
    go_wp2_with (first | (go_at_call 48; refine (C1.out).mono ?_; rintro e w' ⟨rfl, hb⟩) | (go_at_call 59; refine (C2.out _ hb).mono ?_; rintro e w2 ⟨⟨A', c', rfl, ho⟩, hb2⟩))
    go_ret
    exact RetI.after hb ⟨⟨A', c', rfl, ho⟩, hb2⟩ HV.out.symm
end Go.Proofs.Ytiokblodjhmjmab
