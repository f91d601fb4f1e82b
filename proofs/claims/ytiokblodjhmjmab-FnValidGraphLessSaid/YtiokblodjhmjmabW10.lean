/-
  WALKS: stuck tasks.
-/
import Derived.Test.YtiokblodjhmjmabMem2
namespace Go.Proofs.Ytiokblodjhmjmab
open Go.RowKit
theorem stuckL_no {g : List Bs.T} (h : Bs.fine g = false) : Bs.stuckL g = [] := by unfold Bs.stuckL; rw [h]; rfl
theorem stuckL_yes {g : List Bs.T} (h : Bs.fine g = true) : Bs.stuckL g = Bs.pick g.length (fun i => !(Bs.top g).contains (i : Int)) := by unfold Bs.stuckL; rw [h]; rfl
set_option maxHeartbeats 800000 in
theorem StuckTasksS_any (A : Option Addr) (c : Nat) (g : List Bs.T) (lo hi : Nat) (w : World) (h : RG w lo hi A g) (hh : hi ≤ w.heap.size) (hl : g.length ≤ 9223372036854775807) :
    Calls Try.prog 33 #[.slice A g.length c] w (RetI w (Bs.stuckL g)) := by
  have c1 := fun W (hb : Below w.heap.size w W) => tasksFine_any A c g lo hi W (h.below hb hh) (Nat.le_trans hh hb.size) hl
  have hb0 : Below w.heap.size w (w.alloc (.cells #[] 3)) := (Below.refl _ _).alloc (Nat.le_refl _) _
  cases hf : Bs.fine g
  · rw [hf] at c1
    have C1 := Lib.hid c1
    have HV := Lib.hid (stuckL_no hf)
    clear c1 hf
    go_enter Try.func33, Try.ntmps33
    go_wp2_with (go_at_call 62; refine (C1.out _ hb0).mono ?_; rintro e w' ⟨rfl, hb⟩)
    go_ret
    exact RetI.nil (hb0.trans (hb.mono hb0.size)) HV.out
  · have h8 := Bs.fine_len hf
    have c2 := fun W (hb : Below w.heap.size w W) => topOrder_ret A c g lo hi W (h.below hb hh) (Nat.le_trans hh hb.size) h8
    rw [hf] at c1
    have C1 := Lib.hid c1
    have C2 := Lib.hid c2
    have HV := Lib.hid (stuckL_yes hf)
    have hdist := Bs.top_dist g
    have htl := hdist.le
    clear c1 c2 hf
    go_enter Try.func33, Try.ntmps33
    go_wp2_with fail
    refine (C1.out _ hb0).mono ?_; rintro e w1 ⟨rfl, hb1⟩
    have hb01 := hb0.trans (hb1.mono hb0.size)
    have s1 := hb1.size
    simp only [World.size_alloc] at s1
    have o1 : OI w1 w.heap.size (some ⟨w.heap.size, 0, none⟩) 0 [] := (OI.new w _ (Nat.le_refl _)).below hb1 (Nat.le_refl _)
    go_wp2_with fail
    refine (C2.out _ hb01).mono ?_; rintro e w2 ⟨⟨A2, c2, rfl, ho2⟩, hb2⟩
    have hb02 := hb01.trans (hb2.mono hb01.size)
    have s2 := hb2.size
    have q2 := ho2.ri
    have o2 := Lib.hid (o1.below hb2 (Nat.le_refl _))
    clear ho2 o1
    go_wp2
    go_loopw [3, 5] (fun v i wr => ∃ (k : Nat) (A' : Option Addr) (c' : Nat), k ≤ g.length ∧ i = .int .i64 k ∧ v = .slice A' (Bs.pick k (fun i => !(Bs.top g).contains (i : Int))).length c' ∧ OZ wr w2.heap.size A' c' (Bs.pick k (fun i => !(Bs.top g).contains (i : Int))) ∧ (OI wr w.heap.size A' c' (Bs.pick k (fun i => !(Bs.top g).contains (i : Int)))) ∧ Below w2.heap.size w2 wr) (fun _ i _ => g.length - (intOf i).toNat)
    case atStart => exact ⟨0, _, _, Nat.zero_le _, rfl, rfl, .inl ⟨rfl, rfl⟩, o2.out, Below.refl _ _⟩
    case round =>
      obtain ⟨k, A', c', hk, rfl, rfl, hz, ho, hb⟩ := hrel
      have sr := hb.size
      by_cases hlt : k < g.length
      · have qr := q2.below hb (Nat.le_refl _)
        have c3 := isIn_any A2 c2 (Bs.top g) (k : Int) _ _ wr qr (by omega)
        have hpl := Bs.pick_len k (fun i => !(Bs.top g).contains (i : Int))
        cases hv : (Bs.top g).contains (k : Int)
        · rw [hv] at c3
          have C3 := Lib.hid c3
          have HP := Lib.hid (Bs.pick_snoc k (fun i => !(Bs.top g).contains (i : Int)) (by simp only [hv]; rfl))
          clear c3 hv
          generalize hL : Bs.pick k (fun i => !(Bs.top g).contains (i : Int)) = L at *
          have HL := Lib.hid hL
          clear hL
          go_wp2_with (first | (go_at_call 63; refine (C3.out).mono ?_; rintro e w' ⟨rfl, rfl⟩) | (at_builtin; refine push_z rfl _ _ rfl w2.heap.size A' c' L (k : Int) rfl (hz.alloc _) wr.heap.size 1 rfl (by simp [go_sem]) (by omega) (by simp; omega) ?_; intro A3 c3 w3 ho3 hb3))
          go_wp2
          go_roundw
          case rel => exact ⟨k + 1, A3, c3, by omega, by go_num, by rw [HP.out, List.length_append]; rfl, .inr (by rw [HP.out]; exact ho3), by rw [HP.out]; exact ho3.base (by omega), (hb.alloc sr _).trans hb3⟩
          case measure => simp [intOf]; omega
        · rw [hv] at c3
          have C3 := Lib.hid c3
          have HP := Lib.hid (Bs.pick_skip k (fun i => !(Bs.top g).contains (i : Int)) (by simp only [hv]; rfl))
          clear c3 hv
          generalize hL : Bs.pick k (fun i => !(Bs.top g).contains (i : Int)) = L at *
          have HL := Lib.hid hL
          clear hL
          go_wp2_with (go_at_call 63; refine (C3.out).mono ?_; rintro e w' ⟨rfl, rfl⟩)
          go_roundw
          case rel => exact ⟨k + 1, A', c', by omega, by go_num, by rw [HP.out], by rw [HP.out]; exact hz, by rw [HP.out]; exact ho, hb⟩
          case measure => simp [intOf]; omega
      · obtain rfl : k = g.length := by omega
        go_wp2
        go_ret
        rw [HV.out]
        exact ⟨⟨A', c', rfl, ho⟩, hb02.trans (hb.mono hb02.size)⟩

set_option maxHeartbeats 800000 in
theorem StuckTasks_any (A : Option Addr) (c : Nat) (g : List Bs.T) (lo hi : Nat) (w : World) (h : RG w lo hi A g) (hh : hi ≤ w.heap.size) (hl : g.length ≤ 9223372036854775807) :
    Calls Try.prog 32 #[.slice A g.length c] w (RetI w (Bs.stuckL g)) := by
  have c1 := validTasks_any A c g lo hi w h hh hl
  cases hf : Bs.fine g
  · rw [hf] at c1
    have C1 := Lib.hid c1
    have HV := Lib.hid (stuckL_no hf)
    clear c1 hf
    go_enter Try.func32, Try.ntmps32
    go_wp2_with (go_at_call 54; refine (C1.out).mono ?_; rintro e w' ⟨rfl, hb⟩)
    go_ret
    exact RetI.nil hb HV.out
  · have h8 := Bs.fine_len hf
    have c2 := fun W (hb : Below w.heap.size w W) => possibleOrder_ret A c g lo hi W (h.below hb hh) (Nat.le_trans hh hb.size) hf
    rw [hf] at c1
    have C1 := Lib.hid c1
    have C2 := Lib.hid c2
    have HV := Lib.hid (stuckL_yes hf)
    have hdist := Bs.top_dist g
    have htl := hdist.le
    have ht8 := Lib.hid (hdist.eight h8)
    have hbl := Bs.bits_lt (Bs.top g) ht8.out
    have htest := Lib.hid (Bs.bits_test (Bs.top g) (fun x hx => (ht8.out x hx).1))
    clear c1 c2 hf
    go_enter Try.func32, Try.ntmps32
    go_wp2_with fail
    refine (C1.out).mono ?_; rintro e w1 ⟨rfl, hb1⟩
    go_wp2_with fail
    refine (C2.out _ hb1).mono ?_; rintro e w2 ⟨⟨A2, c2, rfl, ho2⟩, hb2⟩
    have hb02 := hb1.trans (hb2.mono hb1.size)
    have s2 := hb02.size
    have C3 := Lib.hid (setOf_any A2 c2 (Bs.top g) _ _ w2 ho2.ri (by omega) ht8.out)
    clear ho2
    generalize Bs.bits (Bs.top g) = d at *
    go_wp2_with fail
    refine (C3.out).mono ?_; rintro e _ ⟨rfl, rfl⟩
    have o2 := Lib.hid ((OI.new w2 w.heap.size s2))
    go_wp2
    go_loopw [4, 15] (fun v i wr => ∃ (k : Nat) (A' : Option Addr) (c' : Nat), k ≤ g.length ∧ i = .int .i64 k ∧ v = .slice A' (Bs.pick k (fun i => !(Bs.top g).contains (i : Int))).length c' ∧ OI wr w.heap.size A' c' (Bs.pick k (fun i => !(Bs.top g).contains (i : Int))) ∧ Below w.heap.size w wr) (fun _ i _ => g.length - (intOf i).toNat)
    case atStart => exact ⟨0, _, _, Nat.zero_le _, rfl, rfl, o2.out, hb02.alloc s2 _⟩
    case round =>
      obtain ⟨k, A', c', hk, rfl, rfl, ho, hb⟩ := hrel
      have sr := hb.size
      by_cases hlt : k < g.length
      · have c3 := hasTask_any d k wr hbl (by omega)
        have hpl := Bs.pick_len k (fun i => !(Bs.top g).contains (i : Int))
        rw [htest.out k] at c3
        cases hv : (Bs.top g).contains (k : Int)
        · rw [hv] at c3
          have C3 := Lib.hid c3
          have HP := Lib.hid (Bs.pick_snoc k (fun i => !(Bs.top g).contains (i : Int)) (by simp only [hv]; rfl))
          clear c3 hv
          generalize hL : Bs.pick k (fun i => !(Bs.top g).contains (i : Int)) = L at *
          have HL := Lib.hid hL
          clear hL
          go_wp2_with (first | (go_at_call 58; refine (C3.out).mono ?_; rintro e w' ⟨rfl, rfl⟩) | (at_builtin; refine push_int rfl _ _ rfl w.heap.size A' c' L (k : Int) rfl (ho.alloc _) wr.heap.size 1 rfl (by simp [go_sem]) (by omega) (by simp; omega) ?_; intro A3 c3 w3 ho3 hb3 _))
          go_wp2
          go_roundw
          case rel => exact ⟨k + 1, A3, c3, by omega, by go_num, by rw [HP.out, List.length_append]; rfl, by rw [HP.out]; exact ho3, (hb.alloc sr _).trans hb3⟩
          case measure => simp [intOf]; omega
        · rw [hv] at c3
          have C3 := Lib.hid c3
          have HP := Lib.hid (Bs.pick_skip k (fun i => !(Bs.top g).contains (i : Int)) (by simp only [hv]; rfl))
          clear c3 hv
          generalize hL : Bs.pick k (fun i => !(Bs.top g).contains (i : Int)) = L at *
          have HL := Lib.hid hL
          clear hL
          go_wp2_with (go_at_call 58; refine (C3.out).mono ?_; rintro e w' ⟨rfl, rfl⟩)
          go_roundw
          case rel => exact ⟨k + 1, A', c', by omega, by go_num, by rw [HP.out], by rw [HP.out]; exact ho, hb⟩
          case measure => simp [intOf]; omega
      · obtain rfl : k = g.length := by omega
        go_wp2
        go_ret
        rw [HV.out]
        exact ⟨⟨A', c', rfl, ho⟩, hb⟩
end Go.Proofs.Ytiokblodjhmjmab
