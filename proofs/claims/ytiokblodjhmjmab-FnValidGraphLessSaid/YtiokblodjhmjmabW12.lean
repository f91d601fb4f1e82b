/-
  WALKS: all needs, of the model and of the program.
-/
import Derived.Test.YtiokblodjhmjmabW11
namespace Go.Proofs.Ytiokblodjhmjmab
open Go.RowKit
theorem needsA_no {g : List Bs.T} {z : Int} (h : Bs.valid g = false ∨ ¬ (0 ≤ z ∧ z < g.length)) : Bs.needsA g z = [] := by
  unfold Bs.needsA
  rw [if_neg]
  rintro ⟨h1, h2⟩
  rcases h with h | h
  · rw [h] at h1; cases h1
  · exact h h2
theorem needsA_yes {g : List Bs.T} {z : Nat} (h : Bs.valid g = true) (hz : z < g.length) : Bs.needsA g z = Bs.needs2 g z := by
  unfold Bs.needsA
  rw [if_pos ⟨h, by omega, by omega⟩, Int.toNat_natCast]
theorem AllNeedsS_any (A : Option Addr) (c : Nat) (g : List Bs.T) (z : Int) (lo hi : Nat) (w : World) (h : RG w lo hi A g) (hh : hi ≤ w.heap.size) (hl : g.length ≤ 9223372036854775807) :
    Calls Try.prog 36 #[.slice A g.length c, .int .i64 z] w (RetI w (Bs.needsA g z)) := by
  have c1 := validGraphS_any A c g lo hi w h hh hl
  cases hf : Bs.valid g
  · rw [hf] at c1
    have C1 := Lib.hid c1
    have HV := Lib.hid (needsA_no (z := z) (.inl hf))
    clear c1 hf
    go_enter Try.func36, Try.ntmps36
    go_wp2_with (go_at_call 48; refine (C1.out).mono ?_; rintro e w' ⟨rfl, hb⟩)
    go_ret
    exact RetI.nil hb HV.out
  · rw [hf] at c1
    have C1 := Lib.hid c1
    clear c1
    have c2 := fun W => inRange_any z 0 (g.length - 1) W
    cases hv : decide (0 ≤ z ∧ z ≤ (g.length : Int) - 1)
    · rw [hv] at c2
      have C2 := Lib.hid c2
      have HV := Lib.hid (needsA_no (g := g) (z := z) (.inr (by rw [decide_eq_false_iff_not] at hv; omega)))
      clear c2 hv hf
      go_enter Try.func36, Try.ntmps36
      go_wp2_with (first | (go_at_call 48; refine (C1.out).mono ?_; rintro e w' ⟨rfl, hb⟩) | (go_at_call 66; refine (C2.out _).mono ?_; rintro e w2 ⟨rfl, rfl⟩))
      go_ret
      exact RetI.nil hb HV.out
    · rw [hv] at c2
      have hz := of_decide_eq_true hv
      obtain ⟨m, rfl⟩ := Int.eq_ofNat_of_zero_le hz.1
      have hm : m < g.length := by omega
      have c3 := fun W (hb : Below w.heap.size w W) => allNeedsS_any A c g m lo hi W (h.below hb hh) (Nat.le_trans hh hb.size) (valid_fine hf) (valid_full hf) hm
      have C2 := Lib.hid c2
      have C3 := Lib.hid c3
      have HV := Lib.hid (needsA_yes hf hm)
      clear c2 c3 hv hf hz
      go_enter Try.func36, Try.ntmps36
      go_wp2_with (first | (go_at_call 48; refine (C1.out).mono ?_; rintro e w' ⟨rfl, hb⟩) | (go_at_call 66; refine (C2.out _).mono ?_; rintro e w2 ⟨rfl, rfl⟩) | (go_at_call 67; refine (C3.out _ hb).mono ?_; rintro e w2 ⟨⟨A', c', rfl, ho⟩, hb2⟩))
      go_ret
      exact RetI.after hb ⟨⟨A', c', rfl, ho⟩, hb2⟩ HV.out.symm

theorem listOf_any (s : Nat) (w : World) (hs : s < 256) :
    Calls Try.prog 65 #[.int .u64 s] w (RetI w (Bs.pick 8 (fun j => s.testBit j))) := by
  have o0 := Lib.hid (OI.new w w.heap.size (Nat.le_refl _))
  have hb0 : Below w.heap.size w (w.alloc (.cells #[] 3)) := (Below.refl _ _).alloc (Nat.le_refl _) _
  go_enter Try.func65, Try.ntmps65
  go_wp2
  go_loopw [3, 4] (fun v i wr => ∃ (k : Nat) (A' : Option Addr) (c' : Nat), k ≤ 8 ∧ i = .int .i64 k ∧ v = .slice A' (Bs.pick k (fun j => s.testBit j)).length c' ∧ OI wr w.heap.size A' c' (Bs.pick k (fun j => s.testBit j)) ∧ Below w.heap.size w wr) (fun _ i _ => 8 - (intOf i).toNat)
  case atStart => exact ⟨0, _, _, Nat.zero_le _, rfl, rfl, o0.out, hb0⟩
  case round =>
    obtain ⟨k, A', c', hk, rfl, rfl, ho, hb⟩ := hrel
    have sr := hb.size
    by_cases hlt : k < 8
    · have c3 := hasTask_any s k wr hs hlt
      have hpl := Bs.pick_len k (fun j => s.testBit j)
      cases hv : s.testBit k
      · rw [hv] at c3
        have C3 := Lib.hid c3
        have HP := Lib.hid (Bs.pick_skip k (fun j => s.testBit j) hv)
        clear c3 hv
        generalize hL : Bs.pick k (fun j => s.testBit j) = L at *
        have HL := Lib.hid hL
        clear hL
        go_wp2_with (go_at_call 58; refine (C3.out).mono ?_; rintro e w' ⟨rfl, rfl⟩)
        go_roundw
        case rel => exact ⟨k + 1, A', c', by omega, by go_num, by rw [HP.out], by rw [HP.out]; exact ho, hb⟩
        case measure => simp [intOf]; omega
      · rw [hv] at c3
        have C3 := Lib.hid c3
        have HP := Lib.hid (Bs.pick_snoc k (fun j => s.testBit j) hv)
        clear c3 hv
        generalize hL : Bs.pick k (fun j => s.testBit j) = L at *
        have HL := Lib.hid hL
        clear hL
        go_wp2_with (first | (go_at_call 58; refine (C3.out).mono ?_; rintro e w' ⟨rfl, rfl⟩) | (at_builtin; refine push_int rfl _ _ rfl w.heap.size A' c' L (k : Int) rfl (ho.alloc _) (World.heap _).size 1 rfl (by simp [go_sem]) (by omega) (by simp; omega) ?_; intro A3 c3 w3 ho3 hb3 _))
        go_roundw
        case rel => exact ⟨k + 1, A3, c3, by omega, by go_num, by rw [HP.out, List.length_append]; rfl, by rw [HP.out]; exact ho3, (hb.alloc sr _).trans hb3⟩
        case measure => simp [intOf]; omega
    · obtain rfl : k = 8 := by omega
      go_wp2
      go_ret
      exact ⟨⟨A', c', rfl, ho⟩, hb⟩
end Go.Proofs.Ytiokblodjhmjmab
