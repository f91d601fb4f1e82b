/-
  WALKS: the longest time.
-/
import Derived.Test.YtiokblodjhmjmabW17
namespace Go.Proofs.Ytiokblodjhmjmab
open Go.RowKit
def longC (g : List Bs.T) : Int := Bs.maxL (Bs.tailsC g)
def longL (g : List Bs.T) : Int := if Bs.valid g then longC g else -1
theorem maxL_take (l : List Int) (k : Nat) (hk : k < l.length) : Bs.maxL (l.take (k + 1)) = max (Bs.maxL (l.take k)) l[k] := by
  rw [show l.take (k + 1) = l.take k ++ [l[k]] from List.take_succ_eq_append_getElem hk, Bs.maxL_snoc]
set_option maxHeartbeats 800000 in
theorem longestS_any (A : Option Addr) (c : Nat) (g : List Bs.T) (lo hi : Nat) (w : World) (hG : RG w lo hi A g) (hh : hi ≤ w.heap.size) (hf : Bs.valid g = true) :
    Calls Try.prog 50 #[.slice A g.length c] w fun e w' => e = .returned (.int .i64 (longC g)) ∧ Below w.heap.size w w' := by
  have C1 := Lib.hid (tailsS_ret A c g lo hi w hG hh hf)
  have hlen := tails_len hf
  have h8 := Bs.fine_len (valid_fine hf)
  have HV := Lib.hid (show longC g = Bs.maxL (Bs.tailsC g) from rfl)
  clear hf
  generalize Bs.tailsC g = t at *
  go_enter Try.func50, Try.ntmps50
  go_wp2_with fail
  refine (C1.out).mono ?_; rintro e w2 ⟨⟨A2, c2, rfl, ho2⟩, hb2⟩
  have q2 := ho2.ri
  have hlen := Nat.le_of_eq hlen
  clear ho2
  go_wp2
  go_loop [3, 5] (fun m i => ∃ k : Nat, k ≤ t.length ∧ i = .int .i64 k ∧ m = .int .i64 (Bs.maxL (t.take k))) (fun _ i => t.length - (intOf i).toNat)
  case atStart => exact ⟨0, Nat.zero_le _, rfl, rfl⟩
  case round =>
    obtain ⟨k, hk, rfl, rfl⟩ := hrel
    by_cases hlt : k < t.length
    · obtain ⟨b, o, rfl, _, _, hc⟩ := q2.at_ hlt
      have HM := Lib.hid (maxL_take t k hlt)
      generalize Bs.maxL (t.take k) = m0 at *
      go_wp2
      go_round
      case rel => exact ⟨k + 1, by omega, by go_num, by rw [HM.out]; congr 1; split <;> omega⟩
      case measure => simp [intOf]; omega
    · have He := Lib.hid (show t.take k = t from List.take_of_length_le (by omega))
      go_wp2
      go_ret
      exact ⟨ret_int (by rw [HV.out, He.out]), hb2⟩

theorem longL_no {g : List Bs.T} (h : Bs.valid g = false) : longL g = -1 := by unfold longL; rw [h]; rfl
theorem longL_yes {g : List Bs.T} (h : Bs.valid g = true) : longL g = longC g := by unfold longL; rw [h]; rfl
theorem LongestTimeS_any (A : Option Addr) (c : Nat) (g : List Bs.T) (lo hi : Nat) (w : World) (hG : RG w lo hi A g) (hh : hi ≤ w.heap.size) (hl : g.length ≤ 9223372036854775807) :
    Calls Try.prog 43 #[.slice A g.length c] w fun e w' => e = .returned (.int .i64 (longL g)) ∧ Below w.heap.size w w' := by
  have c1 := validGraphS_any A c g lo hi w hG hh hl
  cases hf : Bs.valid g
  · rw [hf] at c1
    have C1 := Lib.hid c1
    have HV := Lib.hid (longL_no hf)
    clear c1 hf
    go_enter Try.func43, Try.ntmps43
    go_wp2_with (go_at_call 48; refine (C1.out).mono ?_; rintro e w' ⟨rfl, hb⟩)
    go_ret
    exact ⟨ret_int HV.out.symm, hb⟩
  · rw [hf] at c1
    have C1 := Lib.hid c1
    have C2 := Lib.hid (fun W (hb : Below w.heap.size w W) => longestS_any A c g lo hi W (hG.below hb hh) (Nat.le_trans hh hb.size) hf)
    have HV := Lib.hid (longL_yes hf)
    clear c1 hf
    go_enter Try.func43, Try.ntmps43
    go_wp2_with (first | (go_at_call 48; refine (C1.out).mono ?_; rintro e w' ⟨rfl, hb⟩) | (go_at_call 50; refine (C2.out _ hb).mono ?_; rintro e w2 ⟨rfl, hb2⟩))
    go_ret
    exact ⟨ret_int HV.out.symm, hb.trans (hb2.mono hb.size)⟩
set_option maxHeartbeats 800000 in
theorem LongestTime_any (A : Option Addr) (c : Nat) (g : List Bs.T) (lo hi : Nat) (w : World) (hG : RG w lo hi A g) (hh : hi ≤ w.heap.size) (hl : g.length ≤ 9223372036854775807) :
    Calls Try.prog 20 #[.slice A g.length c] w fun e w' => e = .returned (.int .i64 (longL g)) ∧ Below w.heap.size w w' := by
  have c1 := ValidGraph_any A c g lo hi w hG hh hl
  cases hf : Bs.valid g
  · rw [hf] at c1
    have C1 := Lib.hid c1
    have HV := Lib.hid (longL_no hf)
    clear c1 hf
    go_enter Try.func20, Try.ntmps20
    go_wp2_with (go_at_call 24; refine (C1.out).mono ?_; rintro e w' ⟨rfl, hb⟩)
    go_ret
    exact ⟨ret_int HV.out.symm, hb⟩
  · rw [hf] at c1
    have C1 := Lib.hid c1
    have c2 := fun W (hb : Below w.heap.size w W) => TailTimes_any A c g lo hi W (hG.below hb hh) (Nat.le_trans hh hb.size) hl
    simp only [hf, if_true] at c2
    have C2 := Lib.hid c2
    have HV := Lib.hid ((longL_yes hf).trans (show longC g = Bs.maxL (Bs.tailsC g) from rfl))
    have hlen := tails_len hf
    have h8 := Bs.fine_len (valid_fine hf)
    clear c1 hf c2
    generalize Bs.tailsC g = t at *
    go_enter Try.func20, Try.ntmps20
    go_wp2_with fail
    refine (C1.out).mono ?_; rintro e w1 ⟨rfl, hb1⟩
    go_wp2_with fail
    refine (C2.out _ hb1).mono ?_; rintro e w2 ⟨⟨A2, c2, rfl, ho2⟩, hb2⟩
    have hb02 := hb1.trans (hb2.mono hb1.size)
    have q2 := ho2.ri
    have hlen := Nat.le_of_eq hlen
    clear ho2
    go_wp2
    go_loop [3, 12] (fun m i => ∃ k : Nat, k ≤ t.length ∧ i = .int .i64 k ∧ m = .int .i64 (Bs.maxL (t.take k))) (fun _ i => t.length - (intOf i).toNat)
    case atStart => exact ⟨0, Nat.zero_le _, rfl, rfl⟩
    case round =>
      obtain ⟨k, hk, rfl, rfl⟩ := hrel
      by_cases hlt : k < t.length
      · obtain ⟨b, o, rfl, _, _, hc⟩ := q2.at_ hlt
        have HM := Lib.hid (maxL_take t k hlt)
        generalize Bs.maxL (t.take k) = m0 at *
        by_cases hcmp : m0 < t[k]
        all_goals
          have HC := Lib.hid hcmp
          go_wp2
          go_round
          case rel => exact ⟨k + 1, by omega, by go_num, by rw [HM.out]; have := HC.out; congr 1; omega⟩
          case measure => simp [intOf]; omega
      · have He := Lib.hid (show t.take k = t from List.take_of_length_le (by omega))
        go_wp2
        go_ret
        exact ⟨ret_int (by rw [HV.out, He.out]), hb02⟩
end Go.Proofs.Ytiokblodjhmjmab
