/-
  WALKS: small functions over integers and lists of integers.
-/
import Derived.Test.YtiokblodjhmjmabMem
namespace Go.Proofs.Ytiokblodjhmjmab
open Go.RowKit

theorem inRange_any (n lo hi : Int) (w : World) : Calls Try.prog 66 #[.int .i64 n, .int .i64 lo, .int .i64 hi] w fun e w' => e = .returned (.bool (decide (lo ≤ n ∧ n ≤ hi))) ∧ w = w' := by
  go_enter Try.func66, Try.ntmps66
  go_wp2
  all_goals go_ret
  all_goals exact ⟨ret_bool (by simp; try omega), rfl⟩

theorem isIn_any (A : Option Addr) (c : Nat) (l : List Int) (n : Int) (lo hi : Nat) (w : World) (h : RI w lo hi A l) (hl : l.length ≤ 9223372036854775807) :
    Calls Try.prog 63 #[.slice A l.length c, .int .i64 n] w fun e w' => e = .returned (.bool (l.contains n)) ∧ w = w' := by
  go_enter Try.func63, Try.ntmps63
  go_wp2
  go_loop [5] (fun i => ∃ k : Nat, k ≤ l.length ∧ i = .int .i64 k ∧ n ∉ l.take k) (fun i => l.length - (intOf i).toNat)
  case atStart => exact ⟨0, Nat.zero_le _, rfl, by simp⟩
  case round =>
    obtain ⟨k, hk, rfl, hn⟩ := hrel
    by_cases hlt : k < l.length
    · obtain ⟨b, o, rfl, _, _, hc⟩ := h.at_ hlt
      have hs : l.take (k + 1) = l.take k ++ [l[k]] := List.take_succ_eq_append_getElem hlt
      have HS := Lib.hid hs
      clear hs
      have Hn := Lib.hid hn
      clear hn
      by_cases he : l[k] = n
      · have hb : (l[k] == n) = true := by simp [he]
        have HE := Lib.hid he
        clear he
        go_wp2
        go_ret
        exact ⟨ret_bool (by rw [← HE.out]; simp), rfl⟩
      · have hb : (l[k] == n) = false := by simp [he]
        have HE := Lib.hid he
        clear he
        go_wp2
        go_round
        case rel => exact ⟨k + 1, by omega, by go_num, by rw [HS.out]; simp only [List.mem_append, List.mem_singleton, not_or]; exact ⟨Hn.out, fun h => HE.out h.symm⟩⟩
        case measure => simp [intOf]; omega
    · have e : l.take k = l := List.take_of_length_le (by omega)
      rw [e] at hn
      have Hn := Lib.hid hn
      clear hn e
      go_wp2
      go_ret
      exact ⟨ret_bool (by simp [Hn.out]), rfl⟩

theorem drewN_zero (w : World) : w.drewN 0 = w := rfl

theorem allDone_any (A : Option Addr) (c : Nat) (l : List Int) (A' : Option Addr) (c' : Nat) (d : List Int) (lo hi lo' hi' : Nat) (w : World) (h : RI w lo hi A l) (h' : RI w lo' hi' A' d) (hl : l.length ≤ 9223372036854775807) (hd : d.length ≤ 9223372036854775807) :
    Calls Try.prog 73 #[.slice A l.length c, .slice A' d.length c'] w fun e w' => e = .returned (.bool (l.all fun x => d.contains x)) ∧ w = w' := by
  go_enter Try.func73, Try.ntmps73
  go_wp2
  go_loop [5] (fun i => ∃ k : Nat, k ≤ l.length ∧ i = .int .i64 k ∧ ((l.take k).all fun x => d.contains x) = true) (fun i => l.length - (intOf i).toNat)
  case atStart => exact ⟨0, Nat.zero_le _, rfl, by simp⟩
  case round =>
    obtain ⟨k, hk, rfl, hn⟩ := hrel
    have Hn := Lib.hid hn
    clear hn
    by_cases hlt : k < l.length
    · obtain ⟨b, o, rfl, _, _, hc⟩ := h.at_ hlt
      have HS := Lib.hid (show l.take (k + 1) = l.take k ++ [l[k]] from List.take_succ_eq_append_getElem hlt)
      cases he : d.contains l[k]
      · have HE := Lib.hid he
        have hc1 := isIn_any A' c' d l[k] lo' hi' w h' hd
        rw [he] at hc1
        have HC := Lib.hid hc1
        clear he hc1
        go_wp2_with (go_at_call 63; refine (HC.out).mono ?_; rintro e w' ⟨rfl, rfl⟩)
        go_ret
        exact ⟨ret_bool (by
          symm
          rw [Bool.eq_false_iff]
          intro hx
          rw [List.all_eq_true] at hx
          exact absurd (hx _ (List.getElem_mem hlt)) (by rw [HE.out]; simp)), rfl⟩
      · have HE := Lib.hid he
        have hc1 := isIn_any A' c' d l[k] lo' hi' w h' hd
        rw [he] at hc1
        have HC := Lib.hid hc1
        clear he hc1
        go_wp2_with (go_at_call 63; refine (HC.out).mono ?_; rintro e w' ⟨rfl, rfl⟩)
        go_round
        case rel => exact ⟨k + 1, by omega, by go_num, by rw [HS.out, List.all_append, Hn.out]; simp only [List.all_cons, HE.out, List.all_nil]; rfl⟩
        case measure => simp [intOf]; omega
    · have e : l.take k = l := List.take_of_length_le (by omega)
      have He := Lib.hid e
      clear e
      go_wp2
      go_ret
      exact ⟨ret_bool (by have := Hn.out; rw [He.out] at this; simpa using this.symm), rfl⟩

theorem allIn_any (A : Option Addr) (c : Nat) (l : List Int) (a b : Int) (lo hi : Nat) (w : World) (h : RI w lo hi A l) (hl : l.length ≤ 9223372036854775807) :
    Calls Try.prog 78 #[.slice A l.length c, .int .i64 a, .int .i64 b] w fun e w' => e = .returned (.bool (Bs.allInB l a b)) ∧ w = w' := by
  go_enter Try.func78, Try.ntmps78
  go_wp2
  go_loop [7] (fun i => ∃ k : Nat, k ≤ l.length ∧ i = .int .i64 k ∧ Bs.allInB (l.take k) a b = true) (fun i => l.length - (intOf i).toNat)
  case atStart => exact ⟨0, Nat.zero_le _, rfl, by simp [Bs.allInB]⟩
  case round =>
    obtain ⟨k, hk, rfl, hn⟩ := hrel
    have Hn := Lib.hid hn
    clear hn
    by_cases hlt : k < l.length
    · obtain ⟨bk, o, rfl, _, _, hc⟩ := h.at_ hlt
      have HS := Lib.hid (show l.take (k + 1) = l.take k ++ [l[k]] from List.take_succ_eq_append_getElem hlt)
      cases he : decide (a ≤ l[k] ∧ l[k] ≤ b)
      · have HE := Lib.hid he
        have hc1 := inRange_any l[k] a b w
        rw [he] at hc1
        have HC := Lib.hid hc1
        clear he hc1
        go_wp2_with (go_at_call 66; refine (HC.out).mono ?_; rintro e w' ⟨rfl, rfl⟩)
        go_ret
        exact ⟨ret_bool (by
          symm
          rw [Bool.eq_false_iff]
          intro hx
          unfold Bs.allInB at hx
          rw [List.all_eq_true] at hx
          exact absurd (hx _ (List.getElem_mem hlt)) (by rw [HE.out]; simp)), rfl⟩
      · have HE := Lib.hid he
        have hc1 := inRange_any l[k] a b w
        rw [he] at hc1
        have HC := Lib.hid hc1
        clear he hc1
        go_wp2_with (go_at_call 66; refine (HC.out).mono ?_; rintro e w' ⟨rfl, rfl⟩)
        go_round
        case rel => exact ⟨k + 1, by omega, by go_num, by have := Hn.out; unfold Bs.allInB at this ⊢; rw [HS.out, List.all_append, this]; simp only [List.all_cons, HE.out, List.all_nil]; rfl⟩
        case measure => simp [intOf]; omega
    · have He := Lib.hid (show l.take k = l from List.take_of_length_le (by omega))
      go_wp2
      go_ret
      exact ⟨ret_bool (by have := Hn.out; rw [He.out] at this; exact this.symm), rfl⟩

theorem ascends_any (A : Option Addr) (c : Nat) (l : List Int) (lo hi : Nat) (w : World) (h : RI w lo hi A l) (hl : l.length ≤ 9223372036854775807) :
    Calls Try.prog 79 #[.slice A l.length c] w fun e w' => e = .returned (.bool (Bs.asc l)) ∧ ∃ n, w' = w.drewN n := by
  go_enter Try.func79, Try.ntmps79
  go_wp2
  go_loopw [3] (fun i wr => ∃ k : Nat, 1 ≤ k ∧ (k ≤ l.length ∨ k = 1) ∧ i = .int .i64 k ∧ (∀ j (hj : j + 1 < l.length), j + 1 < k → l[j] < l[j + 1]) ∧ ∃ n, wr = w.drewN n) (fun i _ => l.length - (intOf i).toNat)
  case atStart => exact ⟨1, by omega, by omega, rfl, by intro j _ h; omega, 0, rfl⟩
  case round =>
    obtain ⟨k, hk1, hk, rfl, hn, n, rfl⟩ := hrel
    have Hn := Lib.hid hn
    clear hn
    by_cases hlt : k < l.length
    · obtain ⟨b, o, rfl, _, _, hc⟩ := h.at_ hlt
      obtain ⟨b', o', e', _, _, hc'⟩ := h.at_ (k := k - 1) (by omega)
      cases e'
      by_cases hle : l[k] ≤ l[k - 1]
      · have hd : decide (l[k] ≤ l[k - 1]) = true := by simpa using hle
        have HL := Lib.hid hle
        clear hle
        go_wp2
        go_quiet (fail)
        go_wp2
        go_ret
        refine ⟨ret_bool ?_, _, by first | rfl | rw [World.drewN_drewN]⟩
        symm
        rw [Bool.eq_false_iff]
        intro hx
        have h1 := (Bs.asc_iff l).1 hx (k - 1) (by omega)
        have h2 := HL.out
        have h3 : k - 1 + 1 = k := by omega
        simp only [h3] at h1
        omega
      · have hd : decide (l[k] ≤ l[k - 1]) = false := by simpa using hle
        have HL := Lib.hid hle
        clear hle
        go_wp2
        go_quiet (fail)
        go_wp2
        go_roundw
        case rel =>
          refine ⟨k + 1, by omega, by omega, by go_num, ?_, _, by first | rfl | rw [World.drewN_drewN]⟩
          intro j hj hjk
          by_cases e : j + 1 < k
          · exact Hn.out j hj e
          · have h2 := HL.out
            have h3 : j = k - 1 := by omega
            subst h3
            have h4 : k - 1 + 1 = k := by omega
            simp only [h4]
            omega
        case measure => simp [intOf]; omega
    · go_wp2
      go_ret
      refine ⟨ret_bool ?_, _, rfl⟩
      symm
      rw [Bs.asc_iff]
      intro j hj
      exact Hn.out j hj (by omega)

theorem isTask_any (A : Option Addr) (n c : Nat) (a : Int) (w : World) (_hn : n ≤ 9223372036854775807) :
    Calls Try.prog 56 #[.slice A n c, .int .i64 a] w fun e w' => e = .returned (.bool (decide (0 ≤ a ∧ a < n))) ∧ w = w' := by
  go_enter Try.func56, Try.ntmps56
  go_wp2
  all_goals go_ret
  all_goals exact ⟨ret_bool (by simp; try omega), rfl⟩

theorem u64_pow (a : Nat) (ha : a < 8) : IntKind.u64.wrap (2 ^ a) = ((2 ^ a : Nat) : Int) := by
  rw [IntKind.wrap_u64]
  have h : a = 0 ∨ a = 1 ∨ a = 2 ∨ a = 3 ∨ a = 4 ∨ a = 5 ∨ a = 6 ∨ a = 7 := by omega
  rcases h with rfl | rfl | rfl | rfl | rfl | rfl | rfl | rfl <;> rfl
theorem pow_lt8 {a : Nat} (ha : a < 8) : 2 ^ a < 256 := by
  have h : a = 0 ∨ a = 1 ∨ a = 2 ∨ a = 3 ∨ a = 4 ∨ a = 5 ∨ a = 6 ∨ a = 7 := by omega
  rcases h with rfl | rfl | rfl | rfl | rfl | rfl | rfl | rfl <;> decide
theorem or_pow (s a : Nat) (hs : s < 256) (ha : a < 8) : bits .or .u64 (s : Int) (IntKind.u64.wrap (2 ^ a)) = ((s ||| (1 <<< a) : Nat) : Int) := by
  rw [u64_pow a ha, bits_or_u64_nat s (2 ^ a) (by omega) (by have := pow_lt8 ha; omega), Nat.one_shiftLeft]
theorem and_pow (s a : Nat) (hs : s < 256) (ha : a < 8) : (bits .and .u64 (s : Int) (IntKind.u64.wrap (2 ^ a)) != 0) = s.testBit a := by
  rw [u64_pow a ha, bits_and_u64_nat s (2 ^ a) (by omega) (by have := pow_lt8 ha; omega), Nat.testBit_eq_decide_div_mod_eq]
  have h2 := Nat.two_pow_pos a
  have h3 : s &&& 2 ^ a = s / 2 ^ a % 2 * 2 ^ a := nat_bit a s
  rw [h3]
  rcases Nat.mod_two_eq_zero_or_one (s / 2 ^ a) with h4 | h4
  · rw [h4]; simp
  · rw [h4, Nat.one_mul]
    simp only [decide_true, bne_iff_ne, ne_eq]
    omega

theorem hasTask_any (s a : Nat) (w : World) (hs : s < 256) (ha : a < 8) :
    Calls Try.prog 58 #[.int .u64 s, .int .i64 a] w fun e w' => e = .returned (.bool (s.testBit a)) ∧ w = w' := by
  go_enter Try.func58, Try.ntmps58
  go_wp2
  go_ret
  exact ⟨ret_bool (and_pow s a hs ha), rfl⟩

theorem setOf_any (A : Option Addr) (c : Nat) (l : List Int) (lo hi : Nat) (w : World) (h : RI w lo hi A l) (hl : l.length ≤ 9223372036854775807) (h8 : ∀ x ∈ l, 0 ≤ x ∧ x < 8) :
    Calls Try.prog 61 #[.slice A l.length c] w fun e w' => e = .returned (.int .u64 (Bs.bits l : Nat)) ∧ w = w' := by
  go_enter Try.func61, Try.ntmps61
  go_wp2
  go_loop [3, 8] (fun s i => ∃ k : Nat, k ≤ l.length ∧ i = .int .i64 k ∧ s = .int .u64 (Bs.bits (l.take k) : Nat)) (fun _ i => l.length - (intOf i).toNat)
  case atStart => exact ⟨0, Nat.zero_le _, rfl, rfl⟩
  case round =>
    obtain ⟨k, hk, rfl, rfl⟩ := hrel
    have H8 := Lib.hid h8
    clear h8
    by_cases hlt : k < l.length
    · obtain ⟨b, o, rfl, _, _, hc⟩ := h.at_ hlt
      have hx := H8.out _ (List.getElem_mem hlt)
      obtain ⟨a, ha⟩ : ∃ a : Nat, l[k] = (a : Int) := ⟨l[k].toNat, by omega⟩
      rw [ha] at hc hx
      have ha8 : a < 8 := by omega
      clear hx
      have hs := Bs.bits_lt (l.take k) (fun x hx => H8.out x (List.mem_of_mem_take hx))
      have HS := Lib.hid (show Bs.bits (l.take (k + 1)) = Bs.bits (l.take k) ||| (1 <<< a) from by
        rw [show l.take (k + 1) = l.take k ++ [l[k]] from List.take_succ_eq_append_getElem hlt, Bs.bits_snoc, ha, Int.toNat_natCast])
      have HA := Lib.hid ha
      clear ha
      generalize Bs.bits (l.take k) = s at *
      go_wp2
      go_round
      case rel => exact ⟨k + 1, by omega, by go_num, by rw [HS.out, or_pow s a hs ha8]⟩
      case measure => simp [intOf]; omega
    · have He := Lib.hid (show l.take k = l from List.take_of_length_le (by omega))
      go_wp2
      go_ret
      exact ⟨ret_int (by rw [He.out]), rfl⟩

theorem ascendingTasks_any (A : Option Addr) (n c : Nat) (A' : Option Addr) (c' : Nat) (l : List Int) (lo hi : Nat) (w : World) (hn : n ≤ 9223372036854775807) (h : RI w lo hi A' l) (hl : l.length ≤ 9223372036854775807) :
    Calls Try.prog 77 #[.slice A n c, .slice A' l.length c'] w fun e w' => e = .returned (.bool (Bs.allInB l 0 (n - 1) && Bs.asc l)) ∧ w = w' := by
  go_enter Try.func77, Try.ntmps77
  go_wp2
  go_loop [5, 10] (fun s i => ∃ k : Nat, ∃ q : Int, k ≤ l.length ∧ i = .int .i64 k ∧ s = .int .i64 q ∧ -1 ≤ q ∧ (∀ h : 0 < k, ∃ h' : k - 1 < l.length, q = l[k - 1]) ∧ (∀ j (hj : j < l.length), j < k → 0 ≤ l[j] ∧ l[j] < n) ∧ (∀ j (hj : j + 1 < l.length), j + 1 < k → l[j] < l[j + 1]) ∧ (k = 0 → q = -1)) (fun _ i => l.length - (intOf i).toNat)
  case atStart => exact ⟨0, -1, Nat.zero_le _, rfl, rfl, by omega, by intro h; omega, by intro j _ h; omega, by intro j _ h; omega, fun _ => rfl⟩
  case round =>
    obtain ⟨k, q, hk, rfl, rfl, hq, h1, h2, h3, h4⟩ := hrel
    have H1 := Lib.hid h1
    have H2 := Lib.hid h2
    have H3 := Lib.hid h3
    have H4 := Lib.hid h4
    clear h1 h2 h3 h4
    by_cases hlt : k < l.length
    · obtain ⟨b, o, rfl, _, _, hc⟩ := h.at_ hlt
      by_cases hle : l[k] ≤ q
      · have hd : decide (l[k] ≤ q) = true := by simpa using hle
        have HL := Lib.hid hle
        clear hle
        go_wp2_with (go_at_call 56; refine (isTask_any _ _ _ _ _ hn).mono ?_; rintro e w' ⟨rfl, rfl⟩)
        go_ret
        refine ⟨ret_bool ?_, rfl⟩
        symm
        rw [Bool.eq_false_iff]
        intro hx
        rw [Bool.and_eq_true] at hx
        obtain ⟨hx1, hx2⟩ := hx
        unfold Bs.allInB at hx1
        rw [List.all_eq_true] at hx1
        have h5 := hx1 _ (List.getElem_mem hlt)
        rw [decide_eq_true_eq] at h5
        have h6 := HL.out
        by_cases e : k = 0
        · have := H4.out e; omega
        · obtain ⟨h7, h8⟩ := H1.out (by omega)
          have h9 := (Bs.asc_iff l).1 hx2 (k - 1) (by omega)
          have h10 : k - 1 + 1 = k := by omega
          simp only [h10] at h9
          omega
      · have hd : decide (l[k] ≤ q) = false := by simpa using hle
        have HL := Lib.hid hle
        clear hle
        cases he : decide (0 ≤ l[k] ∧ l[k] < n)
        · have hc1 := isTask_any A n c l[k] w hn
          rw [he] at hc1
          have HC := Lib.hid hc1
          have HE := Lib.hid he
          clear he hc1
          go_wp2_with (go_at_call 56; refine (HC.out).mono ?_; rintro e w' ⟨rfl, rfl⟩)
          go_ret
          refine ⟨ret_bool ?_, rfl⟩
          symm
          rw [Bool.eq_false_iff]
          intro hx
          rw [Bool.and_eq_true] at hx
          obtain ⟨hx1, hx2⟩ := hx
          unfold Bs.allInB at hx1
          rw [List.all_eq_true] at hx1
          have h5 := hx1 _ (List.getElem_mem hlt)
          rw [decide_eq_true_eq] at h5
          have h6 := HE.out
          rw [decide_eq_false_iff_not] at h6
          omega
        · have hc1 := isTask_any A n c l[k] w hn
          rw [he] at hc1
          have HC := Lib.hid hc1
          have HE := Lib.hid (of_decide_eq_true he)
          clear he hc1
          go_wp2_with (go_at_call 56; refine (HC.out).mono ?_; rintro e w' ⟨rfl, rfl⟩)
          go_round
          case rel =>
            have h6 := HE.out
            have h7 := HL.out
            refine ⟨k + 1, l[k], by omega, by go_num, rfl, by omega, fun _ => ⟨by omega, rfl⟩, ?_, ?_, by omega⟩
            · intro j hj hjk
              by_cases e : j < k
              · exact H2.out j hj e
              · have : j = k := by omega
                subst this
                exact h6
            · intro j hj hjk
              by_cases e : j + 1 < k
              · exact H3.out j hj e
              · have : j + 1 = k := by omega
                obtain ⟨h8, h9⟩ := H1.out (by omega)
                subst this
                simp only [Nat.add_sub_cancel] at h9
                omega
          case measure => simp [intOf]; omega
    · go_wp2
      go_ret
      refine ⟨ret_bool ?_, rfl⟩
      symm
      rw [Bool.and_eq_true]
      refine ⟨?_, ?_⟩
      · unfold Bs.allInB
        rw [List.all_eq_true]
        intro x hx
        obtain ⟨j, hj, rfl⟩ := List.mem_iff_getElem.1 hx
        have := H2.out j hj (by omega)
        rw [decide_eq_true_eq]
        omega
      · rw [Bs.asc_iff]
        intro j hj
        exact H3.out j hj (by omega)
end Go.Proofs.Ytiokblodjhmjmab
