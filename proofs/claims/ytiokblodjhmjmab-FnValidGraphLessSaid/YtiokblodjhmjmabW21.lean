/-
  WALKS: the links of the critical chain.
-/
import Derived.Test.YtiokblodjhmjmabW19
namespace Go.Proofs.Ytiokblodjhmjmab
open Go.RowKit
def firstI (n : Nat) (p : Nat → Bool) : Int := match (List.range n).find? p with | none => -1 | some i => (i : Int)
theorem firstI_yes {n : Nat} {p : Nat → Bool} {k : Nat} (hk : k < n) (h : ∀ j, j < k → p j = false) (hp : p k = true) : firstI n p = k := by
  unfold firstI; rw [Bs.find_first hk h hp]
theorem firstI_no {n : Nat} {p : Nat → Bool} (h : ∀ j, j < n → p j = false) : firstI n p = -1 := by
  unfold firstI
  rw [List.find?_eq_none.2]
  intro j hj
  rw [h j (List.mem_range.1 hj)]
  simp
theorem firstI_cases (n : Nat) (p : Nat → Bool) : firstI n p = -1 ∨ ∃ k : Nat, k < n ∧ firstI n p = k ∧ p k = true := by
  unfold firstI
  cases h : (List.range n).find? p with
  | none => exact .inl rfl
  | some i => exact .inr ⟨i, by have := List.mem_of_find?_eq_some h; simpa using this, rfl, List.find?_some h⟩
theorem below_k {p : Nat → Bool} {k : Nat} (h : ∀ j, j < k → p j = false) (hp : p k = false) : ∀ j, j < k + 1 → p j = false := by
  intro j hj
  by_cases e : j < k
  · exact h j e
  · have : j = k := by omega
    subst this
    exact hp
def linkF (n : Nat) (t : List Int) (want : Int) : Int := firstI n fun i => Bs.gi t i == want
def linkN (g : List Bs.T) (t : List Int) (v : Int) (want : Int) : Int := firstI g.length fun i => Bs.gi t i == want && (Bs.need g i).contains v

theorem firstCritical_any (A : Option Addr) (c : Nat) (t : List Int) (want : Int) (lo hi : Nat) (w : World) (h : RI w lo hi A t) (hl : t.length ≤ 1000) :
    Calls Try.prog 46 #[.slice A t.length c, .int .i64 want] w fun e w' => e = .returned (.int .i64 (linkF t.length t want)) ∧ w = w' := by
  go_enter Try.func46, Try.ntmps46
  go_wp2
  go_loop [8] (fun i => ∃ k : Nat, k ≤ t.length ∧ i = .int .i64 k ∧ ∀ j, j < k → (fun i => Bs.gi t i == want) j = false) (fun i => t.length - (intOf i).toNat)
  case atStart => exact ⟨0, Nat.zero_le _, rfl, by intro j hj; omega⟩
  case round =>
    obtain ⟨k, hk, rfl, hn⟩ := hrel
    have HN := Lib.hid hn
    clear hn
    by_cases hlt : k < t.length
    · obtain ⟨b, o, rfl, _, _, hc⟩ := h.gi hlt
      by_cases he : Bs.gi t k = want
      · have hd : (Bs.gi t k == want) = true := by simpa using he
        have HR := Lib.hid (firstI_yes hlt HN.out hd)
        clear he
        generalize Bs.gi t k = x at *
        go_wp2
        go_ret
        exact ⟨ret_int HR.out.symm, rfl⟩
      · have hd : (Bs.gi t k == want) = false := by simpa using he
        have HR := Lib.hid (below_k HN.out hd)
        clear he
        generalize Bs.gi t k = x at *
        go_wp2
        go_round
        case rel => exact ⟨k + 1, by omega, by go_num, HR.out⟩
        case measure => simp [intOf]; omega
    · obtain rfl : k = t.length := by omega
      have HR := Lib.hid (firstI_no HN.out)
      go_wp2
      go_ret
      exact ⟨ret_int HR.out.symm, rfl⟩

set_option maxHeartbeats 800000 in
theorem nextLinkF_any (A : Option Addr) (c : Nat) (g : List Bs.T) (A' : Option Addr) (c' : Nat) (t : List Int) (want : Int) (lo' hi' : Nat) (w : World) (h : RI w lo' hi' A' t) (hl : g.length ≤ 1000) (htl : g.length ≤ t.length) :
    Calls Try.prog 51 #[.slice A g.length c, .slice A' t.length c', .int .i64 (-1), .int .i64 want] w fun e w' => e = .returned (.int .i64 (linkF g.length t want)) ∧ w = w' := by
  go_enter Try.func51, Try.ntmps51
  go_wp2
  go_loop [9] (fun i => ∃ k : Nat, k ≤ g.length ∧ i = .int .i64 k ∧ ∀ j, j < k → (fun i => Bs.gi t i == want) j = false) (fun i => g.length - (intOf i).toNat)
  case atStart => exact ⟨0, Nat.zero_le _, rfl, by intro j hj; omega⟩
  case round =>
    obtain ⟨k, hk, rfl, hn⟩ := hrel
    have HN := Lib.hid hn
    clear hn
    by_cases hlt : k < g.length
    · obtain ⟨b, o, rfl, _, _, hc⟩ := h.gi (k := k) (by omega)
      by_cases he : Bs.gi t k = want
      · have hd : (Bs.gi t k == want) = true := by simpa using he
        have HR := Lib.hid (firstI_yes hlt HN.out hd)
        clear he
        generalize Bs.gi t k = x at *
        go_wp2
        go_ret
        exact ⟨ret_int HR.out.symm, rfl⟩
      · have hd : (Bs.gi t k == want) = false := by simpa using he
        have HR := Lib.hid (below_k HN.out hd)
        clear he
        generalize Bs.gi t k = x at *
        go_wp2
        go_round
        case rel => exact ⟨k + 1, by omega, by go_num, HR.out⟩
        case measure => simp [intOf]; omega
    · obtain rfl : k = g.length := by omega
      have HR := Lib.hid (firstI_no HN.out)
      go_wp2
      go_ret
      exact ⟨ret_int HR.out.symm, rfl⟩

set_option maxHeartbeats 800000 in
theorem nextLinkN_any (A : Option Addr) (c : Nat) (g : List Bs.T) (A' : Option Addr) (c' : Nat) (t : List Int) (v : Nat) (want : Int) (lo hi lo' hi' : Nat) (w : World) (hG : RG w lo hi A g) (h : RI w lo' hi' A' t) (hl : g.length ≤ 1000) (htl : g.length ≤ t.length) :
    Calls Try.prog 51 #[.slice A g.length c, .slice A' t.length c', .int .i64 v, .int .i64 want] w fun e w' => e = .returned (.int .i64 (linkN g t v want)) ∧ w = w' := by
  go_enter Try.func51, Try.ntmps51
  go_wp2
  go_loop [9] (fun i => ∃ k : Nat, k ≤ g.length ∧ i = .int .i64 k ∧ ∀ j, j < k → (fun i => Bs.gi t i == want && (Bs.need g i).contains (v : Int)) j = false) (fun i => g.length - (intOf i).toNat)
  case atStart => exact ⟨0, Nat.zero_le _, rfl, by intro j hj; omega⟩
  case round =>
    obtain ⟨k, hk, rfl, hn⟩ := hrel
    have HN := Lib.hid hn
    clear hn
    by_cases hlt : k < g.length
    · obtain ⟨b, o, rfl, _, _, hc⟩ := h.gi (k := k) (by omega)
      obtain ⟨b', o', N, cN, rfl, h1, h2, _, q1, _, _, hlN, hcN, hN⟩ := hG k hlt
      have c1 := isIn_any N cN g[k].needs (v : Int) _ _ w hN (by omega)
      by_cases he : Bs.gi t k = want
      · have hd : (Bs.gi t k == want) = true := by simpa using he
        cases hv : g[k].needs.contains (v : Int)
        · rw [hv] at c1
          have C1 := Lib.hid c1
          have HR := Lib.hid (below_k HN.out (show (Bs.gi t k == want && (Bs.need g k).contains (v : Int)) = false from by rw [Bs.need_eq hlt, hv]; simp))
          clear he c1 hv
          generalize Bs.gi t k = x at *
          go_wp2_with (go_at_call 63; refine (C1.out).mono ?_; rintro e w' ⟨rfl, rfl⟩)
          go_round
          case rel => exact ⟨k + 1, by omega, by go_num, HR.out⟩
          case measure => simp [intOf]; omega
        · rw [hv] at c1
          have C1 := Lib.hid c1
          have HR := Lib.hid (firstI_yes hlt HN.out (show (Bs.gi t k == want && (Bs.need g k).contains (v : Int)) = true from by rw [Bs.need_eq hlt, hv, hd]; rfl))
          clear he c1 hv
          generalize Bs.gi t k = x at *
          go_wp2_with (go_at_call 63; refine (C1.out).mono ?_; rintro e w' ⟨rfl, rfl⟩)
          go_ret
          exact ⟨ret_int HR.out.symm, rfl⟩
      · have hd : (Bs.gi t k == want) = false := by simpa using he
        have HR := Lib.hid (below_k HN.out (show (Bs.gi t k == want && (Bs.need g k).contains (v : Int)) = false from by rw [hd]; rfl))
        clear he c1
        generalize Bs.gi t k = x at *
        go_wp2
        go_round
        case rel => exact ⟨k + 1, by omega, by go_num, HR.out⟩
        case measure => simp [intOf]; omega
    · obtain rfl : k = g.length := by omega
      have HR := Lib.hid (firstI_no HN.out)
      go_wp2
      go_ret
      exact ⟨ret_int HR.out.symm, rfl⟩

set_option maxHeartbeats 800000 in
theorem nextCritical_any (A : Option Addr) (c : Nat) (g : List Bs.T) (A' : Option Addr) (c' : Nat) (t : List Int) (v : Nat) (lo hi lo' hi' : Nat) (w : World) (hG : RG w lo hi A g) (h : RI w lo' hi' A' t) (hF : Bs.fine g = true) (htl : g.length ≤ t.length) (hv : v < g.length) (hb : 0 ≤ Bs.gi t v ∧ Bs.gi t v ≤ 160) :
    Calls Try.prog 47 #[.slice A g.length c, .slice A' t.length c', .int .i64 v] w fun e w' => e = .returned (.int .i64 (linkN g t v (Bs.gi t v - Bs.timeOf g v))) ∧ ∃ n, w' = w.drewN n := by
  have h8 := Bs.fine_len hF
  obtain ⟨b, o, rfl, _, _, hc⟩ := h.gi (k := v) (by omega)
  obtain ⟨b', o', N, cN, rfl, h1, h2, q0, _, _, _, _, _, _⟩ := hG v hv
  rw [← Bs.timeOf_eq hv] at q0
  have hti := Bs.fine_time hF hv
  have HF := Lib.hid hF
  have hv1 : (v : Int) < (g.length : Int) := by omega
  have hv2 : (v : Int) < (t.length : Int) := by omega
  clear hF
  generalize hgx : Bs.gi t v = xv at *
  generalize hty : Bs.timeOf g v = yv at *
  have HGX := Lib.hid (And.intro hgx hty)
  clear hgx hty
  go_enter Try.func47, Try.ntmps47
  go_wp2
  go_quiet (fail)
  go_wp2
  go_loop [21] (fun i => ∃ k : Nat, k ≤ g.length ∧ i = .int .i64 k ∧ ∀ j, j < k → (fun i => Bs.gi t i == xv - yv && (Bs.need g i).contains (v : Int)) j = false) (fun i => g.length - (intOf i).toNat)
  case atStart => exact ⟨0, Nat.zero_le _, rfl, by intro j hj; omega⟩
  case round =>
    clear hc q0
    obtain ⟨k, hk, rfl, hn⟩ := hrel
    have HN := Lib.hid hn
    clear hn
    by_cases hlt : k < g.length
    · obtain ⟨b1, o1, e1, _, _, hc⟩ := h.gi (k := k) (by omega)
      injection e1 with e1
      injection e1 with e1 e2
      subst e1
      subst e2
      obtain ⟨b2, o2, N, cN, e2, _, _, _, q1, _, _, hlN, hcN, hN⟩ := hG k hlt
      injection e2 with e2
      injection e2 with e1 e2
      subst e1
      subst e2
      have n8 := Bs.need_eight HF.out hlt
      have c1 := fun n => setOf_any N cN g[k].needs _ _ (w.drewN n) hN (by omega) n8
      have c2 := fun W => hasTask_any (Bs.bits g[k].needs) v W (Bs.bits_lt _ n8) (by omega)
      rw [Bs.bits_test g[k].needs (fun x hx => (n8 x hx).1)] at c2
      have C1 := Lib.hid c1
      clear n8 c1
      generalize Bs.bits g[k].needs = s at *
      by_cases he : Bs.gi t k = xv - yv
      · have hd : (Bs.gi t k == xv - yv) = true := by simpa using he
        cases hv : g[k].needs.contains (v : Int)
        · rw [hv] at c2
          have C2 := Lib.hid c2
          have HR := Lib.hid (below_k HN.out (show (Bs.gi t k == xv - yv && (Bs.need g k).contains (v : Int)) = false from by rw [Bs.need_eq hlt, hv]; simp))
          clear he c2 hv
          generalize Bs.gi t k = x at *
          go_wp2_with (first | (go_at_call 61; refine (C1.out _).mono ?_; rintro e w' ⟨rfl, rfl⟩) | (go_at_call 58; refine (C2.out _).mono ?_; rintro e w' ⟨rfl, rfl⟩))
          go_round
          case rel => exact ⟨k + 1, by omega, by go_num, HR.out⟩
          case measure => simp [intOf]; omega
        · rw [hv] at c2
          have C2 := Lib.hid c2
          have HR := Lib.hid (firstI_yes hlt HN.out (show (Bs.gi t k == xv - yv && (Bs.need g k).contains (v : Int)) = true from by rw [Bs.need_eq hlt, hv, hd]; rfl))
          clear he c2 hv
          generalize Bs.gi t k = x at *
          go_wp2_with (first | (go_at_call 61; refine (C1.out _).mono ?_; rintro e w' ⟨rfl, rfl⟩) | (go_at_call 58; refine (C2.out _).mono ?_; rintro e w' ⟨rfl, rfl⟩))
          go_ret
          exact ⟨ret_int HR.out.symm, _, rfl⟩
      · have hd : (Bs.gi t k == xv - yv) = false := by simpa using he
        have HR := Lib.hid (below_k HN.out (show (Bs.gi t k == xv - yv && (Bs.need g k).contains (v : Int)) = false from by rw [hd]; rfl))
        clear he c2
        generalize Bs.gi t k = x at *
        go_wp2
        go_round
        case rel => exact ⟨k + 1, by omega, by go_num, HR.out⟩
        case measure => simp [intOf]; omega
    · obtain rfl : k = g.length := by omega
      have HR := Lib.hid (firstI_no HN.out)
      go_wp2
      go_ret
      exact ⟨ret_int HR.out.symm, _, rfl⟩
end Go.Proofs.Ytiokblodjhmjmab
