/-
  WHAT THE LAWS OF USERS WANT: facts on the answers, ready for the walks. No condition.
-/
import Derived.Test.YtcoipkogfgcdeaaW105
import Derived.Test.YtcoipkogfgcdeaaL1
namespace Go.Proofs.Ytcoipkogfgcdeaa
open Go.RowKit
theorem FairParts_len100 (g : List Bs.U) (a : Int) (h : g.length ≤ 100) : (Bs.partL g a).length ≤ 1000 := Nat.le_trans (Bs.partL_len g a) (by omega)
theorem part_can {g : List Bs.U} {L : List Int} {a : Int} (hL : L = Bs.partL g a) (h0 : ¬ L.length = 0) : Bs.partOk g a = true := by
  cases h : Bs.partOk g a
  · rw [Bs.partL_no h] at hL; rw [hL] at h0; exact absurd rfl h0
  · rfl
theorem part_law {g : List Bs.U} {a : Int} (h : Bs.partOk g a = true) : (Bs.partL g a).length = g.length ∧ Bs.sumZ (Bs.partL g a) = a ∧ ∀ i, i < g.length → Bs.flP g a i ≤ Bs.gi (Bs.partL g a) i ∧ Bs.gi (Bs.partL g a) i ≤ Bs.flP g a i + 1 := by
  obtain ⟨hu, ha⟩ := Bs.partOk_iff.1 h
  obtain ⟨r0, r1⟩ := Bs.rest_b hu ha
  rw [Bs.partL_yes h]
  refine ⟨Bs.partC_len g a, ?_, ?_⟩
  · unfold Bs.partC
    rw [Bs.sum_part g a (by omega)]
    unfold Bs.restP at r0 ⊢
    omega
  · intro i hi
    unfold Bs.partC
    rw [Bs.partK_gi hi]
    split <;> omega
theorem part_small {g : List Bs.U} {a : Int} (h : Bs.partOk g a = true) : ∀ x ∈ Bs.partL g a, 0 ≤ x ∧ x ≤ 100001 := by
  obtain ⟨hu, ha⟩ := Bs.partOk_iff.1 h
  obtain ⟨h1, _, h3⟩ := part_law h
  intro x hx
  obtain ⟨i, hi, rfl⟩ := List.mem_iff_getElem.1 hx
  have h4 := h3 i (by omega)
  have h5 := Bs.flP_b hu ha (i := i) (by omega)
  rw [← Bs.gi_at hi]
  omega
/-- users of the same shares who have used nothing -/
def bareU (l : List Bs.U) : List Bs.U := l.map fun u => ⟨u.share, 0, 0⟩
theorem bare_len (l : List Bs.U) : (bareU l).length = l.length := by simp [bareU]
theorem bare_gu (l : List Bs.U) (i : Nat) : Bs.gu (bareU l) i = ⟨(Bs.gu l i).share, 0, 0⟩ := by
  unfold Bs.gu bareU
  simp only [List.getD_eq_getElem?_getD, List.getElem?_map]
  cases l[i]? <;> rfl
theorem bare_take (l : List Bs.U) {k : Nat} (hk : k < l.length) : bareU (l.take (k + 1)) = bareU (l.take k) ++ [⟨(Bs.gu l k).share, 0, 0⟩] := by
  unfold bareU
  rw [List.take_succ_eq_append_getElem hk, List.map_append, Bs.gu_at hk]
  rfl
theorem bare_part {l : List Bs.U} {a : Int} (h : Bs.partOk l a = true) : Bs.partL (bareU l) a = Bs.partL l a := by
  obtain ⟨hu, ha⟩ := Bs.partOk_iff.1 h
  obtain ⟨h15, hu2⟩ := Bs.usersOk_iff.1 hu
  have e1 := bare_len l
  have e2 : Bs.shF (bareU l) = Bs.shF l := by
    funext i
    unfold Bs.shF
    rw [bare_gu]
  have hb : Bs.partOk (bareU l) a = true := by
    refine Bs.partOk_iff.2 ⟨Bs.usersOk_iff.2 ⟨by rw [e1]; exact h15, fun k hk => ?_⟩, ha⟩
    rw [bare_gu]
    obtain ⟨s1, _⟩ := Bs.uOk_iff.1 (hu2 k (by omega))
    exact Bs.uOk_iff.2 ⟨s1, show (0 : Int) ≤ 0 ∧ (0 : Int) ≤ 10000 from by decide, show (0 : Int) ≤ 0 ∧ (0 : Int) ≤ 6 from by decide⟩
  rw [Bs.partL_yes hb, Bs.partL_yes h]
  unfold Bs.partC Bs.restP Bs.flS Bs.partK Bs.flP Bs.shS
  rw [e1, e2]
/-- users of equal shares -/
def eqU (n : Nat) : List Bs.U := List.replicate n ⟨3, 0, 0⟩
theorem eqU_len (n : Nat) : (eqU n).length = n := List.length_replicate
theorem eqU_succ (n : Nat) : eqU (n + 1) = eqU n ++ [⟨3, 0, 0⟩] := List.replicate_succ'
theorem eqU_gu {n i : Nat} (hi : i < n) : Bs.gu (eqU n) i = ⟨3, 0, 0⟩ := by
  rw [Bs.gu_at (by rw [eqU_len]; exact hi)]
  simp [eqU]
theorem eq_part {n : Nat} {a : Int} (hn : 1 ≤ n ∧ n ≤ 5) (ha : 0 ≤ a ∧ a ≤ 10000) : (Bs.partL (eqU n) a).length = n ∧ (∀ i, i < n → 0 ≤ Bs.gi (Bs.partL (eqU n) a) i ∧ Bs.gi (Bs.partL (eqU n) a) i ≤ 100001) ∧
    ∀ i, 1 ≤ i → i < n → Bs.gi (Bs.partL (eqU n) a) i ≤ Bs.gi (Bs.partL (eqU n) a) (i - 1) ∧ Bs.gi (Bs.partL (eqU n) a) 0 - Bs.gi (Bs.partL (eqU n) a) i ≤ 1 := by
  have hok : Bs.partOk (eqU n) a = true := by
    refine Bs.partOk_iff.2 ⟨Bs.usersOk_iff.2 ⟨by rw [eqU_len]; exact hn, fun k hk => ?_⟩, ha⟩
    rw [eqU_len] at hk
    rw [eqU_gu hk]
    decide
  obtain ⟨h1, _, _⟩ := part_law hok
  have h3 := part_small hok
  rw [eqU_len] at h1
  refine ⟨h1, fun i hi => ?_, fun i h0 hi => ?_⟩
  · rw [Bs.gi_at (by omega)]
    exact h3 _ (List.getElem_mem _)
  · have hf : ∀ j, j < n → Bs.flP (eqU n) a j = a * 3 / Bs.shS (eqU n) := fun j hj => by
      unfold Bs.flP Bs.shF
      rw [eqU_gu hj]
    rw [Bs.partL_yes hok]
    unfold Bs.partC
    rw [Bs.partK_gi (by rw [eqU_len]; exact hi), Bs.partK_gi (by rw [eqU_len]; omega), Bs.partK_gi (by rw [eqU_len]; omega), hf i hi, hf (i - 1) (by omega), hf 0 (by omega)]
    constructor
    · split <;> split <;> omega
    · split <;> split <;> omega
theorem sum_bdB {l : List Int} (hb : ∀ x ∈ l, 0 ≤ x ∧ x ≤ 100001) : ∀ k, k ≤ l.length → 0 ≤ Bs.sumZ (l.take k) ∧ Bs.sumZ (l.take k) ≤ 100001 * k := by
  intro k
  induction k with
  | zero => intro _; simp [Bs.sumZ]
  | succ k ih =>
    intro hk
    have h1 := ih (by omega)
    have h2 := hb l[k] (List.getElem_mem (by omega))
    rw [List.take_succ_eq_append_getElem (by omega), Bs.sumZ_append]
    simp only [Bs.sumZ]
    omega
theorem lsumB_any (A : Option Addr) (c : Nat) (l : List Int) (lo hi : Nat) (w : World) (h : RI w lo hi A l) (hl : l.length ≤ 1000) (hb : ∀ x ∈ l, 0 ≤ x ∧ x ≤ 100001) :
    Calls Try.prog 34 #[.slice A l.length c] w fun e w' => e = .returned (.int .i64 (Bs.sumZ l)) ∧ w = w' := by
  have HX := Lib.hid (sum_bdB hb)
  have HY := Lib.hid hb
  clear hb
  go_enter Try.func34, Try.ntmps34
  go_wp2
  go_loop [3, 4] (fun s i => ∃ k : Nat, k ≤ l.length ∧ i = .int .i64 k ∧ ∃ a : Int, s = .int .i64 a ∧ a = Bs.sumZ (l.take k)) (fun _ i => l.length - (intOf i).toNat)
  case atStart => exact ⟨0, Nat.zero_le _, rfl, 0, rfl, by simp [Bs.sumZ]⟩
  case round =>
    obtain ⟨k, hk, rfl, a, rfl, ha⟩ := hrel
    by_cases hlt : k < l.length
    · obtain ⟨b, o, rfl, _, _, hc⟩ := h.at_ hlt
      have h2 := HY.out l[k] (List.getElem_mem hlt)
      have h3 := HX.out k hk
      rw [← ha] at h3
      have hs : Bs.sumZ (l.take (k + 1)) = a + l[k] := by rw [List.take_succ_eq_append_getElem hlt, Bs.sumZ_append, ← ha]; simp [Bs.sumZ]
      have HS := Lib.hid hs
      clear hs ha
      generalize l[k] = x at *
      have hw : IntKind.i64.wrap (a + x) = a + x := IntWalk.i64_in _ ⟨by omega, by omega⟩
      go_wp2
      go_round
      case rel => exact ⟨k + 1, by omega, by go_num, a + x, rfl, HS.out.symm⟩
      case measure => simp [intOf]; omega
    · have e : l.take k = l := List.take_of_length_le (by omega)
      rw [e] at ha
      have Hn := Lib.hid ha
      clear ha e
      go_wp2
      go_ret
      first | exact ⟨ret_int Hn.out, rfl⟩ | exact ⟨ret_int Hn.out.symm, rfl⟩
/-- who comes next, of the laws -/
theorem next_law {g : List Bs.U} (h : ¬ Bs.nextL g < 0) : Bs.usersOk g = true ∧ ∃ m : Nat, Bs.nextL g = (m : Int) ∧ m < g.length ∧ 0 < (Bs.gu g m).waits ∧ (∀ j, j < g.length → (0 ≤ (Bs.gu g j).used * (Bs.gu g m).share ∧ (Bs.gu g j).used * (Bs.gu g m).share ≤ 100000) ∧ (0 ≤ (Bs.gu g m).used * (Bs.gu g j).share ∧ (Bs.gu g m).used * (Bs.gu g j).share ≤ 100000) ∧
    (0 < (Bs.gu g j).waits → ¬ (Bs.gu g j).used * (Bs.gu g m).share < (Bs.gu g m).used * (Bs.gu g j).share ∧ ((Bs.gu g j).used * (Bs.gu g m).share = (Bs.gu g m).used * (Bs.gu g j).share → ¬ j < m))) := by
  cases hu : Bs.usersOk g
  · rw [Bs.nextL_no hu] at h
    exact absurd (by decide) h
  refine ⟨rfl, ?_⟩
  obtain ⟨_, hu2⟩ := Bs.usersOk_iff.1 hu
  have hi := Bs.nextC_is hu
  rw [Bs.nextL_yes hu] at h ⊢
  rcases hi with ⟨e, _⟩ | ⟨m, e, hm, hw, h2⟩
  · rw [e] at h
    exact absurd (by decide) h
  · refine ⟨m, e, hm, hw, fun j hj => ⟨Bs.uprod (hu2 j hj) (hu2 m hm), Bs.uprod (hu2 m hm) (hu2 j hj), fun hjw => ?_⟩⟩
    have h3 := h2 j hj hjw
    have h4 := Bs.ukey_lt (hu2 j hj) (hu2 m hm)
    have h5 := Bs.ukey_eq (hu2 j hj) (hu2 m hm)
    constructor
    · rw [h4]; omega
    · rw [h5]; omega
/-- does one of the first k wait? -/
def anyW (g : List Bs.U) : Nat → Bool
  | 0 => false
  | k + 1 => anyW g k || decide (0 < (Bs.gu g k).waits)
theorem anyW_iff (g : List Bs.U) : ∀ k, anyW g k = true ↔ ∃ j, j < k ∧ 0 < (Bs.gu g j).waits := by
  intro k
  induction k with
  | zero => simp [anyW]
  | succ k ih =>
    unfold anyW
    rw [Bool.or_eq_true, ih, decide_eq_true_eq]
    constructor
    · rintro (⟨j, h1, h2⟩ | h)
      · exact ⟨j, by omega, h2⟩
      · exact ⟨k, by omega, h⟩
    · rintro ⟨j, h1, h2⟩
      by_cases e : j = k
      · subst e; exact .inr h2
      · exact .inl ⟨j, by omega, h2⟩
theorem none_next {g : List Bs.U} (hu : Bs.usersOk g = true) : (Bs.nextL g == -1) = !anyW g g.length := by
  rw [Bs.nextL_yes hu]
  rcases Bs.nextC_is hu with ⟨e, h⟩ | ⟨m, e, hm, hw, _⟩
  · have : anyW g g.length = false := by
      rw [Bool.eq_false_iff]
      intro h2
      obtain ⟨j, h3, h4⟩ := (anyW_iff g _).1 h2
      exact h j h3 h4
    rw [this, e]
    rfl
  · have : anyW g g.length = true := (anyW_iff g _).2 ⟨m, hm, hw⟩
    rw [this, e]
    rw [Bool.not_true, beq_eq_false_iff_ne]
    omega
/-- users who have all used the same -/
def sameU (l : List Bs.U) : List Bs.U := l.map fun u => ⟨u.share, 60, 1⟩
theorem same_len (l : List Bs.U) : (sameU l).length = l.length := by simp [sameU]
theorem same_gu {l : List Bs.U} {i : Nat} (hi : i < l.length) : Bs.gu (sameU l) i = ⟨(Bs.gu l i).share, 60, 1⟩ := by
  rw [Bs.gu_at (by rw [same_len]; exact hi), Bs.gu_at hi]
  simp [sameU]
theorem same_take (l : List Bs.U) {k : Nat} (hk : k < l.length) : sameU (l.take (k + 1)) = sameU (l.take k) ++ [⟨(Bs.gu l k).share, 60, 1⟩] := by
  unfold sameU
  rw [List.take_succ_eq_append_getElem hk, List.map_append, Bs.gu_at hk]
  rfl
def mostK (g : List Bs.U) : Nat → Int
  | 0 => 0
  | k + 1 => if mostK g k < (Bs.gu g k).share then (Bs.gu g k).share else mostK g k
theorem mostK_ge (g : List Bs.U) : ∀ k j, j < k → (Bs.gu g j).share ≤ mostK g k := by
  intro k
  induction k with
  | zero => intro j hj; omega
  | succ k ih =>
    intro j hj
    unfold mostK
    by_cases e : j = k
    · subst e; split <;> omega
    · have := ih j (by omega)
      split <;> omega
theorem mostK_is (g : List Bs.U) : ∀ k, mostK g k = 0 ∨ ∃ j, j < k ∧ mostK g k = (Bs.gu g j).share := by
  intro k
  induction k with
  | zero => exact .inl rfl
  | succ k ih =>
    unfold mostK
    split
    · exact .inr ⟨k, by omega, rfl⟩
    · rcases ih with h | ⟨j, h1, h2⟩
      · exact .inl h
      · exact .inr ⟨j, by omega, h2⟩
theorem share_next {g : List Bs.U} (hu : Bs.usersOk g = true) : ∃ m : Nat, Bs.nextL (sameU g) = (m : Int) ∧ m < g.length ∧ (Bs.gu g m).share = mostK g g.length := by
  obtain ⟨h15, hu2⟩ := Bs.usersOk_iff.1 hu
  have hs : Bs.usersOk (sameU g) = true := by
    refine Bs.usersOk_iff.2 ⟨by rw [same_len]; exact h15, fun k hk => ?_⟩
    rw [same_len] at hk
    rw [same_gu hk]
    obtain ⟨s1, _⟩ := Bs.uOk_iff.1 (hu2 k hk)
    exact Bs.uOk_iff.2 ⟨s1, show (0 : Int) ≤ 60 ∧ (60 : Int) ≤ 10000 from by decide, show (0 : Int) ≤ 1 ∧ (1 : Int) ≤ 6 from by decide⟩
  have hs2 := (Bs.usersOk_iff.1 hs).2
  rw [same_len] at hs2
  rw [Bs.nextL_yes hs]
  have hi := Bs.nextC_is hs
  rw [same_len] at hi
  rcases hi with ⟨_, h⟩ | ⟨m, e, hm, _, h2⟩
  · have := h 0 (by omega)
    rw [same_gu (by omega)] at this
    exact absurd (show (0 : Int) < 1 from by decide) this
  · refine ⟨m, e, hm, ?_⟩
    have h3 : ∀ j, j < g.length → (Bs.gu g j).share ≤ (Bs.gu g m).share := by
      intro j hj
      have h4 := h2 j hj (by rw [same_gu hj]; show (0 : Int) < 1; decide)
      have h5 := Bs.ukey_lt (hs2 j hj) (hs2 m hm)
      rw [same_gu hj, same_gu hm] at h4 h5
      simp only at h5
      omega
    have h6 := mostK_ge g g.length m hm
    rcases mostK_is g g.length with h7 | ⟨j, h7, h8⟩
    · obtain ⟨s1, _⟩ := Bs.uOk_iff.1 (hu2 m hm)
      omega
    · have := h3 j h7
      omega
theorem users_part {g : List Bs.U} (hu : Bs.usersOk g = true) (h2 : 2 ≤ g.length) : Bs.usersOk (g.take (g.length - 1)) = true ∧ Bs.usersOk g.tail = true := by
  obtain ⟨h15, hu2⟩ := Bs.usersOk_iff.1 hu
  constructor
  · refine Bs.usersOk_iff.2 ⟨by rw [List.length_take]; omega, fun k hk => ?_⟩
    rw [List.length_take] at hk
    have := hu2 k (by omega)
    rw [Bs.gu_at (by omega)] at this
    rw [Bs.gu_at (by rw [List.length_take]; omega), List.getElem_take]
    exact this
  · refine Bs.usersOk_iff.2 ⟨by rw [List.length_tail]; omega, fun k hk => ?_⟩
    rw [List.length_tail] at hk
    have := hu2 (k + 1) (by omega)
    rw [Bs.gu_at (by omega)] at this
    rw [Bs.gu_at (by rw [List.length_tail]; omega), List.getElem_tail]
    exact this
end Go.Proofs.Ytcoipkogfgcdeaa
