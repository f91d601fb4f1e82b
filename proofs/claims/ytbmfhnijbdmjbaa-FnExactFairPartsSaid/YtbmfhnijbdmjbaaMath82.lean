/-
  PLAIN MATHEMATICS of fair parts. No condition.
-/
import Derived.Test.YtbmfhnijbdmjbaaMath80
import Derived.Test.YtbmfhnijbdmjbaaMath39
import Derived.Test.YtbmfhnijbdmjbaaMath60
namespace Go.Proofs.Ytbmfhnijbdmjbaa.Bs
def shF (l : List U) (i : Nat) : Int := (gu l i).share
def shS (l : List U) : Int := rs l.length (shF l)
def flP (l : List U) (a : Int) (i : Nat) : Int := a * shF l i / shS l
def flS (l : List U) (a : Int) : Int := rs l.length (flP l a)
def restP (l : List U) (a : Int) : Int := a - flS l a
def partK (l : List U) (a : Int) (k : Nat) : List Int := (List.range l.length).map fun i => flP l a i + (if i < k then 1 else 0)
def partC (l : List U) (a : Int) : List Int := partK l a (restP l a).toNat
def partOk (l : List U) (a : Int) : Bool := usersOk l && decide (0 ≤ a ∧ a ≤ 10000)
def partL (l : List U) (a : Int) : List Int := if partOk l a then partC l a else []
theorem partOk_iff {l : List U} {a : Int} : partOk l a = true ↔ usersOk l = true ∧ 0 ≤ a ∧ a ≤ 10000 := by unfold partOk; rw [Bool.and_eq_true, decide_eq_true_eq]
theorem partL_no {l : List U} {a : Int} (h : partOk l a = false) : partL l a = [] := by unfold partL; rw [h]; rfl
theorem partL_yes {l : List U} {a : Int} (h : partOk l a = true) : partL l a = partC l a := by unfold partL; rw [h]; rfl
theorem partK_len (l : List U) (a : Int) (k : Nat) : (partK l a k).length = l.length := by simp [partK]
theorem partC_len (l : List U) (a : Int) : (partC l a).length = l.length := partK_len l a _
theorem partL_len (l : List U) (a : Int) : (partL l a).length ≤ l.length := by
  unfold partL
  split
  · rw [partC_len]; exact Nat.le_refl _
  · simp
theorem partK_gi {l : List U} {a : Int} {k i : Nat} (hi : i < l.length) : gi (partK l a k) i = flP l a i + (if i < k then 1 else 0) := by
  rw [gi_at (by rw [partK_len]; exact hi)]
  simp [partK]
theorem shF_b {l : List U} (h : usersOk l = true) {i : Nat} (hi : i < l.length) : 1 ≤ shF l i ∧ shF l i ≤ 10 := (uOk_iff.1 ((usersOk_iff.1 h).2 i hi)).1
theorem shS_pos {l : List U} (h : usersOk l = true) : 1 ≤ shS l ∧ shS l ≤ 50 := by
  obtain ⟨⟨h1, h5⟩, _⟩ := usersOk_iff.1 h
  have a := rs_le (f := fun _ => 1) (h := shF l) l.length (fun i hi => (shF_b h hi).1)
  have b := rs_le (f := shF l) (h := fun _ => 10) l.length (fun i hi => (shF_b h hi).2)
  rw [rs_const] at a b
  unfold shS
  omega
theorem rs_mul (c : Int) (f : Nat → Int) : ∀ n, rs n (fun i => c * f i) = c * rs n f := by
  intro n
  induction n with
  | zero => rw [rs_zero, rs_zero, Int.mul_zero]
  | succ n ih => rw [rs_succ, rs_succ, ih, Int.mul_add]
theorem flP_b {l : List U} {a : Int} (h : usersOk l = true) (ha : 0 ≤ a ∧ a ≤ 10000) {i : Nat} (hi : i < l.length) : 0 ≤ flP l a i ∧ flP l a i ≤ 100000 ∧ shS l * flP l a i ≤ a * shF l i ∧ a * shF l i ≤ shS l * flP l a i + (shS l - 1) := by
  have hs := shS_pos h
  have hb := shF_b h hi
  have hp : 0 ≤ a * shF l i := Int.mul_nonneg ha.1 (by omega)
  have hp2 : a * shF l i ≤ 100000 := by
    calc a * shF l i ≤ 10000 * shF l i := Int.mul_le_mul_of_nonneg_right ha.2 (by omega)
      _ ≤ 100000 := by omega
  unfold flP
  generalize a * shF l i = x at *
  generalize shS l = s at *
  have h1 := Int.mul_ediv_add_emod x s
  have h2 := Int.emod_nonneg x (show s ≠ 0 by omega)
  have h3 := Int.emod_lt_of_pos x (show 0 < s by omega)
  have h4 : 0 ≤ x / s := Int.ediv_nonneg hp (by omega)
  have h5 : x / s ≤ x := Int.ediv_le_self s hp
  refine ⟨h4, by omega, by omega, by omega⟩
theorem rest_b {l : List U} {a : Int} (h : usersOk l = true) (ha : 0 ≤ a ∧ a ≤ 10000) : 0 ≤ restP l a ∧ restP l a < l.length := by
  have hs := shS_pos h
  obtain ⟨⟨h1, h5⟩, _⟩ := usersOk_iff.1 h
  have e1 : rs l.length (fun i => a * shF l i) = a * shS l := rs_mul a (shF l) _
  have e2 : rs l.length (fun i => shS l * flP l a i) = shS l * flS l a := rs_mul (shS l) (flP l a) _
  have l1 := rs_le (f := fun i => shS l * flP l a i) (h := fun i => a * shF l i) l.length (fun i hi => (flP_b h ha hi).2.2.1)
  have l2 := rs_le (f := fun i => a * shF l i) (h := fun i => shS l * flP l a i + (shS l - 1)) l.length (fun i hi => (flP_b h ha hi).2.2.2)
  rw [rs_add, rs_const] at l2
  rw [e1, e2] at l1 l2
  have hF : flS l a ≤ a := by
    rw [Int.mul_comm a] at l1
    exact Int.le_of_mul_le_mul_left l1 (by omega)
  have hG : a < flS l a + l.length := by
    have h6 : shS l * a < shS l * (flS l a + l.length) := by
      rw [Int.mul_comm a] at l2
      rw [Int.mul_add]
      have h7 : (l.length : Int) * (shS l - 1) = shS l * (l.length : Int) - l.length := by rw [Int.mul_sub, Int.mul_one, Int.mul_comm]
      omega
    exact Int.lt_of_mul_lt_mul_left h6 (by omega)
  unfold restP
  omega
theorem partK_succ {l : List U} {a : Int} {k : Nat} (hk : k < l.length) : partK l a (k + 1) = (partK l a k).set k (gi (partK l a k) k + 1) := by
  refine list_gi (by rw [List.length_set, partK_len, partK_len]) ?_
  intro i hi
  rw [partK_len] at hi
  rw [partK_gi hi, gi_set _ _ _ _ (by rw [partK_len]; exact hk), partK_gi hk, partK_gi hi]
  by_cases e : i = k
  · subst e
    rw [if_pos (by omega), if_pos rfl, if_neg (by omega)]
    omega
  · rw [if_neg e]
    by_cases e2 : i < k
    · rw [if_pos (by omega), if_pos e2]
    · rw [if_neg (by omega), if_neg e2]
theorem sum_part (l : List U) (a : Int) {k : Nat} (hk : k ≤ l.length) : sumZ (partK l a k) = flS l a + k := by
  have key : ∀ n, rs n (fun i => flP l a i + (if i < k then 1 else 0)) = rs n (flP l a) + (if n < k then (n : Int) else k) := by
    intro n
    induction n with
    | zero =>
      rw [rs_zero, rs_zero]
      by_cases e : 0 < k
      · rw [if_pos e]; rfl
      · rw [if_neg e]; omega
    | succ n ih =>
      rw [rs_succ, rs_succ, ih]
      by_cases e : n + 1 < k
      · rw [if_pos (by omega), if_pos (by omega), if_pos e]; omega
      · rw [if_neg e]
        by_cases e2 : n < k
        · rw [if_pos e2, if_pos e2]; omega
        · rw [if_neg e2, if_neg e2]; omega
  have h1 := key l.length
  rw [if_neg (by omega)] at h1
  exact h1
/-- parts of the first k, and what is left then -/
def prefP (l : List U) (a : Int) (k : Nat) : List Int := (List.range l.length).map fun i => if i < k then flP l a i else 0
theorem prefP_zero (l : List U) (a : Int) : prefP l a 0 = List.replicate l.length 0 := by
  unfold prefP
  apply List.ext_getElem
  · simp
  · intro i h1 h2; simp
theorem prefP_len (l : List U) (a : Int) (k : Nat) : (prefP l a k).length = l.length := by simp [prefP]
theorem prefP_gi {l : List U} {a : Int} {k i : Nat} (hi : i < l.length) : gi (prefP l a k) i = if i < k then flP l a i else 0 := by
  rw [gi_at (by rw [prefP_len]; exact hi)]
  simp [prefP]
theorem prefP_succ {l : List U} {a : Int} {k : Nat} (hk : k < l.length) : prefP l a (k + 1) = (prefP l a k).set k (flP l a k) := by
  refine list_gi (by rw [List.length_set, prefP_len, prefP_len]) ?_
  intro i hi
  rw [prefP_len] at hi
  rw [prefP_gi hi, gi_set _ _ _ _ (by rw [prefP_len]; exact hk), prefP_gi hi]
  by_cases e : i = k
  · subst e
    rw [if_pos (by omega), if_pos rfl]
  · rw [if_neg e]
    by_cases e2 : i < k
    · rw [if_pos (by omega), if_pos e2]
    · rw [if_neg (by omega), if_neg e2]
theorem prefP_full (l : List U) (a : Int) : prefP l a l.length = partK l a 0 := by
  unfold prefP partK
  apply List.map_congr_left
  intro i hi
  rw [List.mem_range] at hi
  rw [if_pos hi, if_neg (by omega), Int.add_zero]
theorem partK_take {l : List U} {a : Int} {k : Nat} (hk : k < l.length) : (partK l a 0).take (k + 1) = (partK l a 0).take k ++ [flP l a k] := by
  rw [List.take_succ_eq_append_getElem (by rw [partK_len]; exact hk)]
  congr 2
  have := partK_gi (a := a) (k := 0) hk
  rw [gi_at (by rw [partK_len]; exact hk), if_neg (by omega), Int.add_zero] at this
  exact this
end Go.Proofs.Ytbmfhnijbdmjbaa.Bs
