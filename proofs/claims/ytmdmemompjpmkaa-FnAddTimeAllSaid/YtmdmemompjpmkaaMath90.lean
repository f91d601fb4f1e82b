/-
  PLAIN MATHEMATICS of estimates: sums with places, times that are added; what their laws say. No condition.
-/
import Derived.Test.YtmdmemompjpmkaaK2
namespace Go.Proofs.Ytmdmemompjpmkaa.Bs
def tmK (l : List Int) : Nat → Int
  | 0 => 0
  | k + 1 => tmK l k + giZ l k * ((k : Int) + 1)
def plK : Nat → Int
  | 0 => 0
  | k + 1 => plK k + ((k : Int) + 1)
def timesOk (l : List Int) : Bool := decide (l.length ≤ 6) && allInB l 1 20
def estC (l : List Int) : Int := (tmK l l.length + plK l.length - 1) / plK l.length
def estL (l : List Int) : Int := if timesOk l then (if l.length = 0 then 20 else estC l) else -1
def addOk (l : List Int) (t : Int) : Bool := timesOk l && decide (1 ≤ t ∧ t ≤ 20)
def addC (l : List Int) (t : Int) : List Int := l.drop (if l.length = 6 then 1 else 0) ++ [t]
def addL (l : List Int) (t : Int) : List Int := if addOk l t then addC l t else []
theorem timesOk_iff {l : List Int} : timesOk l = true ↔ l.length ≤ 6 ∧ allInB l 1 20 = true := by unfold timesOk; simp
theorem allIn_at {l : List Int} {a b : Int} (h : allInB l a b = true) {k : Nat} (hk : k < l.length) : a ≤ giZ l k ∧ giZ l k ≤ b := by
  rw [giZ_at hk]
  exact allInB_mem h (List.getElem_mem hk)
theorem allIn_of {l : List Int} {a b : Int} (h : ∀ k, k < l.length → a ≤ giZ l k ∧ giZ l k ≤ b) : allInB l a b = true := by
  unfold allInB
  rw [List.all_eq_true]
  intro x hx
  obtain ⟨k, hk, rfl⟩ := List.mem_iff_getElem.1 hx
  have := h k hk
  rw [giZ_at hk] at this
  simpa using this
theorem timesOk_at {l : List Int} (h : timesOk l = true) {k : Nat} (hk : k < l.length) : 1 ≤ giZ l k ∧ giZ l k ≤ 20 := allIn_at (timesOk_iff.1 h).2 hk
theorem mul_b {a b A B : Int} (ha : 0 ≤ a) (hA : a ≤ A) (hb : 0 ≤ b) (hB : b ≤ B) : 0 ≤ a * b ∧ a * b ≤ A * B :=
  ⟨Int.mul_nonneg ha hb, Int.mul_le_mul hA hB hb (by omega)⟩
theorem plK_b : ∀ k : Nat, k ≤ 6 → (k : Int) ≤ plK k ∧ plK k ≤ 6 * k := by
  intro k
  induction k with
  | zero => intro _; decide
  | succ k ih => intro h; have := ih (by omega); unfold plK; omega
theorem tmK_b {l : List Int} (h : timesOk l = true) : ∀ k : Nat, k ≤ l.length → 0 ≤ tmK l k ∧ tmK l k ≤ 120 * k := by
  have h6 := (timesOk_iff.1 h).1
  intro k
  induction k with
  | zero => intro _; simp [tmK]
  | succ k ih =>
    intro hk
    have h1 := ih (by omega)
    have h2 := timesOk_at h (k := k) (by omega)
    have h3 := mul_b (a := giZ l k) (b := (k : Int) + 1) (A := 20) (B := 6) (by omega) (by omega) (by omega) (by omega)
    unfold tmK
    omega
theorem tmK_step {l : List Int} (h : timesOk l = true) {k : Nat} (hk : k < l.length) : 0 ≤ giZ l k * ((k : Int) + 1) ∧ giZ l k * ((k : Int) + 1) ≤ 120 := by
  have h6 := (timesOk_iff.1 h).1
  have h2 := timesOk_at h hk
  have h3 := mul_b (a := giZ l k) (b := (k : Int) + 1) (A := 20) (B := 6) (by omega) (by omega) (by omega) (by omega)
  omega
theorem tmK_ge {l : List Int} {lo : Int} : ∀ k : Nat, (∀ j, j < k → lo ≤ giZ l j) → lo * plK k ≤ tmK l k := by
  intro k
  induction k with
  | zero => intro _; simp [plK, tmK]
  | succ k ih =>
    intro h
    have h1 := ih fun j hj => h j (by omega)
    have h2 := h k (by omega)
    have h3 : lo * ((k : Int) + 1) ≤ giZ l k * ((k : Int) + 1) := Int.mul_le_mul_of_nonneg_right h2 (by omega)
    unfold plK tmK
    rw [Int.mul_add]
    omega
theorem tmK_le {l : List Int} {hi : Int} : ∀ k : Nat, (∀ j, j < k → giZ l j ≤ hi) → tmK l k ≤ hi * plK k := by
  intro k
  induction k with
  | zero => intro _; simp [plK, tmK]
  | succ k ih =>
    intro h
    have h1 := ih fun j hj => h j (by omega)
    have h2 := h k (by omega)
    have h3 : giZ l k * ((k : Int) + 1) ≤ hi * ((k : Int) + 1) := Int.mul_le_mul_of_nonneg_right h2 (by omega)
    unfold plK tmK
    rw [Int.mul_add hi]
    omega
theorem ceil_up {a b E : Int} (hb : 0 < b) (h : a ≤ E * b) : (a + b - 1) / b ≤ E := by
  have : (a + b - 1) / b < E + 1 := by
    apply Int.ediv_lt_of_lt_mul hb
    rw [Int.add_mul]
    omega
  omega
theorem ceil_ge {a b E : Int} (hb : 0 < b) (h : E * b ≤ a) : E ≤ (a + b - 1) / b := Int.le_ediv_of_mul_le hb (by omega)
theorem estL_no {l : List Int} (h : timesOk l = false) : estL l = -1 := by unfold estL; rw [h]; rfl
theorem estL_zero {l : List Int} (h : timesOk l = true) (h0 : l.length = 0) : estL l = 20 := by unfold estL; rw [h, if_pos rfl, if_pos h0]
theorem estL_yes {l : List Int} (h : timesOk l = true) (h0 : ¬ l.length = 0) : estL l = estC l := by unfold estL; rw [h, if_pos rfl, if_neg h0]
theorem est_between {l : List Int} {lo hi : Int} (h6 : l.length ≤ 6) (h0 : 0 < l.length) (h : ∀ j, j < l.length → lo ≤ giZ l j ∧ giZ l j ≤ hi) : lo ≤ estC l ∧ estC l ≤ hi := by
  have hp := plK_b l.length h6
  unfold estC
  exact ⟨ceil_ge (by omega) (tmK_ge _ fun j hj => (h j hj).1), ceil_up (by omega) (tmK_le _ fun j hj => (h j hj).2)⟩
theorem estL_pos {l : List Int} (h : ¬ estL l < 0) : timesOk l = true := by
  cases ht : timesOk l
  · exact absurd (estL_no ht) (by omega)
  · rfl
theorem estL_b (l : List Int) : -1 ≤ estL l ∧ estL l ≤ 20 := by
  cases ht : timesOk l
  · rw [estL_no ht]; decide
  · by_cases h0 : l.length = 0
    · rw [estL_zero ht h0]; decide
    · rw [estL_yes ht h0]
      have := est_between (timesOk_iff.1 ht).1 (by omega) (fun j hj => timesOk_at ht hj)
      omega
theorem est_all {l : List Int} {a : Int} (ht : timesOk l = true) (h0 : 0 < l.length) (h : ∀ j, j < l.length → giZ l j = a) : estL l = a := by
  rw [estL_yes ht (by omega)]
  have := est_between (lo := a) (hi := a) (timesOk_iff.1 ht).1 h0 (fun j hj => by have := h j hj; omega)
  omega
theorem est_three {a : Int} (h1 : 1 ≤ a) (h2 : a ≤ 20) : estL [a, a, a] = a := by
  refine est_all ?_ (by simp) ?_
  · rw [timesOk_iff]
    refine ⟨by simp, ?_⟩
    simp [allInB, h1, h2]
  · intro j hj
    match j, hj with
    | 0, _ => rfl
    | 1, _ => rfl
    | 2, _ => rfl
theorem est_two {a b : Int} (h1 : 1 ≤ a) (h2 : a ≤ 20) (h3 : 1 ≤ b) (h4 : b ≤ 20) : estL [a, b] = (a + 2 * b + 2) / 3 := by
  have ht : timesOk [a, b] = true := by
    rw [timesOk_iff]
    refine ⟨by simp, ?_⟩
    simp [allInB, h1, h2, h3, h4]
  rw [estL_yes ht (by simp)]
  have e1 : tmK [a, b] 2 = a + 2 * b := by
    simp only [tmK, giZ]
    simp
    omega
  show (tmK [a, b] 2 + plK 2 - 1) / plK 2 = _
  rw [e1, show plK 2 = 3 from rfl, show a + 2 * b + 3 - 1 = a + 2 * b + 2 from by omega]
theorem tmK_set {l : List Int} {i : Nat} {x : Int} : ∀ k : Nat, k ≤ i → tmK (l.set i x) k = tmK l k := by
  intro k
  induction k with
  | zero => intro _; rfl
  | succ k ih =>
    intro hk
    unfold tmK
    rw [ih (by omega)]
    congr 2
    unfold giZ
    rw [List.getElem?_set_ne (by omega)]
theorem est_more {l : List Int} (ht : timesOk l = true) (h0 : ¬ l.length = 0) : estL (l.set (l.length - 1) (giZ l (l.length - 1) + 1)) < 0 ∨ estL (l.set (l.length - 1) (giZ l (l.length - 1) + 1)) = estL l ∨ estL (l.set (l.length - 1) (giZ l (l.length - 1) + 1)) = estL l + 1 := by
  have h6 := (timesOk_iff.1 ht).1
  cases ht2 : timesOk (l.set (l.length - 1) (giZ l (l.length - 1) + 1))
  · exact .inl (by rw [estL_no ht2]; decide)
  · right
    rw [estL_yes ht h0, estL_yes ht2 (by rw [List.length_set]; exact h0)]
    unfold estC
    rw [List.length_set]
    have hp := plK_b l.length h6
    obtain ⟨n, hn⟩ : ∃ n, l.length = n + 1 := ⟨l.length - 1, by omega⟩
    have e : tmK (l.set (l.length - 1) (giZ l (l.length - 1) + 1)) l.length = tmK l l.length + l.length := by
      rw [hn, Nat.add_sub_cancel]
      unfold tmK
      rw [tmK_set n (Nat.le_refl _)]
      have e2 : giZ (l.set n (giZ l n + 1)) n = giZ l n + 1 := by
        rw [giZ_at (by rw [List.length_set]; omega), List.getElem_set_self]
      rw [e2, Int.add_mul]
      omega
    rw [e]
    generalize tmK l l.length = t at *
    generalize plK l.length = p at *
    have a1 : (t + p - 1) / p ≤ (t + (l.length : Int) + p - 1) / p := Int.ediv_le_ediv (by omega) (by omega)
    have a2 : (t + (l.length : Int) + p - 1) / p ≤ (t + p - 1 + 1 * p) / p := Int.ediv_le_ediv (by omega) (by omega)
    rw [Int.add_mul_ediv_right _ _ (by omega)] at a2
    omega
theorem addL_no {l : List Int} {t : Int} (h : addOk l t = false) : addL l t = [] := by unfold addL; rw [h]; rfl
theorem addL_yes {l : List Int} {t : Int} (h : addOk l t = true) : addL l t = addC l t := by unfold addL; rw [h]; rfl
theorem addOk_iff {l : List Int} {t : Int} : addOk l t = true ↔ timesOk l = true ∧ 1 ≤ t ∧ t ≤ 20 := by unfold addOk; simp
theorem addC_len {l : List Int} (t : Int) (h : l.length ≤ 6) : (addC l t).length = min (l.length + 1) 6 := by
  unfold addC
  rw [List.length_append, List.length_drop, List.length_singleton]
  split <;> omega
theorem addL_len {l : List Int} (t : Int) : (addL l t).length ≤ 6 := by
  cases h : addOk l t
  · rw [addL_no h]; simp
  · rw [addL_yes h, addC_len t (timesOk_iff.1 (addOk_iff.1 h).1).1]; omega
theorem addC_at {l : List Int} {t : Int} (h : l.length ≤ 6) {j : Nat} (hj : j < (addC l t).length) : giZ (addC l t) j = if j + 1 = (addC l t).length then t else giZ l (j + (l.length + 1 - (addC l t).length)) := by
  have hl := addC_len t h
  unfold addC at hl hj ⊢
  by_cases e : j + 1 = (l.drop (if l.length = 6 then 1 else 0) ++ [t]).length
  · rw [if_pos e]
    rw [List.length_append, List.length_singleton] at e
    unfold giZ
    rw [List.getElem?_append_right (by omega), show j - (l.drop (if l.length = 6 then 1 else 0)).length = 0 from by omega]
    rfl
  · rw [if_neg e]
    rw [List.length_append, List.length_singleton] at e hj
    have e3 : (if l.length = 6 then 1 else 0) + j = j + (l.length + 1 - (l.drop (if l.length = 6 then 1 else 0) ++ [t]).length) := by
      rw [hl]
      split <;> omega
    unfold giZ
    rw [List.getElem?_append_left (by omega), List.getElem?_drop, e3]
theorem addC_last {l : List Int} {t : Int} (h : l.length ≤ 6) : (addC l t).take ((addC l t).length - 1) = l.drop (l.length - ((addC l t).length - 1)) ∧ (addC l t).length - 1 ≤ l.length ∧ 1 ≤ (addC l t).length ∧ giZ (addC l t) ((addC l t).length - 1) = t := by
  have hl := addC_len t h
  refine ⟨?_, by omega, by omega, ?_⟩
  · have e : (addC l t).length - 1 = (l.drop (if l.length = 6 then 1 else 0)).length := by unfold addC; simp
    rw [e]
    unfold addC
    rw [List.take_left]
    rw [List.length_drop]
    congr 1
    split <;> omega
  · rw [addC_at h (by omega), if_pos (by omega)]
theorem addC_ok {l : List Int} {t : Int} (h : addOk l t = true) : timesOk (addC l t) = true := by
  obtain ⟨h1, h2, h3⟩ := addOk_iff.1 h
  have h6 := (timesOk_iff.1 h1).1
  have hl := addC_len t h6
  rw [timesOk_iff]
  refine ⟨by omega, allIn_of ?_⟩
  intro k hk
  rw [addC_at h6 hk]
  split
  · exact ⟨h2, h3⟩
  · exact timesOk_at h1 (by omega)
/-- the last i times are t -/
def LastT (t : Int) (i : Nat) (l : List Int) : Prop := timesOk l = true ∧ i ≤ l.length ∧ ∀ j, l.length - i ≤ j → j < l.length → giZ l j = t
theorem LastT.step {t : Int} {i : Nat} {l : List Int} (h : LastT t i l) (h1 : 1 ≤ t) (h2 : t ≤ 20) (hi : i < 6) : addOk l t = true ∧ LastT t (i + 1) (addC l t) := by
  obtain ⟨a, b, c⟩ := h
  have hok : addOk l t = true := addOk_iff.2 ⟨a, h1, h2⟩
  have h6 := (timesOk_iff.1 a).1
  have hl := addC_len t h6
  refine ⟨hok, addC_ok hok, by omega, ?_⟩
  intro j hj hjl
  rw [addC_at h6 hjl]
  split
  · rfl
  · exact c _ (by omega) (by omega)
theorem LastT.start {l : List Int} {t : Int} (h : addOk l t = true) : LastT t 1 (addC l t) := by
  obtain ⟨h1, h2, h3⟩ := addOk_iff.1 h
  have : LastT t 0 l := ⟨h1, Nat.zero_le _, fun j a b => by omega⟩
  exact (this.step h2 h3 (by omega)).2
theorem LastT.done {l : List Int} {t : Int} (h : LastT t 6 l) : l.length = 6 ∧ (∀ j, j < l.length → giZ l j = t) ∧ estL l = t := by
  obtain ⟨a, b, c⟩ := h
  have h6 := (timesOk_iff.1 a).1
  have hc : ∀ j, j < l.length → giZ l j = t := fun j hj => c j (by omega) hj
  exact ⟨by omega, hc, est_all a (by omega) hc⟩
end Go.Proofs.Ytmdmemompjpmkaa.Bs
