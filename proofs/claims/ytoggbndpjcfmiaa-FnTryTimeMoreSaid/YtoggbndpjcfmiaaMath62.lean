/-
  PLAIN MATHEMATICS of tries: delays, how often a task is run, how long that takes. No condition.
-/
import Derived.Test.YtoggbndpjcfmiaaK1
namespace Go.Proofs.Ytoggbndpjcfmiaa.Bs
def delayN : Nat → Int
  | 0 => 2
  | k + 1 => min (2 * delayN k) 20
theorem delayN_b : ∀ k, 2 ≤ delayN k ∧ delayN k ≤ 20 := by
  intro k
  induction k with
  | zero => unfold delayN; omega
  | succ k ih => unfold delayN; omega
def delayL (t : Int) : Int := if 1 ≤ t ∧ t ≤ 5 then delayN (t.toNat - 1) else -1
theorem delayL_no {t : Int} (h : ¬ (1 ≤ t ∧ t ≤ 5)) : delayL t = -1 := by unfold delayL; rw [if_neg h]
theorem delayL_yes {k : Nat} (h : k ≤ 4) : delayL ((k : Int) + 1) = delayN k := by
  unfold delayL
  rw [if_pos (by omega), show ((k : Int) + 1).toNat - 1 = k from by omega]
def canT (l : List Bool) (t : Int) : Bool := decide (1 ≤ l.length ∧ l.length ≤ 6) && decide (0 ≤ t ∧ t ≤ 5)
theorem canT_iff {l : List Bool} {t : Int} : canT l t = true ↔ 1 ≤ l.length ∧ l.length ≤ 6 ∧ 0 ≤ t ∧ t ≤ 5 := by
  unfold canT
  simp only [Bool.and_eq_true, decide_eq_true_eq, and_assoc]
def gb (l : List Bool) (i : Nat) : Bool := l.getD i false
theorem gb_at {l : List Bool} {i : Nat} (h : i < l.length) : gb l i = l[i] := by unfold gb; rw [List.getD_eq_getElem?_getD, List.getElem?_eq_getElem h]; rfl
/-- the runs end behind the k-th one -/
def stopR (l : List Bool) (t : Int) (k : Nat) : Bool := gb l (k - 1) || decide (t < k) || decide (l.length ≤ k)
def runF (l : List Bool) (t : Int) : Nat → Nat → Nat
  | 0, k => k
  | f + 1, k => if stopR l t k then k else runF l t f (k + 1)
def runN (l : List Bool) (t : Int) : Nat := runF l t 6 1
def IsRun (l : List Bool) (t : Int) (k : Nat) : Prop := 1 ≤ k ∧ stopR l t k = true ∧ ∀ j, 1 ≤ j → j < k → stopR l t j = false
theorem IsRun.unique {l : List Bool} {t : Int} {k k' : Nat} (h : IsRun l t k) (h' : IsRun l t k') : k = k' := by
  rcases Nat.lt_trichotomy k k' with h1 | h1 | h1
  · have := h'.2.2 k h.1 h1
    rw [h.2.1] at this
    cases this
  · exact h1
  · have := h.2.2 k' h'.1 h1
    rw [h'.2.1] at this
    cases this
theorem runF_is {l : List Bool} {t : Int} : ∀ f k, 1 ≤ k → (∀ j, 1 ≤ j → j < k → stopR l t j = false) → l.length ≤ k + f → IsRun l t (runF l t f k) := by
  intro f
  induction f with
  | zero =>
    intro k h1 h2 h3
    refine ⟨h1, ?_, h2⟩
    unfold stopR runF
    simp only [Bool.or_eq_true, decide_eq_true_eq]
    exact .inr (by omega)
  | succ f ih =>
    intro k h1 h2 h3
    unfold runF
    by_cases hs : stopR l t k = true
    · rw [if_pos hs]
      exact ⟨h1, hs, h2⟩
    · rw [if_neg hs]
      refine ih (k + 1) (by omega) ?_ (by omega)
      intro j hj hjk
      by_cases e : j = k
      · subst e; simpa using hs
      · exact h2 j hj (by omega)
theorem runN_is {l : List Bool} {t : Int} (h : l.length ≤ 6) : IsRun l t (runN l t) := runF_is 6 1 (Nat.le_refl _) (by intro j h1 h2; omega) (by omega)
theorem runN_eq {l : List Bool} {t : Int} (h : l.length ≤ 6) {k : Nat} (hk : IsRun l t k) : k = runN l t := hk.unique (runN_is h)
theorem stopR_no {l : List Bool} {t : Int} {j : Nat} : stopR l t j = false ↔ gb l (j - 1) = false ∧ (j : Int) ≤ t ∧ j < l.length := by
  unfold stopR
  rw [Bool.or_eq_false_iff, Bool.or_eq_false_iff, decide_eq_false_iff_not, decide_eq_false_iff_not]
  constructor
  · rintro ⟨⟨h1, h2⟩, h3⟩; exact ⟨h1, by omega, by omega⟩
  · rintro ⟨h1, h2, h3⟩; exact ⟨⟨h1, by omega⟩, by omega⟩
theorem stopR_yes {l : List Bool} {t : Int} {j : Nat} : stopR l t j = true ↔ gb l (j - 1) = true ∨ t < (j : Int) ∨ l.length ≤ j := by
  unfold stopR
  simp only [Bool.or_eq_true, decide_eq_true_eq, or_assoc]
theorem runN_b {l : List Bool} {t : Int} (h : canT l t = true) : 1 ≤ runN l t ∧ runN l t ≤ l.length ∧ (runN l t : Int) ≤ t + 1 := by
  obtain ⟨h1, h2, h3, h4⟩ := canT_iff.1 h
  obtain ⟨r1, r2, r3⟩ := runN_is (t := t) h2
  generalize runN l t = k at *
  by_cases e : k = 1
  · subst e
    exact ⟨by omega, by omega, by omega⟩
  · have := stopR_no.1 (r3 (k - 1) (by omega) (by omega))
    exact ⟨by omega, by omega, by omega⟩
def okR (l : List Bool) (t : Int) : Bool := gb l (runN l t - 1)
def tryN (l : List Bool) (t : Int) : Int := if canT l t then runN l t else 0
def tryB (l : List Bool) (t : Int) : Bool := canT l t && okR l t
theorem tryN_no {l : List Bool} {t : Int} (h : canT l t = false) : tryN l t = 0 := by unfold tryN; rw [h]; rfl
theorem tryN_yes {l : List Bool} {t : Int} (h : canT l t = true) : tryN l t = runN l t := by unfold tryN; rw [h]; rfl
theorem tryB_no {l : List Bool} {t : Int} (h : canT l t = false) : tryB l t = false := by unfold tryB; rw [h]; rfl
theorem tryB_yes {l : List Bool} {t : Int} (h : canT l t = true) : tryB l t = okR l t := by unfold tryB; rw [h]; rfl
/-- how long k + 1 runs take -/
def timeR (z : Int) : Nat → Int
  | 0 => z
  | k + 1 => timeR z k + (delayN k + z)
def tryT (l : List Bool) (t z : Int) : Int := if canT l t && decide (1 ≤ z ∧ z ≤ 20) then timeR z (runN l t - 1) else -1
theorem tryT_no1 {l : List Bool} {t z : Int} (h : canT l t = false) : tryT l t z = -1 := by unfold tryT; rw [h]; rfl
theorem tryT_no2 {l : List Bool} {t z : Int} (h : decide (1 ≤ z ∧ z ≤ 20) = false) : tryT l t z = -1 := by unfold tryT; rw [h]; simp
theorem tryT_yes {l : List Bool} {t z : Int} (h : canT l t = true) (h2 : decide (1 ≤ z ∧ z ≤ 20) = true) : tryT l t z = timeR z (runN l t - 1) := by unfold tryT; rw [h, h2]; rfl
theorem timeR_b {z : Int} (h : 1 ≤ z ∧ z ≤ 20) : ∀ k, z ≤ timeR z k ∧ timeR z k ≤ 20 + 40 * k := by
  intro k
  induction k with
  | zero => unfold timeR; omega
  | succ k ih => unfold timeR; have := delayN_b k; omega
theorem timeR_mono {z : Int} (h : 1 ≤ z) {j : Nat} : ∀ k, j ≤ k → timeR z j ≤ timeR z k := by
  intro k
  induction k with
  | zero => intro hj; obtain rfl : j = 0 := (by omega); exact Int.le_refl _
  | succ k ih =>
    intro hj
    by_cases e : j = k + 1
    · subst e; exact Int.le_refl _
    · have h1 := ih (by omega)
      have h2 := delayN_b k
      have h3 : timeR z (k + 1) = timeR z k + (delayN k + z) := rfl
      omega
def flakB (l : List Bool) (t : Int) : Bool := tryB l t && decide (1 < tryN l t)
/-- the sum of the first k delays -/
def sumD : Nat → Int
  | 0 => 0
  | k + 1 => sumD k + delayN k
theorem sumD_b : ∀ k, 0 ≤ sumD k ∧ sumD k ≤ 20 * k := by
  intro k
  induction k with
  | zero => unfold sumD; omega
  | succ k ih => unfold sumD; have := delayN_b k; omega
theorem timeR_sum (z : Int) : ∀ k, timeR z k = ((k : Int) + 1) * z + sumD k := by
  intro k
  induction k with
  | zero => unfold timeR sumD; omega
  | succ k ih =>
    unfold timeR sumD
    rw [ih]
    have : ((k + 1 : Nat) : Int) + 1 = ((k : Int) + 1) + 1 := by omega
    rw [this, Int.add_mul ((k : Int) + 1) 1 z]
    omega
/-- what the laws of tries want -/
theorem try_law {l : List Bool} {t : Int} (h : canT l t = true) : (∀ i, i + 1 < runN l t → gb l i = false) ∧ (okR l t = true ∨ runN l t = l.length ∨ (runN l t : Int) = t + 1) := by
  obtain ⟨h1, h2, h3, h4⟩ := canT_iff.1 h
  have hb := runN_b h
  obtain ⟨r1, r2, r3⟩ := runN_is (t := t) h2
  refine ⟨?_, ?_⟩
  · intro i hi
    have := (stopR_no.1 (r3 (i + 1) (by omega) (by omega))).1
    simpa using this
  · rcases stopR_yes.1 r2 with h5 | h5 | h5
    · exact .inl h5
    · exact .inr (.inr (by omega))
    · exact .inr (.inl (by omega))
theorem try_more {l : List Bool} {t : Int} (h : canT l t = true) (h5 : t ≠ 5) : canT l (t + 1) = true ∧ runN l t ≤ runN l (t + 1) ∧ (okR l t = true → runN l (t + 1) = runN l t ∧ okR l (t + 1) = true) := by
  obtain ⟨h1, h2, h3, h4⟩ := canT_iff.1 h
  have hc : canT l (t + 1) = true := canT_iff.2 ⟨h1, h2, by omega, by omega⟩
  have ra := runN_is (t := t) h2
  have rb := runN_is (t := t + 1) h2
  have hbb := runN_b hc
  refine ⟨hc, ?_, ?_⟩
  · rcases Nat.lt_or_ge (runN l (t + 1)) (runN l t) with h6 | h6
    · exfalso
      have h7 := stopR_no.1 (ra.2.2 _ rb.1 h6)
      rcases stopR_yes.1 rb.2.1 with h8 | h8 | h8
      · rw [h7.1] at h8; cases h8
      · omega
      · omega
    · exact h6
  · intro hok
    have e : runN l t = runN l (t + 1) := by
      refine runN_eq h2 ⟨ra.1, stopR_yes.2 (.inl hok), ?_⟩
      intro j hj hjk
      have h7 := stopR_no.1 (ra.2.2 j hj hjk)
      exact stopR_no.2 ⟨h7.1, by omega, h7.2.2⟩
    refine ⟨e.symm, ?_⟩
    unfold okR at hok ⊢
    rw [← e]
    exact hok
theorem try_once {l : List Bool} {t : Int} (h : canT l t = true) : canT l 0 = true ∧ runN l 0 = 1 ∧ okR l 0 = gb l 0 ∧ (gb l 0 = true → runN l t = 1 ∧ okR l t = true) := by
  obtain ⟨h1, h2, h3, h4⟩ := canT_iff.1 h
  have hc : canT l 0 = true := canT_iff.2 ⟨h1, h2, by omega, by omega⟩
  have e : runN l 0 = 1 := by have := runN_b hc; omega
  refine ⟨hc, e, by unfold okR; rw [e], ?_⟩
  intro hg
  have e2 : 1 = runN l t := runN_eq h2 ⟨Nat.le_refl _, stopR_yes.2 (.inl hg), by intro j h6 h7; omega⟩
  refine ⟨e2.symm, ?_⟩
  unfold okR
  rw [← e2]
  exact hg
theorem flak_law {l : List Bool} {t : Int} (h : canT l t = true) : flakB l t = (tryB l t && !tryB l 0) := by
  obtain ⟨h1, h2, h3, h4⟩ := try_once h
  unfold flakB
  rw [tryB_yes h, tryB_yes h1, h3, tryN_yes h]
  cases hg : gb l 0
  · cases ho : okR l t
    · rfl
    · have : ¬ runN l t = 1 := by
        intro e
        unfold okR at ho
        rw [e] at ho
        rw [ho] at hg
        cases hg
      have := runN_b h
      simp only [Bool.true_and, Bool.not_false, decide_eq_true_eq]
      omega
  · obtain ⟨h5, h6⟩ := h4 hg
    rw [h5, h6]
    rfl
theorem tryT_law {l : List Bool} {t z : Int} (h : 0 ≤ tryT l t z) : canT l t = true ∧ 1 ≤ z ∧ z ≤ 20 ∧ tryT l t z = (runN l t : Int) * z + sumD (runN l t - 1) ∧ z ≤ tryT l t z ∧ tryT l 0 z = z ∧ (t ≠ 5 → tryT l t z ≤ tryT l (t + 1) z) := by
  cases hc : canT l t
  · rw [tryT_no1 hc] at h; omega
  · cases hz : decide (1 ≤ z ∧ z ≤ 20)
    · rw [tryT_no2 hz] at h; omega
    · have hz' := hz
      rw [decide_eq_true_eq] at hz'
      have hb := runN_b hc
      obtain ⟨o1, o2, _, _⟩ := try_once hc
      refine ⟨rfl, hz'.1, hz'.2, ?_, ?_, ?_, ?_⟩
      · rw [tryT_yes hc hz, timeR_sum, show ((runN l t - 1 : Nat) : Int) + 1 = (runN l t : Int) from by omega]
      · rw [tryT_yes hc hz]; exact (timeR_b hz' _).1
      · rw [tryT_yes o1 hz, o2]; rfl
      · intro h5
        obtain ⟨m1, m2, _⟩ := try_more hc h5
        rw [tryT_yes hc hz, tryT_yes m1 hz]
        exact timeR_mono hz'.1 _ (by omega)
end Go.Proofs.Ytoggbndpjcfmiaa.Bs
