/-
  PLAIN MATHEMATICS: heaps of pairs, by a key. No condition.
-/
import Derived.Test.YtfholjgndpefdaaK11
namespace Go.Proofs.Ytfholjgndpefdaa.Bs
def keyP (p : Int × Int) : Int := p.1 - 8 * p.2
theorem keyP_lt {a b : Int × Int} (ha : 0 ≤ a.1 ∧ a.1 < 8) (hb : 0 ≤ b.1 ∧ b.1 < 8) : keyP a < keyP b ↔ (a.2 = b.2 ∧ a.1 < b.1) ∨ (a.2 ≠ b.2 ∧ b.2 < a.2) := by
  unfold keyP
  omega
def upd {α : Type} (f : Nat → α) (p : Nat) (x : α) : Nat → α := fun i => if i = p then x else f i
theorem upd_at {α : Type} (f : Nat → α) (p : Nat) (x : α) : upd f p x p = x := by simp [upd]
theorem upd_ne {α : Type} (f : Nat → α) {p i : Nat} (x : α) (h : i ≠ p) : upd f p x i = f i := by simp [upd, h]
def par (i : Nat) : Nat := (i - 1) / 2
theorem par_lt {i : Nat} (h : 0 < i) : par i < i := by unfold par; omega
def Heap (f : Nat → Int × Int) (n : Nat) : Prop := ∀ i, 0 < i → i < n → keyP (f (par i)) ≤ keyP (f i)
theorem Heap.min {f : Nat → Int × Int} {n : Nat} (h : Heap f n) : ∀ i, i < n → keyP (f 0) ≤ keyP (f i) := by
  intro i
  induction i using Nat.strongRecOn with
  | ind i ih =>
    intro hi
    by_cases h0 : i = 0
    · subst h0; exact Int.le_refl _
    · have h1 := h i (by omega) hi
      have h2 := ih (par i) (par_lt (by omega)) (by have := par_lt (i := i) (by omega); omega)
      omega
/-- two places change their values -/
def Swp (n : Nat) (M M' : Nat → Int × Int) : Prop := ∃ p q, p < n ∧ q < n ∧ M' p = M q ∧ M' q = M p ∧ ∀ i, i ≠ p → i ≠ q → M' i = M i
theorem Swp.mem {n : Nat} {M M' : Nat → Int × Int} (h : Swp n M M') (x : Int × Int) : (∃ i, i < n ∧ M' i = x) ↔ ∃ i, i < n ∧ M i = x := by
  obtain ⟨p, q, hp, hq, h1, h2, h3⟩ := h
  constructor
  · rintro ⟨i, hi, rfl⟩
    by_cases e1 : i = p
    · subst e1; exact ⟨q, hq, h1.symm⟩
    · by_cases e2 : i = q
      · subst e2; exact ⟨p, hp, h2.symm⟩
      · exact ⟨i, hi, (h3 i e1 e2).symm⟩
  · rintro ⟨i, hi, rfl⟩
    by_cases e1 : i = p
    · subst e1; exact ⟨q, hq, h2⟩
    · by_cases e2 : i = q
      · subst e2; exact ⟨p, hp, h1⟩
      · exact ⟨i, hi, h3 i e1 e2⟩
def Inj (f : Nat → Int × Int) (n : Nat) : Prop := ∀ i j, i < n → j < n → f i = f j → i = j
theorem Swp.inj {n : Nat} {M M' : Nat → Int × Int} (h : Swp n M M') (hI : Inj M n) : Inj M' n := by
  obtain ⟨p, q, hp, hq, h1, h2, h3⟩ := h
  have key : ∀ i, i < n → ∃ j, j < n ∧ M' i = M j ∧ ((i = p ∧ j = q) ∨ (i ≠ p ∧ i = q ∧ j = p) ∨ (i ≠ p ∧ i ≠ q ∧ j = i)) := by
    intro i hi
    by_cases e1 : i = p
    · exact ⟨q, hq, by rw [e1, h1], .inl ⟨e1, rfl⟩⟩
    · by_cases e2 : i = q
      · exact ⟨p, hp, by rw [e2, h2], .inr (.inl ⟨e1, e2, rfl⟩)⟩
      · exact ⟨i, hi, h3 i e1 e2, .inr (.inr ⟨e1, e2, rfl⟩)⟩
  intro i j hi hj e
  obtain ⟨a, ha, ea, ca⟩ := key i hi
  obtain ⟨b, hb, eb, cb⟩ := key j hj
  have := hI a b ha hb (by rw [← ea, ← eb, e])
  omega
/-- a value moves up -/
structure Up (f : Nat → Int × Int) (n p : Nat) (t : Int × Int) : Prop where
  lt : p < n
  one : ∀ i, 0 < i → i < n → i ≠ p → keyP (upd f p t (par i)) ≤ keyP (upd f p t i)
  two : 0 < p → ∀ i, 0 < i → i < n → par i = p → keyP (upd f p t (par p)) ≤ keyP (upd f p t i)
theorem Up.start {f : Nat → Int × Int} {n : Nat} (h : Heap f n) (t : Int × Int) : Up f (n + 1) n t := by
  refine ⟨by omega, ?_, ?_⟩
  · intro i h0 hi hne
    have := par_lt h0
    rw [upd_ne f t hne, upd_ne f t (by omega)]
    exact h i h0 (by omega)
  · intro _ i h0 hi e
    have := par_lt h0
    omega
theorem Up.swap {f : Nat → Int × Int} {n p : Nat} {t : Int × Int} (h : Up f n p t) (hp : 0 < p) : Swp n (upd f p t) (upd (upd f p (f (par p))) (par p) t) := by
  have h1 := par_lt hp
  have h2 := h.lt
  refine ⟨p, par p, h2, by omega, ?_, ?_, ?_⟩
  · rw [upd_ne _ _ (by omega), upd_at, upd_ne _ _ (by omega)]
  · rw [upd_at, upd_at]
  · intro i e1 e2
    rw [upd_ne _ _ e2, upd_ne _ _ e1, upd_ne _ _ e1]
theorem Up.step {f : Nat → Int × Int} {n p : Nat} {t : Int × Int} (h : Up f n p t) (hp : 0 < p) (hk : keyP t < keyP (f (par p))) : Up (upd f p (f (par p))) n (par p) t := by
  have hq := par_lt hp
  have h2 := h.lt
  generalize hqe : par p = q at *
  have vp : upd (upd f p (f q)) q t p = f q := by rw [upd_ne _ _ (by omega), upd_at]
  have vq : upd (upd f p (f q)) q t q = t := upd_at _ _ _
  have vo : ∀ i, i ≠ p → i ≠ q → upd (upd f p (f q)) q t i = f i := fun i e1 e2 => by rw [upd_ne _ _ e2, upd_ne _ _ e1]
  have mo : ∀ i, i ≠ p → upd f p t i = f i := fun i e => upd_ne _ _ e
  have mp : upd f p t p = t := upd_at _ _ _
  refine ⟨by omega, ?_, ?_⟩
  · intro i h0 hi hne
    have hpi := par_lt h0
    by_cases e1 : i = p
    · subst e1
      rw [hqe, vq, vp]
      omega
    · have hone := h.one i h0 hi e1
      rw [vo i e1 hne]
      rw [mo i e1] at hone
      by_cases e2 : par i = p
      · rw [e2, vp]
        have := h.two hp i h0 hi e2
        rw [mo i e1, hqe, mo q (by omega)] at this
        exact this
      · by_cases e3 : par i = q
        · rw [e3, vq]
          rw [e3, mo q (by omega)] at hone
          omega
        · rw [vo _ e2 e3]
          rw [mo _ e2] at hone
          exact hone
  · intro h0 i hi0 hi e
    have hpq := par_lt h0
    have hone := h.one q h0 (by omega) (by omega)
    rw [mo q (by omega), mo (par q) (by omega)] at hone
    rw [vo (par q) (by omega) (by omega)]
    by_cases e1 : i = p
    · subst e1
      rw [vp]
      exact hone
    · have h3 := h.one i hi0 hi e1
      rw [e, mo q (by omega), mo i e1] at h3
      have hiq : i ≠ q := by have := par_lt hi0; omega
      rw [vo i e1 hiq]
      omega
theorem Up.stop {f : Nat → Int × Int} {n p : Nat} {t : Int × Int} (h : Up f n p t) (hs : 0 < p → ¬ keyP t < keyP (f (par p))) : Heap (upd f p t) n := by
  intro i h0 hi
  by_cases e : i = p
  · subst e
    have := par_lt h0
    rw [upd_at, upd_ne _ _ (by omega)]
    have := hs h0
    omega
  · exact h.one i h0 hi e
/-- a value moves down -/
structure Dn (f : Nat → Int × Int) (n p : Nat) (t : Int × Int) : Prop where
  one : ∀ i, 0 < i → i < n → par i ≠ p → keyP (upd f p t (par i)) ≤ keyP (upd f p t i)
  two : 0 < p → ∀ i, 0 < i → i < n → par i = p → keyP (upd f p t (par p)) ≤ keyP (upd f p t i)
theorem Dn.start {f : Nat → Int × Int} {n : Nat} (h : Heap f (n + 1)) (t : Int × Int) : Dn f n 0 t := by
  refine ⟨?_, fun h0 => by omega⟩
  intro i h0 hi hne
  rw [upd_ne _ _ hne, upd_ne _ _ (by omega)]
  exact h i h0 (by omega)
theorem Dn.swap {f : Nat → Int × Int} {n p c : Nat} {t : Int × Int} (hp : p < n) (hc : c < n) (hne : c ≠ p) : Swp n (upd f p t) (upd (upd f p (f c)) c t) := by
  refine ⟨p, c, hp, hc, ?_, ?_, ?_⟩
  · rw [upd_ne _ _ (Ne.symm hne), upd_at, upd_ne _ _ hne]
  · rw [upd_at, upd_at]
  · intro i e1 e2
    rw [upd_ne _ _ e2, upd_ne _ _ e1, upd_ne _ _ e1]
theorem Dn.step {f : Nat → Int × Int} {n p c : Nat} {t : Int × Int} (h : Dn f n p t) (hc0 : 0 < c) (hc : c < n) (hcp : par c = p) (hk : keyP (f c) < keyP t) (hm : ∀ i, 0 < i → i < n → par i = p → keyP (f c) ≤ keyP (f i)) : Dn (upd f p (f c)) n c t := by
  have hpc := par_lt hc0
  rw [hcp] at hpc
  have vc : upd (upd f p (f c)) c t c = t := upd_at _ _ _
  have vp : upd (upd f p (f c)) c t p = f c := by rw [upd_ne _ _ (by omega), upd_at]
  have vo : ∀ i, i ≠ p → i ≠ c → upd (upd f p (f c)) c t i = f i := fun i e1 e2 => by rw [upd_ne _ _ e2, upd_ne _ _ e1]
  have mo : ∀ i, i ≠ p → upd f p t i = f i := fun i e => upd_ne _ _ e
  refine ⟨?_, ?_⟩
  · intro i h0 hi hne
    have hpi := par_lt h0
    by_cases e1 : i = c
    · subst e1
      rw [hcp, vp, vc]
      omega
    · by_cases e2 : par i = p
      · have hip : i ≠ p := by omega
        rw [e2, vp, vo i hip e1]
        exact hm i h0 hi e2
      · have hone := h.one i h0 hi e2
        rw [mo _ e2] at hone
        rw [vo _ e2 hne]
        by_cases e3 : i = p
        · subst e3
          rw [vp]
          have := h.two h0 c hc0 hc hcp
          rw [mo (par i) (by omega), mo c (by omega)] at this
          exact this
        · rw [vo i e3 e1]
          rw [mo i e3] at hone
          exact hone
  · intro _ i h0 hi e
    have hpi := par_lt h0
    rw [hcp, vp, vo i (by omega) (by omega)]
    have hone := h.one i h0 hi (by omega)
    rw [e, mo c (by omega), mo i (by omega)] at hone
    exact hone
theorem Dn.stop {f : Nat → Int × Int} {n p : Nat} {t : Int × Int} (h : Dn f n p t) (hs : ∀ i, 0 < i → i < n → par i = p → keyP t ≤ keyP (f i)) : Heap (upd f p t) n := by
  intro i h0 hi
  have hpi := par_lt h0
  by_cases e : par i = p
  · rw [e, upd_at, upd_ne _ _ (by omega)]
    exact hs i h0 hi e
  · exact h.one i h0 hi e
/-- the place below whose value is taken first -/
def bel (f : Nat → Int × Int) (n p : Nat) : Nat := if 2 * p + 2 < n ∧ keyP (f (2 * p + 2)) < keyP (f (2 * p + 1)) then 2 * p + 2 else 2 * p + 1
theorem bel_cases (f : Nat → Int × Int) (n p : Nat) : bel f n p = 2 * p + 1 ∨ bel f n p = 2 * p + 2 := by unfold bel; split <;> omega
theorem bel_par (f : Nat → Int × Int) (n p : Nat) : par (bel f n p) = p ∧ 0 < bel f n p ∧ p < bel f n p := by
  unfold par
  rcases bel_cases f n p with e | e <;> rw [e] <;> omega
theorem bel_min {f : Nat → Int × Int} {n p : Nat} : ∀ i, 0 < i → i < n → par i = p → keyP (f (bel f n p)) ≤ keyP (f i) := by
  intro i h0 hi e
  have hc : i = 2 * p + 1 ∨ i = 2 * p + 2 := by unfold par at e; omega
  unfold bel
  split
  · rename_i h
    rcases hc with rfl | rfl
    · omega
    · exact Int.le_refl _
  · rename_i h
    rcases hc with rfl | rfl
    · exact Int.le_refl _
    · have : ¬ keyP (f (2 * p + 2)) < keyP (f (2 * p + 1)) := fun hk => h ⟨hi, hk⟩
      omega
theorem bel_none {f : Nat → Int × Int} {n p : Nat} (h : ¬ bel f n p < n) : ∀ i, 0 < i → i < n → par i ≠ p := by
  intro i h0 hi e
  have hc : i = 2 * p + 1 ∨ i = 2 * p + 2 := by unfold par at e; omega
  unfold bel at h
  split at h <;> omega
theorem Dn.done {f : Nat → Int × Int} {n p : Nat} {t : Int × Int} (h : Dn f n p t) (hs : ¬ (bel f n p < n ∧ keyP (f (bel f n p)) < keyP t)) : Heap (upd f p t) n := by
  refine h.stop ?_
  intro i h0 hi e
  by_cases hb : bel f n p < n
  · have h1 := bel_min (f := f) i h0 hi e
    have h2 : ¬ keyP (f (bel f n p)) < keyP t := fun hk => hs ⟨hb, hk⟩
    omega
  · exact absurd e (bel_none hb i h0 hi)
theorem Dn.go {f : Nat → Int × Int} {n p : Nat} {t : Int × Int} (h : Dn f n p t) (hb : bel f n p < n) (hk : keyP (f (bel f n p)) < keyP t) : Dn (upd f p (f (bel f n p))) n (bel f n p) t :=
  h.step (bel_par f n p).2.1 hb (bel_par f n p).1 hk bel_min
end Go.Proofs.Ytfholjgndpefdaa.Bs
