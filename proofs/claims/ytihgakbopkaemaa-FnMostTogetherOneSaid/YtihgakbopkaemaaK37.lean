/-
  MERGED TEXTS: Math28 Math29.
-/
import Derived.Test.YtihgakbopkaemaaK11
namespace Go.Proofs.Ytihgakbopkaemaa.Bs
def keyP (p : Int × Int) : Int := p.1 - 8 * p.2
theorem keyP_lt {a b : Int × Int} (ha : 0 ≤ a.1 ∧ a.1 < 8) (hb : 0 ≤ b.1 ∧ b.1 < 8) : keyP a < keyP b ↔ (a.2 = b.2 ∧ a.1 < b.1) ∨ (a.2 ≠ b.2 ∧ b.2 < a.2) := by
  unfold keyP
  omega
def upd {α : Type} (f : Nat → α) (p : Nat) (x : α) : Nat → α := fun i => if i = p then x else f i
theorem upd_at {α : Type} (f : Nat → α) (p : Nat) (x : α) : upd f p x p = x := by simp [upd]
theorem upd_ne {α : Type} (f : Nat → α) {p i : Nat} (x : α) (h : i ≠ p) : upd f p x i = f i := by simp [upd, h]
def par (i : Nat) : Nat := (i - 1) / 2
theorem par_lt {i : Nat} (h : 0 < i) : par i < i := by unfold par; omega
def Heap (f : Nat → Int × Int) (n : Nat) : Prop := ∀ i, 0 < i → i < n → keyP (f (par i)) ≤ keyP (f i)
theorem Heap.min {f : Nat → Int × Int} {n : Nat} (h : Heap f n) : ∀ i, i < n → keyP (f 0) ≤ keyP (f i) := by
  intro i
  induction i using Nat.strongRecOn with
  | ind i ih =>
    intro hi
    by_cases h0 : i = 0
    · subst h0; exact Int.le_refl _
    · have h1 := h i (by omega) hi
      have h2 := ih (par i) (par_lt (by omega)) (by have := par_lt (i := i) (by omega); omega)
      omega
/-- two places change their values -/
def Swp (n : Nat) (M M' : Nat → Int × Int) : Prop := ∃ p q, p < n ∧ q < n ∧ M' p = M q ∧ M' q = M p ∧ ∀ i, i ≠ p → i ≠ q → M' i = M i
theorem Swp.mem {n : Nat} {M M' : Nat → Int × Int} (h : Swp n M M') (x : Int × Int) : (∃ i, i < n ∧ M' i = x) ↔ ∃ i, i < n ∧ M i = x := by
  obtain ⟨p, q, hp, hq, h1, h2, h3⟩ := h
  constructor
  · rintro ⟨i, hi, rfl⟩
    by_cases e1 : i = p
    · subst e1; exact ⟨q, hq, h1.symm⟩
    · by_cases e2 : i = q
      · subst e2; exact ⟨p, hp, h2.symm⟩
      · exact ⟨i, hi, (h3 i e1 e2).symm⟩
  · rintro ⟨i, hi, rfl⟩
    by_cases e1 : i = p
    · subst e1; exact ⟨q, hq, h2⟩
    · by_cases e2 : i = q
      · subst e2; exact ⟨p, hp, h1⟩
      · exact ⟨i, hi, h3 i e1 e2⟩
def Inj (f : Nat → Int × Int) (n : Nat) : Prop := ∀ i j, i < n → j < n → f i = f j → i = j
theorem Swp.inj {n : Nat} {M M' : Nat → Int × Int} (h : Swp n M M') (hI : Inj M n) : Inj M' n := by
  obtain ⟨p, q, hp, hq, h1, h2, h3⟩ := h
  have key : ∀ i, i < n → ∃ j, j < n ∧ M' i = M j ∧ ((i = p ∧ j = q) ∨ (i ≠ p ∧ i = q ∧ j = p) ∨ (i ≠ p ∧ i ≠ q ∧ j = i)) := by
    intro i hi
    by_cases e1 : i = p
    · exact ⟨q, hq, by rw [e1, h1], .inl ⟨e1, rfl⟩⟩
    · by_cases e2 : i = q
      · exact ⟨p, hp, by rw [e2, h2], .inr (.inl ⟨e1, e2, rfl⟩)⟩
      · exact ⟨i, hi, h3 i e1 e2, .inr (.inr ⟨e1, e2, rfl⟩)⟩
  intro i j hi hj e
  obtain ⟨a, ha, ea, ca⟩ := key i hi
  obtain ⟨b, hb, eb, cb⟩ := key j hj
  have := hI a b ha hb (by rw [← ea, ← eb, e])
  omega
/-- a value moves up -/
structure Up (f : Nat → Int × Int) (n p : Nat) (t : Int × Int) : Prop where
  lt : p < n
  one : ∀ i, 0 < i → i < n → i ≠ p → keyP (upd f p t (par i)) ≤ keyP (upd f p t i)
  two : 0 < p → ∀ i, 0 < i → i < n → par i = p → keyP (upd f p t (par p)) ≤ keyP (upd f p t i)
theorem Up.start {f : Nat → Int × Int} {n : Nat} (h : Heap f n) (t : Int × Int) : Up f (n + 1) n t := by
  refine ⟨by omega, ?_, ?_⟩
  · intro i h0 hi hne
    have := par_lt h0
    rw [upd_ne f t hne, upd_ne f t (by omega)]
    exact h i h0 (by omega)
  · intro _ i h0 hi e
    have := par_lt h0
    omega
theorem Up.swap {f : Nat → Int × Int} {n p : Nat} {t : Int × Int} (h : Up f n p t) (hp : 0 < p) : Swp n (upd f p t) (upd (upd f p (f (par p))) (par p) t) := by
  have h1 := par_lt hp
  have h2 := h.lt
  refine ⟨p, par p, h2, by omega, ?_, ?_, ?_⟩
  · rw [upd_ne _ _ (by omega), upd_at, upd_ne _ _ (by omega)]
  · rw [upd_at, upd_at]
  · intro i e1 e2
    rw [upd_ne _ _ e2, upd_ne _ _ e1, upd_ne _ _ e1]
theorem Up.step {f : Nat → Int × Int} {n p : Nat} {t : Int × Int} (h : Up f n p t) (hp : 0 < p) (hk : keyP t < keyP (f (par p))) : Up (upd f p (f (par p))) n (par p) t := by
  have hq := par_lt hp
  have h2 := h.lt
  generalize hqe : par p = q at *
  have vp : upd (upd f p (f q)) q t p = f q := by rw [upd_ne _ _ (by omega), upd_at]
  have vq : upd (upd f p (f q)) q t q = t := upd_at _ _ _
  have vo : ∀ i, i ≠ p → i ≠ q → upd (upd f p (f q)) q t i = f i := fun i e1 e2 => by rw [upd_ne _ _ e2, upd_ne _ _ e1]
  have mo : ∀ i, i ≠ p → upd f p t i = f i := fun i e => upd_ne _ _ e
  have mp : upd f p t p = t := upd_at _ _ _
  refine ⟨by omega, ?_, ?_⟩
  · intro i h0 hi hne
    have hpi := par_lt h0
    by_cases e1 : i = p
    · subst e1
      rw [hqe, vq, vp]
      omega
    · have hone := h.one i h0 hi e1
      rw [vo i e1 hne]
      rw [mo i e1] at hone
      by_cases e2 : par i = p
      · rw [e2, vp]
        have := h.two hp i h0 hi e2
        rw [mo i e1, hqe, mo q (by omega)] at this
        exact this
      · by_cases e3 : par i = q
        · rw [e3, vq]
          rw [e3, mo q (by omega)] at hone
          omega
        · rw [vo _ e2 e3]
          rw [mo _ e2] at hone
          exact hone
  · intro h0 i hi0 hi e
    have hpq := par_lt h0
    have hone := h.one q h0 (by omega) (by omega)
    rw [mo q (by omega), mo (par q) (by omega)] at hone
    rw [vo (par q) (by omega) (by omega)]
    by_cases e1 : i = p
    · subst e1
      rw [vp]
      exact hone
    · have h3 := h.one i hi0 hi e1
      rw [e, mo q (by omega), mo i e1] at h3
      have hiq : i ≠ q := by have := par_lt hi0; omega
      rw [vo i e1 hiq]
      omega
theorem Up.stop {f : Nat → Int × Int} {n p : Nat} {t : Int × Int} (h : Up f n p t) (hs : 0 < p → ¬ keyP t < keyP (f (par p))) : Heap (upd f p t) n := by
  intro i h0 hi
  by_cases e : i = p
  · subst e
    have := par_lt h0
    rw [upd_at, upd_ne _ _ (by omega)]
    have := hs h0
    omega
  · exact h.one i h0 hi e
/-- a value moves down -/
structure Dn (f : Nat → Int × Int) (n p : Nat) (t : Int × Int) : Prop where
  one : ∀ i, 0 < i → i < n → par i ≠ p → keyP (upd f p t (par i)) ≤ keyP (upd f p t i)
  two : 0 < p → ∀ i, 0 < i → i < n → par i = p → keyP (upd f p t (par p)) ≤ keyP (upd f p t i)
theorem Dn.start {f : Nat → Int × Int} {n : Nat} (h : Heap f (n + 1)) (t : Int × Int) : Dn f n 0 t := by
  refine ⟨?_, fun h0 => by omega⟩
  intro i h0 hi hne
  rw [upd_ne _ _ hne, upd_ne _ _ (by omega)]
  exact h i h0 (by omega)
theorem Dn.swap {f : Nat → Int × Int} {n p c : Nat} {t : Int × Int} (hp : p < n) (hc : c < n) (hne : c ≠ p) : Swp n (upd f p t) (upd (upd f p (f c)) c t) := by
  refine ⟨p, c, hp, hc, ?_, ?_, ?_⟩
  · rw [upd_ne _ _ (Ne.symm hne), upd_at, upd_ne _ _ hne]
  · rw [upd_at, upd_at]
  · intro i e1 e2
    rw [upd_ne _ _ e2, upd_ne _ _ e1, upd_ne _ _ e1]
theorem Dn.step {f : Nat → Int × Int} {n p c : Nat} {t : Int × Int} (h : Dn f n p t) (hc0 : 0 < c) (hc : c < n) (hcp : par c = p) (hk : keyP (f c) < keyP t) (hm : ∀ i, 0 < i → i < n → par i = p → keyP (f c) ≤ keyP (f i)) : Dn (upd f p (f c)) n c t := by
  have hpc := par_lt hc0
  rw [hcp] at hpc
  have vc : upd (upd f p (f c)) c t c = t := upd_at _ _ _
  have vp : upd (upd f p (f c)) c t p = f c := by rw [upd_ne _ _ (by omega), upd_at]
  have vo : ∀ i, i ≠ p → i ≠ c → upd (upd f p (f c)) c t i = f i := fun i e1 e2 => by rw [upd_ne _ _ e2, upd_ne _ _ e1]
  have mo : ∀ i, i ≠ p → upd f p t i = f i := fun i e => upd_ne _ _ e
  refine ⟨?_, ?_⟩
  · intro i h0 hi hne
    have hpi := par_lt h0
    by_cases e1 : i = c
    · subst e1
      rw [hcp, vp, vc]
      omega
    · by_cases e2 : par i = p
      · have hip : i ≠ p := by omega
        rw [e2, vp, vo i hip e1]
        exact hm i h0 hi e2
      · have hone := h.one i h0 hi e2
        rw [mo _ e2] at hone
        rw [vo _ e2 hne]
        by_cases e3 : i = p
        · subst e3
          rw [vp]
          have := h.two h0 c hc0 hc hcp
          rw [mo (par i) (by omega), mo c (by omega)] at this
          exact this
        · rw [vo i e3 e1]
          rw [mo i e3] at hone
          exact hone
  · intro _ i h0 hi e
    have hpi := par_lt h0
    rw [hcp, vp, vo i (by omega) (by omega)]
    have hone := h.one i h0 hi (by omega)
    rw [e, mo c (by omega), mo i (by omega)] at hone
    exact hone
theorem Dn.stop {f : Nat → Int × Int} {n p : Nat} {t : Int × Int} (h : Dn f n p t) (hs : ∀ i, 0 < i → i < n → par i = p → keyP t ≤ keyP (f i)) : Heap (upd f p t) n := by
  intro i h0 hi
  have hpi := par_lt h0
  by_cases e : par i = p
  · rw [e, upd_at, upd_ne _ _ (by omega)]
    exact hs i h0 hi e
  · exact h.one i h0 hi e
/-- the place below whose value is taken first -/
def bel (f : Nat → Int × Int) (n p : Nat) : Nat := if 2 * p + 2 < n ∧ keyP (f (2 * p + 2)) < keyP (f (2 * p + 1)) then 2 * p + 2 else 2 * p + 1
theorem bel_cases (f : Nat → Int × Int) (n p : Nat) : bel f n p = 2 * p + 1 ∨ bel f n p = 2 * p + 2 := by unfold bel; split <;> omega
theorem bel_par (f : Nat → Int × Int) (n p : Nat) : par (bel f n p) = p ∧ 0 < bel f n p ∧ p < bel f n p := by
  unfold par
  rcases bel_cases f n p with e | e <;> rw [e] <;> omega
theorem bel_min {f : Nat → Int × Int} {n p : Nat} : ∀ i, 0 < i → i < n → par i = p → keyP (f (bel f n p)) ≤ keyP (f i) := by
  intro i h0 hi e
  have hc : i = 2 * p + 1 ∨ i = 2 * p + 2 := by unfold par at e; omega
  unfold bel
  split
  · rename_i h
    rcases hc with rfl | rfl
    · omega
    · exact Int.le_refl _
  · rename_i h
    rcases hc with rfl | rfl
    · exact Int.le_refl _
    · have : ¬ keyP (f (2 * p + 2)) < keyP (f (2 * p + 1)) := fun hk => h ⟨hi, hk⟩
      omega
theorem bel_none {f : Nat → Int × Int} {n p : Nat} (h : ¬ bel f n p < n) : ∀ i, 0 < i → i < n → par i ≠ p := by
  intro i h0 hi e
  have hc : i = 2 * p + 1 ∨ i = 2 * p + 2 := by unfold par at e; omega
  unfold bel at h
  split at h <;> omega
theorem Dn.done {f : Nat → Int × Int} {n p : Nat} {t : Int × Int} (h : Dn f n p t) (hs : ¬ (bel f n p < n ∧ keyP (f (bel f n p)) < keyP t)) : Heap (upd f p t) n := by
  refine h.stop ?_
  intro i h0 hi e
  by_cases hb : bel f n p < n
  · have h1 := bel_min (f := f) i h0 hi e
    have h2 : ¬ keyP (f (bel f n p)) < keyP t := fun hk => hs ⟨hb, hk⟩
    omega
  · exact absurd e (bel_none hb i h0 hi)
theorem Dn.go {f : Nat → Int × Int} {n p : Nat} {t : Int × Int} (h : Dn f n p t) (hb : bel f n p < n) (hk : keyP (f (bel f n p)) < keyP t) : Dn (upd f p (f (bel f n p))) n (bel f n p) t :=
  h.step (bel_par f n p).2.1 hb (bel_par f n p).1 hk bel_min
end Go.Proofs.Ytihgakbopkaemaa.Bs
namespace Go.Proofs.Ytihgakbopkaemaa.Bs
def kkT (T : List Int) (a : Int) : Int := a - 8 * gi T a.toNat
theorem kkT_inj {T : List Int} {a b : Int} (ha : 0 ≤ a ∧ a < 8) (hb : 0 ≤ b ∧ b < 8) (h : kkT T a = kkT T b) : a = b := by
  unfold kkT at h
  omega
theorem kkT_lt {T : List Int} {a b : Int} (ha : 0 ≤ a ∧ a < 8) (hb : 0 ≤ b ∧ b < 8) : kkT T a < kkT T b ↔ gi T b.toNat < gi T a.toNat ∨ (gi T a.toNat = gi T b.toNat ∧ a < b) := by
  unfold kkT
  omega
def ins (K : Int → Int) (x : Int) : List Int → List Int
  | [] => [x]
  | y :: r => if K x < K y then x :: y :: r else y :: ins K x r
def isort (K : Int → Int) (l : List Int) : List Int := l.foldr (ins K) []
theorem mem_ins (K : Int → Int) (x z : Int) : ∀ l, z ∈ ins K x l ↔ z = x ∨ z ∈ l := by
  intro l
  induction l with
  | nil => simp [ins]
  | cons y r ih =>
    unfold ins
    split
    · simp
    · rw [List.mem_cons, ih, List.mem_cons]
      constructor
      · rintro (h | h | h)
        · exact .inr (.inl h)
        · exact .inl h
        · exact .inr (.inr h)
      · rintro (h | h | h)
        · exact .inr (.inl h)
        · exact .inl h
        · exact .inr (.inr h)
theorem ins_sorted (K : Int → Int) (x : Int) : ∀ l, l.Pairwise (fun a b => K a < K b) → (∀ y ∈ l, K x ≠ K y) → (ins K x l).Pairwise (fun a b => K a < K b) := by
  intro l
  induction l with
  | nil => intro _ _; simp [ins]
  | cons y r ih =>
    intro hp hne
    rw [List.pairwise_cons] at hp
    unfold ins
    split
    · rename_i h
      rw [List.pairwise_cons]
      refine ⟨?_, List.pairwise_cons.2 hp⟩
      intro z hz
      rw [List.mem_cons] at hz
      rcases hz with rfl | hz
      · exact h
      · have := hp.1 z hz; omega
    · rename_i h
      rw [List.pairwise_cons]
      refine ⟨?_, ih hp.2 (fun z hz => hne z (by simp [hz]))⟩
      intro z hz
      rw [mem_ins] at hz
      rcases hz with rfl | hz
      · have := hne y (by simp); omega
      · exact hp.1 z hz
theorem isort_ok {K : Int → Int} : ∀ {l : List Int}, l.Nodup → (∀ x ∈ l, ∀ y ∈ l, K x = K y → x = y) → (isort K l).Pairwise (fun a b => K a < K b) ∧ ∀ x, x ∈ isort K l ↔ x ∈ l := by
  intro l
  induction l with
  | nil => intro _ _; simp [isort]
  | cons y r ih =>
    intro hn hi
    rw [List.nodup_cons] at hn
    obtain ⟨h1, h2⟩ := ih hn.2 (fun a ha b hb => hi a (by simp [ha]) b (by simp [hb]))
    have e : isort K (y :: r) = ins K y (isort K r) := rfl
    rw [e]
    refine ⟨ins_sorted K y _ h1 ?_, ?_⟩
    · intro z hz e2
      rw [h2] at hz
      have := hi y (by simp) z (by simp [hz]) e2
      subst this
      exact hn.1 hz
    · intro x
      rw [mem_ins, h2, List.mem_cons]
def ordC (g : List T) (d : List Int) : List Int := isort (kkT (tailsC g)) (readyC g d)
def ordL (g : List T) (d : List Int) : List Int := if vdone g d then ordC g d else []
theorem ordL_no {g : List T} {d : List Int} (h : vdone g d = false) : ordL g d = [] := by unfold ordL; rw [h]; rfl
theorem ordL_yes {g : List T} {d : List Int} (h : vdone g d = true) : ordL g d = ordC g d := by unfold ordL; rw [h]; rfl
theorem ready_in {g : List T} {d : List Int} {x : Int} (h : x ∈ readyC g d) : 0 ≤ x ∧ x < g.length := by
  unfold readyC at h
  rw [mem_pick] at h
  obtain ⟨j, h1, _, rfl⟩ := h
  omega
theorem ord_ok {g : List T} {d : List Int} (hF : fine g = true) : (ordC g d).Pairwise (fun a b => kkT (tailsC g) a < kkT (tailsC g) b) ∧ ∀ x, x ∈ ordC g d ↔ x ∈ readyC g d := by
  have h8 := fine_len hF
  refine isort_ok (pick_nodup _ _) ?_
  intro x hx y hy e
  have h1 := ready_in hx
  have h2 := ready_in hy
  exact kkT_inj (by omega) (by omega) e
theorem ord_eq {g : List T} {d o : List Int} (hF : fine g = true) (hs : o.Pairwise (fun a b => kkT (tailsC g) a < kkT (tailsC g) b)) (hm : ∀ x, x ∈ o ↔ x ∈ readyC g d) : o = ordC g d := by
  obtain ⟨h1, h2⟩ := ord_ok (d := d) hF
  exact strict_unique _ _ _ hs h1 (fun x => by rw [hm, h2])
theorem pair_nodup {K : Int → Int} {l : List Int} (h : l.Pairwise (fun a b => K a < K b)) : l.Nodup := by
  rw [List.nodup_iff_pairwise_ne]
  refine h.imp ?_
  intro a b hab e
  subst e
  omega
theorem ord_len {g : List T} {d : List Int} (hF : fine g = true) : (ordC g d).length = (readyC g d).length := by
  obtain ⟨h1, h2⟩ := ord_ok (d := d) hF
  have a := nodup_le (pair_nodup h1) (fun x hx => (h2 x).1 hx)
  have b := nodup_le (pick_nodup (okNext g d) g.length) (fun x hx => (h2 x).2 hx)
  unfold readyC at *
  omega
/-- changes that keep what a heap holds -/
def Rel (n : Nat) (M M' : Nat → Int × Int) : Prop := (∀ x, (∃ i, i < n ∧ M' i = x) ↔ ∃ i, i < n ∧ M i = x) ∧ (Inj M n → Inj M' n)
theorem Rel.refl (n : Nat) (M : Nat → Int × Int) : Rel n M M := ⟨fun _ => Iff.rfl, id⟩
theorem Rel.swap {n : Nat} {M M' M'' : Nat → Int × Int} (h : Rel n M M') (h2 : Swp n M' M'') : Rel n M M'' := ⟨fun x => (h2.mem x).trans (h.1 x), fun hi => h2.inj (h.2 hi)⟩
/-- a heap with some tasks -/
structure HS (T : List Int) (f : Nat → Int × Int) (n : Nat) (S : List Int) : Prop where
  heap : Heap f n
  inj : Inj f n
  mem : ∀ x, (∃ i, i < n ∧ f i = x) ↔ ∃ a ∈ S, x = (a, gi T a.toNat)
theorem HS.nil (T : List Int) (f : Nat → Int × Int) : HS T f 0 [] := by
  refine ⟨fun i _ hi => by omega, fun i j hi => by omega, ?_⟩
  intro x
  simp
theorem HS.push {T : List Int} {f M : Nat → Int × Int} {n : Nat} {S : List Int} {a : Int} (h : HS T f n S) (ha : a ∉ S) (hr : Rel (n + 1) (upd f n (a, gi T a.toNat)) M) (hm : Heap M (n + 1)) : HS T M (n + 1) (S ++ [a]) := by
  have hmem : ∀ x, (∃ i, i < n + 1 ∧ upd f n (a, gi T a.toNat) i = x) ↔ ∃ b ∈ S ++ [a], x = (b, gi T b.toNat) := by
    intro x
    constructor
    · rintro ⟨i, hi, rfl⟩
      by_cases e : i = n
      · subst e
        exact ⟨a, by simp, by rw [upd_at]⟩
      · rw [upd_ne _ _ e]
        obtain ⟨b, hb, e2⟩ := (h.mem (f i)).1 ⟨i, by omega, rfl⟩
        exact ⟨b, by simp [hb], e2⟩
    · rintro ⟨b, hb, rfl⟩
      rw [List.mem_append, List.mem_singleton] at hb
      rcases hb with hb | rfl
      · obtain ⟨i, hi, e⟩ := (h.mem _).2 ⟨b, hb, rfl⟩
        exact ⟨i, by omega, by rw [upd_ne _ _ (by omega), e]⟩
      · exact ⟨n, by omega, upd_at _ _ _⟩
  have hnew : ∀ i, i < n → f i ≠ (a, gi T a.toNat) := by
    intro i hi e
    obtain ⟨b, hb, e2⟩ := (h.mem (f i)).1 ⟨i, hi, rfl⟩
    rw [e] at e2
    injection e2 with e3 _
    subst e3
    exact ha hb
  refine ⟨hm, hr.2 ?_, fun x => (hr.1 x).trans (hmem x)⟩
  intro i j hi hj e
  by_cases e1 : i = n
  · by_cases e2 : j = n
    · omega
    · rw [e1, upd_at, upd_ne _ _ e2] at e
      exact absurd e.symm (hnew j (by omega))
  · by_cases e2 : j = n
    · rw [e2, upd_at, upd_ne _ _ e1] at e
      exact absurd e (hnew i (by omega))
    · rw [upd_ne _ _ e1, upd_ne _ _ e2] at e
      exact h.inj i j (by omega) (by omega) e
theorem HS.first {T : List Int} {f : Nat → Int × Int} {n : Nat} {S : List Int} (h : HS T f (n + 1) S) (hS : ∀ x ∈ S, 0 ≤ x ∧ x < 8) : (f 0).1 ∈ S ∧ f 0 = ((f 0).1, gi T (f 0).1.toNat) ∧ ∀ b ∈ S, b ≠ (f 0).1 → kkT T (f 0).1 < kkT T b := by
  obtain ⟨a, ha, e⟩ := (h.mem (f 0)).1 ⟨0, by omega, rfl⟩
  have e1 : (f 0).1 = a := by rw [e]
  rw [e1]
  refine ⟨ha, e, ?_⟩
  intro b hb hne
  obtain ⟨i, hi, e2⟩ := (h.mem _).2 ⟨b, hb, rfl⟩
  have h1 := h.heap.min i hi
  rw [e, e2] at h1
  have h2 : kkT T a ≤ kkT T b := h1
  have h3 : kkT T a ≠ kkT T b := fun e3 => hne (kkT_inj (hS a ha) (hS b hb) e3).symm
  omega
theorem HS.pop {T : List Int} {f M : Nat → Int × Int} {n : Nat} {S : List Int} (h : HS T f (n + 1) S) (hr : Rel n (upd f 0 (f n)) M) (hm : Heap M n) : HS T M n (S.filter fun b => b != (f 0).1) := by
  have hmem : ∀ x, (∃ i, i < n ∧ upd f 0 (f n) i = x) ↔ ∃ i, 0 < i ∧ i < n + 1 ∧ f i = x := by
    intro x
    constructor
    · rintro ⟨i, hi, rfl⟩
      by_cases e : i = 0
      · subst e
        exact ⟨n, hi, by omega, by rw [upd_at]⟩
      · exact ⟨i, by omega, by omega, by rw [upd_ne _ _ e]⟩
    · rintro ⟨i, h0, hi, rfl⟩
      by_cases e : i = n
      · subst e
        exact ⟨0, by omega, upd_at _ _ _⟩
      · exact ⟨i, by omega, by rw [upd_ne _ _ (by omega)]⟩
  refine ⟨hm, hr.2 ?_, ?_⟩
  · intro i j hi hj e
    by_cases e1 : i = 0
    · by_cases e2 : j = 0
      · omega
      · rw [e1, upd_at, upd_ne _ _ e2] at e
        have := h.inj n j (by omega) (by omega) e
        omega
    · by_cases e2 : j = 0
      · rw [e2, upd_at, upd_ne _ _ e1] at e
        have := h.inj i n (by omega) (by omega) e
        omega
      · rw [upd_ne _ _ e1, upd_ne _ _ e2] at e
        exact h.inj i j (by omega) (by omega) e
  · intro x
    rw [hr.1 x, hmem x]
    constructor
    · rintro ⟨i, h0, hi, rfl⟩
      obtain ⟨a, ha, e⟩ := (h.mem (f i)).1 ⟨i, hi, rfl⟩
      refine ⟨a, ?_, e⟩
      rw [List.mem_filter]
      refine ⟨ha, ?_⟩
      rw [bne_iff_ne]
      intro e2
      obtain ⟨b, hb, e3⟩ := (h.mem (f 0)).1 ⟨0, by omega, rfl⟩
      have e4 : (f 0).1 = b := by rw [e3]
      have : f i = f 0 := by rw [e, e3, e2, e4]
      have := h.inj i 0 hi (by omega) this
      omega
    · rintro ⟨a, ha, rfl⟩
      rw [List.mem_filter, bne_iff_ne] at ha
      obtain ⟨i, hi, e⟩ := (h.mem _).2 ⟨a, ha.1, rfl⟩
      refine ⟨i, ?_, hi, e⟩
      rcases Nat.eq_zero_or_pos i with h0 | h0
      · subst h0
        exact absurd (by rw [e]) ha.2
      · exact h0
/-- what is taken so far -/
structure Taken (T : List Int) (R o S : List Int) : Prop where
  sorted : o.Pairwise (fun a b => kkT T a < kkT T b)
  before : ∀ x ∈ o, ∀ y ∈ S, kkT T x < kkT T y
  mem : ∀ x, x ∈ R ↔ x ∈ o ∨ x ∈ S
theorem Taken.start (T : List Int) {R S : List Int} (h : ∀ x, x ∈ S ↔ x ∈ R) : Taken T R [] S := ⟨List.Pairwise.nil, by simp, fun x => by simp [h]⟩
theorem Taken.next {T : List Int} {R o S : List Int} {a : Int} (h : Taken T R o S) (ha : a ∈ S) (hm : ∀ b ∈ S, b ≠ a → kkT T a < kkT T b) : Taken T R (o ++ [a]) (S.filter fun b => b != a) := by
  refine ⟨?_, ?_, ?_⟩
  · rw [List.pairwise_append]
    refine ⟨h.sorted, by simp, ?_⟩
    intro x hx y hy
    rw [List.mem_singleton] at hy
    subst hy
    exact h.before x hx y ha
  · intro x hx y hy
    rw [List.mem_filter, bne_iff_ne] at hy
    rw [List.mem_append, List.mem_singleton] at hx
    rcases hx with hx | rfl
    · exact h.before x hx y hy.1
    · exact hm y hy.1 hy.2
  · intro x
    rw [h.mem x, List.mem_append, List.mem_singleton, List.mem_filter, bne_iff_ne]
    by_cases e : x = a
    · subst e
      simp [ha]
    · simp [e]
end Go.Proofs.Ytihgakbopkaemaa.Bs
