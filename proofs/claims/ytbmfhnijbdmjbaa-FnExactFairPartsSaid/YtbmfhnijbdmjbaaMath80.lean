/-
  PLAIN MATHEMATICS of users: who comes next; a heap of those whose tasks wait. No condition.
-/
import Derived.Test.YtbmfhnijbdmjbaaK37
namespace Go.Proofs.Ytbmfhnijbdmjbaa.Bs
structure U where
  share : Int
  used : Int
  waits : Int
def u0 : U := ⟨0, 0, 0⟩
def uOk (u : U) : Bool := (decide (1 ≤ u.share ∧ u.share ≤ 10) && decide (0 ≤ u.used ∧ u.used ≤ 10000)) && decide (0 ≤ u.waits ∧ u.waits ≤ 6)
def usersOk (l : List U) : Bool := decide (1 ≤ l.length ∧ l.length ≤ 5) && l.all uOk
def gu (l : List U) (i : Nat) : U := l.getD i u0
theorem gu_at {l : List U} {k : Nat} (hk : k < l.length) : gu l k = l[k] := by unfold gu; rw [List.getD_eq_getElem?_getD, List.getElem?_eq_getElem hk]; rfl
theorem gu_set {l : List U} {a i : Nat} {v : U} (h : a < l.length) : gu (l.set a v) i = if i = a then v else gu l i := by
  unfold gu
  simp only [List.getD_eq_getElem?_getD, List.getElem?_set]
  by_cases e : a = i
  · subst e; simp [h]
  · simp [e, Ne.symm e]
theorem uOk_iff {u : U} : uOk u = true ↔ (1 ≤ u.share ∧ u.share ≤ 10) ∧ (0 ≤ u.used ∧ u.used ≤ 10000) ∧ (0 ≤ u.waits ∧ u.waits ≤ 6) := by
  unfold uOk
  simp only [Bool.and_eq_true, decide_eq_true_eq, and_assoc]
theorem usersOk_iff {l : List U} : usersOk l = true ↔ (1 ≤ l.length ∧ l.length ≤ 5) ∧ ∀ k, k < l.length → uOk (gu l k) = true := by
  unfold usersOk
  rw [Bool.and_eq_true, decide_eq_true_eq, List.all_eq_true]
  constructor
  · rintro ⟨h1, h2⟩
    exact ⟨h1, fun k hk => by rw [gu_at hk]; exact h2 _ (List.getElem_mem hk)⟩
  · rintro ⟨h1, h2⟩
    refine ⟨h1, ?_⟩
    intro x hx
    obtain ⟨k, hk, rfl⟩ := List.mem_iff_getElem.1 hx
    rw [← gu_at hk]
    exact h2 k hk
/-- a user's key: how much is used for the share, as a whole number -/
def ukey (u : U) : Int := u.used * (2520 / u.share)
theorem share_div {s : Int} (h : 1 ≤ s ∧ s ≤ 10) : 2520 / s * s = 2520 := by
  have : s = 1 ∨ s = 2 ∨ s = 3 ∨ s = 4 ∨ s = 5 ∨ s = 6 ∨ s = 7 ∨ s = 8 ∨ s = 9 ∨ s = 10 := by omega
  rcases this with rfl | rfl | rfl | rfl | rfl | rfl | rfl | rfl | rfl | rfl <;> decide
theorem ukey_mul {a b : U} (ha : uOk a = true) : ukey a * (a.share * b.share) = 2520 * (a.used * b.share) := by
  obtain ⟨h1, _⟩ := uOk_iff.1 ha
  have := share_div h1
  unfold ukey
  calc a.used * (2520 / a.share) * (a.share * b.share) = a.used * (2520 / a.share * a.share) * b.share := by simp only [Int.mul_assoc]
    _ = 2520 * (a.used * b.share) := by rw [this, Int.mul_comm a.used 2520, Int.mul_assoc]
theorem ukey_lt {a b : U} (ha : uOk a = true) (hb : uOk b = true) : a.used * b.share < b.used * a.share ↔ ukey a < ukey b := by
  have h1 := ukey_mul (b := b) ha
  have h2 := ukey_mul (b := a) hb
  rw [Int.mul_comm b.share a.share] at h2
  obtain ⟨sa, _⟩ := uOk_iff.1 ha
  obtain ⟨sb, _⟩ := uOk_iff.1 hb
  have hp : 0 < a.share * b.share := Int.mul_pos (by omega) (by omega)
  have h3 : ukey a * (a.share * b.share) < ukey b * (a.share * b.share) ↔ ukey a < ukey b := Int.mul_lt_mul_right hp
  rw [← h3, h1, h2]
  omega
theorem ukey_eq {a b : U} (ha : uOk a = true) (hb : uOk b = true) : a.used * b.share = b.used * a.share ↔ ukey a = ukey b := by
  have h1 := ukey_lt ha hb
  have h2 := ukey_lt hb ha
  omega
theorem uprod {a b : U} (ha : uOk a = true) (hb : uOk b = true) : 0 ≤ a.used * b.share ∧ a.used * b.share ≤ 100000 := by
  obtain ⟨_, ua, _⟩ := uOk_iff.1 ha
  obtain ⟨sb, _⟩ := uOk_iff.1 hb
  constructor
  · exact Int.mul_nonneg (by omega) (by omega)
  · calc a.used * b.share ≤ 10000 * b.share := Int.mul_le_mul_of_nonneg_right (by omega) (by omega)
      _ ≤ 100000 := by omega
def poor (a b : U) : Bool := decide (a.used * b.share < b.used * a.share)
/-- who comes next, of the first k -/
def nextK (l : List U) : Nat → Int
  | 0 => -1
  | k + 1 => if decide (0 < (gu l k).waits) && (decide (nextK l k < 0) || poor (gu l k) (gu l (nextK l k).toNat)) then (k : Int) else nextK l k
def nextC (l : List U) : Int := nextK l l.length
def nextL (l : List U) : Int := if usersOk l then nextC l else -1
theorem nextL_no {l : List U} (h : usersOk l = false) : nextL l = -1 := by unfold nextL; rw [h]; rfl
theorem nextL_yes {l : List U} (h : usersOk l = true) : nextL l = nextC l := by unfold nextL; rw [h]; rfl
def IsNext (l : List U) (k : Nat) (x : Int) : Prop := (x = -1 ∧ ∀ j, j < k → ¬ 0 < (gu l j).waits) ∨ ∃ m : Nat, x = (m : Int) ∧ m < k ∧ 0 < (gu l m).waits ∧ ∀ j, j < k → 0 < (gu l j).waits → ukey (gu l m) < ukey (gu l j) ∨ (ukey (gu l m) = ukey (gu l j) ∧ m ≤ j)
theorem nextK_is {l : List U} (h : usersOk l = true) : ∀ k, k ≤ l.length → IsNext l k (nextK l k) := by
  have hu := (usersOk_iff.1 h).2
  intro k
  induction k with
  | zero => intro _; exact .inl ⟨rfl, fun j hj => by omega⟩
  | succ k ih =>
    intro hk
    have h1 := ih (by omega)
    unfold nextK
    by_cases hw : 0 < (gu l k).waits
    · rcases h1 with ⟨e, h2⟩ | ⟨m, e, hm, hmw, h2⟩
      · rw [e]
        have : (decide (0 < (gu l k).waits) && (decide ((-1 : Int) < 0) || poor (gu l k) (gu l (-1 : Int).toNat))) = true := by simp [hw]
        rw [if_pos this]
        refine .inr ⟨k, rfl, by omega, hw, ?_⟩
        intro j hj hjw
        by_cases ej : j = k
        · subst ej; exact .inr ⟨rfl, Nat.le_refl _⟩
        · exact absurd hjw (h2 j (by omega))
      · rw [e, Int.toNat_natCast]
        by_cases hp : ukey (gu l k) < ukey (gu l m)
        · have hpo : poor (gu l k) (gu l m) = true := by unfold poor; rw [decide_eq_true_eq]; exact (ukey_lt (hu k (by omega)) (hu m (by omega))).2 hp
          rw [if_pos (by rw [hpo]; simp [hw])]
          refine .inr ⟨k, rfl, by omega, hw, ?_⟩
          intro j hj hjw
          by_cases ej : j = k
          · subst ej; exact .inr ⟨rfl, Nat.le_refl _⟩
          · have := h2 j (by omega) hjw
            left; omega
        · have hpo : poor (gu l k) (gu l m) = false := by unfold poor; rw [decide_eq_false_iff_not]; exact fun h => hp ((ukey_lt (hu k (by omega)) (hu m (by omega))).1 h)
          rw [if_neg (by rw [hpo]; simp)]
          refine .inr ⟨m, rfl, by omega, hmw, ?_⟩
          intro j hj hjw
          by_cases ej : j = k
          · subst ej
            by_cases e2 : ukey (gu l m) = ukey (gu l j)
            · exact .inr ⟨e2, by omega⟩
            · left; omega
          · exact h2 j (by omega) hjw
    · rw [if_neg (by simp [hw])]
      rcases h1 with ⟨e, h2⟩ | ⟨m, e, hm, hmw, h2⟩
      · refine .inl ⟨e, ?_⟩
        intro j hj
        by_cases ej : j = k
        · subst ej; exact hw
        · exact h2 j (by omega)
      · refine .inr ⟨m, e, by omega, hmw, ?_⟩
        intro j hj hjw
        by_cases ej : j = k
        · subst ej; exact absurd hjw hw
        · exact h2 j (by omega) hjw
theorem IsNext.uniq {l : List U} {k : Nat} {x y : Int} (h : IsNext l k x) (h' : IsNext l k y) : x = y := by
  rcases h with ⟨rfl, h1⟩ | ⟨m, rfl, hm, hw, h1⟩
  · rcases h' with ⟨rfl, _⟩ | ⟨m, rfl, hm, hw, _⟩
    · rfl
    · exact absurd hw (h1 m hm)
  · rcases h' with ⟨rfl, h2⟩ | ⟨m', rfl, hm', hw', h2⟩
    · exact absurd hw (h2 m hm)
    · have a := h1 m' hm' hw'
      have b := h2 m hm hw
      omega
theorem nextC_is {l : List U} (h : usersOk l = true) : IsNext l l.length (nextC l) := nextK_is h _ (Nat.le_refl _)
theorem nextK_b (l : List U) : ∀ k, -1 ≤ nextK l k ∧ nextK l k < k := by
  intro k
  induction k with
  | zero => unfold nextK; omega
  | succ k ih =>
    unfold nextK
    split <;> omega
/-- a user in the heap -/
structure H where
  at_ : Int
  u : U
def h0 : H := ⟨0, u0⟩
def hkey (a : H) : Int := ukey a.u * 8 + a.at_
def hOk (a : H) : Prop := uOk a.u = true ∧ 0 ≤ a.at_ ∧ a.at_ < 8
theorem before_key {a b : H} (ha : hOk a) (hb : hOk b) : (if a.u.used * b.u.share = b.u.used * a.u.share then decide (a.at_ < b.at_) else decide (a.u.used * b.u.share < b.u.used * a.u.share)) = decide (hkey a < hkey b) := by
  have h1 := ukey_lt ha.1 hb.1
  have h2 := ukey_eq ha.1 hb.1
  unfold hkey
  obtain ⟨_, a1, a2⟩ := ha
  obtain ⟨_, b1, b2⟩ := hb
  split
  · rename_i e
    have := h2.1 e
    rw [decide_eq_decide]
    omega
  · rename_i e
    have : ukey a.u ≠ ukey b.u := fun h => e (h2.2 h)
    rw [decide_eq_decide, h1]
    omega
def first1 (f : Nat → H) (n p : Nat) : Nat := if 2 * p + 1 < n ∧ hkey (f (2 * p + 1)) < hkey (f p) then 2 * p + 1 else p
def firstP (f : Nat → H) (n p : Nat) : Nat := if 2 * p + 2 < n ∧ hkey (f (2 * p + 2)) < hkey (f (first1 f n p)) then 2 * p + 2 else first1 f n p
def swp (f : Nat → H) (a b : Nat) : Nat → H := upd (upd f a (f b)) b (f a)
def settle (n : Nat) : Nat → (Nat → H) → Nat → (Nat → H)
  | 0, f, _ => f
  | s + 1, f, p => if firstP f n p = p then f else settle n s (swp f p (firstP f n p)) (firstP f n p)
theorem swp_at (f : Nat → H) (a b i : Nat) : swp f a b i = if i = b then f a else if i = a then f b else f i := by
  unfold swp upd
  rfl
/-- the heap is in order below place q -/
def HO (f : Nat → H) (n q : Nat) : Prop := ∀ i, 0 < i → i < n → q ≤ par i → hkey (f (par i)) ≤ hkey (f i)
/-- in order but for place p -/
structure HD (f : Nat → H) (n q p : Nat) : Prop where
  qp : q ≤ p
  rest : ∀ i, 0 < i → i < n → q ≤ par i → par i ≠ p → hkey (f (par i)) ≤ hkey (f i)
  up : 0 < p → q ≤ par p → ∀ i, 0 < i → i < n → par i = p → hkey (f (par p)) ≤ hkey (f i)
theorem par_kids {i p : Nat} (h : par i = p) (hi : 0 < i) : i = 2 * p + 1 ∨ i = 2 * p + 2 := by unfold par at h; omega
theorem firstP_cases (f : Nat → H) (n p : Nat) : (firstP f n p = p ∧ (∀ i, 0 < i → i < n → par i = p → hkey (f p) ≤ hkey (f i))) ∨
    (par (firstP f n p) = p ∧ p < firstP f n p ∧ firstP f n p < n ∧ hkey (f (firstP f n p)) < hkey (f p) ∧ ∀ i, 0 < i → i < n → par i = p → hkey (f (firstP f n p)) ≤ hkey (f i)) := by
  have hp1 : par (2 * p + 1) = p := by unfold par; omega
  have hp2 : par (2 * p + 2) = p := by unfold par; omega
  unfold firstP first1
  by_cases h1 : 2 * p + 1 < n ∧ hkey (f (2 * p + 1)) < hkey (f p)
  · rw [if_pos h1]
    by_cases h2 : 2 * p + 2 < n ∧ hkey (f (2 * p + 2)) < hkey (f (2 * p + 1))
    · rw [if_pos h2]
      right
      refine ⟨hp2, by omega, h2.1, by omega, ?_⟩
      intro i hi hin hpi
      rcases par_kids hpi hi with rfl | rfl <;> omega
    · rw [if_neg h2]
      right
      refine ⟨hp1, by omega, h1.1, h1.2, ?_⟩
      intro i hi hin hpi
      rcases par_kids hpi hi with rfl | rfl <;> omega
  · rw [if_neg h1]
    by_cases h2 : 2 * p + 2 < n ∧ hkey (f (2 * p + 2)) < hkey (f p)
    · rw [if_pos h2]
      right
      refine ⟨hp2, by omega, h2.1, h2.2, ?_⟩
      intro i hi hin hpi
      rcases par_kids hpi hi with rfl | rfl <;> omega
    · rw [if_neg h2]
      left
      refine ⟨rfl, ?_⟩
      intro i hi hin hpi
      rcases par_kids hpi hi with rfl | rfl <;> omega
theorem HD.step {f : Nat → H} {n q p : Nat} (h : HD f n q p) (hf : firstP f n p ≠ p) : HD (swp f p (firstP f n p)) n q (firstP f n p) := by
  rcases firstP_cases f n p with ⟨e, _⟩ | ⟨hpar, hlt, hn, hk, hmin⟩
  · exact absurd e hf
  · generalize firstP f n p = c at *
    have hq := h.qp
    refine ⟨by omega, ?_, ?_⟩
    · intro i hi hin hqi hpi
      rw [swp_at, swp_at, if_neg hpi]
      by_cases e1 : i = c
      · subst e1
        rw [if_pos rfl, hpar, if_pos rfl]
        exact Int.le_of_lt hk
      · rw [if_neg e1]
        by_cases e2 : i = p
        · subst e2
          rw [if_pos rfl]
          have hne : par i ≠ i := by unfold par; omega
          rw [if_neg hne]
          exact h.up hi hqi c (by omega) hn hpar
        · rw [if_neg e2]
          by_cases e3 : par i = p
          · rw [if_pos e3]
            exact hmin i hi hin e3
          · rw [if_neg e3]
            exact h.rest i hi hin hqi e3
    · intro _ _ i hi hin hpi
      rw [hpar, swp_at, swp_at, if_neg (by omega), if_pos rfl]
      have hci : c < i := by unfold par at hpi; omega
      rw [if_neg (by omega), if_neg (by omega)]
      have := h.rest i hi hin (by rw [hpi]; omega) (by rw [hpi]; omega)
      rw [hpi] at this
      exact this
theorem settle_ho (n q : Nat) : ∀ s (f : Nat → H) p, HD f n q p → n ≤ p + s → HO (settle n s f p) n q := by
  intro s
  induction s with
  | zero =>
    intro f p h hs
    intro i hi hin hqi
    unfold settle
    exact h.rest i hi hin hqi (by have : par i < i := by unfold par; omega
                                  omega)
  | succ s ih =>
    intro f p h hs
    unfold settle
    split
    · rename_i e
      rcases firstP_cases f n p with ⟨_, h2⟩ | ⟨hpar, hlt, _⟩
      · intro i hi hin hqi
        by_cases e3 : par i = p
        · rw [e3]; exact h2 i hi hin e3
        · exact h.rest i hi hin hqi e3
      · omega
    · rename_i e
      refine ih _ _ (h.step e) ?_
      rcases firstP_cases f n p with ⟨e2, _⟩ | ⟨_, hlt, _⟩
      · exact absurd e2 e
      · omega
theorem HO.hd {f : Nat → H} {n q : Nat} (h : HO f n (q + 1)) : HD f n q q := by
  refine ⟨Nat.le_refl _, ?_, ?_⟩
  · intro i hi hin hqi hpi
    exact h i hi hin (by omega)
  · intro hq hqp
    unfold par at hqp
    omega
theorem HO.root {f : Nat → H} {n : Nat} (h : HO f n 0) : ∀ i, i < n → hkey (f 0) ≤ hkey (f i) := by
  intro i
  induction i using Nat.strongRecOn with
  | _ i ih =>
    intro hi
    by_cases e : i = 0
    · subst e; exact Int.le_refl _
    · have h1 := h i (by omega) hi (Nat.zero_le _)
      have h2 : par i < i := by unfold par; omega
      have h3 := ih (par i) h2 (by omega)
      omega
/-- what the heap holds: of the first k users those whose tasks wait -/
structure UHS (l : List U) (k : Nat) (f : Nat → H) (n : Nat) : Prop where
  le : n ≤ k
  kl : k ≤ l.length
  of : ∀ j, j < n → ∃ i : Nat, i < k ∧ f j = ⟨(i : Int), gu l i⟩ ∧ 0 < (gu l i).waits
  all : ∀ i, i < k → 0 < (gu l i).waits → ∃ j, j < n ∧ f j = ⟨(i : Int), gu l i⟩
  inj : ∀ i j, i < n → j < n → (f i).at_ = (f j).at_ → i = j
theorem UHS.swp {l : List U} {k n : Nat} {f : Nat → H} (h : UHS l k f n) {a b : Nat} (ha : a < n) (hb : b < n) : UHS l k (Bs.swp f a b) n := by
  have key : ∀ i, i < n → ∃ j, j < n ∧ Bs.swp f a b i = f j ∧ (i = b → j = a) ∧ (i ≠ b → i = a → j = b) ∧ (i ≠ b → i ≠ a → j = i) := by
    intro i hi
    rw [swp_at]
    by_cases e : i = b
    · exact ⟨a, ha, by rw [if_pos e], fun _ => rfl, fun h => absurd e h, fun h => absurd e h⟩
    · rw [if_neg e]
      by_cases e2 : i = a
      · exact ⟨b, hb, by rw [if_pos e2], fun h => absurd h e, fun _ _ => rfl, fun _ h => absurd e2 h⟩
      · exact ⟨i, hi, by rw [if_neg e2], fun h => absurd h e, fun _ h => absurd h e2, fun _ _ => rfl⟩
  refine ⟨h.le, h.kl, ?_, ?_, ?_⟩
  · intro j hj
    obtain ⟨j', hj', e, _⟩ := key j hj
    rw [e]
    exact h.of j' hj'
  · intro i hi hw
    obtain ⟨j, hj, e⟩ := h.all i hi hw
    by_cases e1 : j = a
    · refine ⟨b, hb, ?_⟩
      rw [swp_at, if_pos rfl, ← e1]; exact e
    · by_cases e2 : j = b
      · refine ⟨a, ha, ?_⟩
        rw [swp_at]
        by_cases e3 : a = b
        · omega
        · rw [if_neg e3, if_pos rfl, ← e2]; exact e
      · refine ⟨j, hj, ?_⟩
        rw [swp_at, if_neg e2, if_neg e1]; exact e
  · intro i j hi hj e
    obtain ⟨i', hi', ei, i1, i2, i3⟩ := key i hi
    obtain ⟨j', hj', ej, j1, j2, j3⟩ := key j hj
    rw [ei, ej] at e
    have := h.inj i' j' hi' hj' e
    by_cases x1 : i = b <;> by_cases x2 : j = b <;> by_cases x3 : i = a <;> by_cases x4 : j = a <;> simp_all
theorem UHS.settle {l : List U} {k n : Nat} : ∀ s (f : Nat → H) p, UHS l k f n → p < n → UHS l k (Bs.settle n s f p) n := by
  intro s
  induction s with
  | zero => intro f p h _; exact h
  | succ s ih =>
    intro f p h hp
    unfold Bs.settle
    split
    · exact h
    · rename_i e
      rcases firstP_cases f n p with ⟨e2, _⟩ | ⟨_, _, hn, _⟩
      · exact absurd e2 e
      · exact ih _ _ (h.swp hp hn) hn
theorem UHS.ok {l : List U} {k n : Nat} {f : Nat → H} (h : UHS l k f n) (hu : usersOk l = true) {j : Nat} (hj : j < n) : hOk (f j) := by
  obtain ⟨i, hi, e, _⟩ := h.of j hj
  obtain ⟨⟨_, h5⟩, h2⟩ := usersOk_iff.1 hu
  have := h.kl
  rw [e]
  exact ⟨h2 i (by omega), by show (0 : Int) ≤ i; omega, by show (i : Int) < 8; omega⟩
/-- the first of the heap comes next -/
theorem UHS.next {l : List U} {n : Nat} {f : Nat → H} (h : UHS l l.length f n) (ho : HO f n 0) (hu : usersOk l = true) : nextC l = if n = 0 then -1 else (f 0).at_ := by
  refine (nextC_is hu).uniq ?_
  by_cases hn : n = 0
  · subst hn
    rw [if_pos rfl]
    refine .inl ⟨rfl, ?_⟩
    intro j hj hw
    obtain ⟨j', hj', _⟩ := h.all j hj hw
    omega
  · rw [if_neg hn]
    obtain ⟨m, hm, e, hw⟩ := h.of 0 (by omega)
    refine .inr ⟨m, by rw [e], hm, hw, ?_⟩
    intro j hj hjw
    obtain ⟨j', hj', e2⟩ := h.all j hj hjw
    have := ho.root j' hj'
    rw [e, e2] at this
    unfold hkey at this
    have h5 := (usersOk_iff.1 hu).1.2
    simp only at this
    omega
/-- the building of the heap -/
theorem UHS.start (l : List U) (f : Nat → H) : UHS l 0 f 0 := ⟨Nat.le_refl _, Nat.zero_le _, fun j hj => by omega, fun i hi => by omega, fun i j hi => by omega⟩
theorem UHS.skip {l : List U} {k n : Nat} {f : Nat → H} (h : UHS l k f n) (hk : k < l.length) (hw : ¬ 0 < (gu l k).waits) : UHS l (k + 1) f n := by
  refine ⟨by have := h.le; omega, by omega, ?_, ?_, h.inj⟩
  · intro j hj
    obtain ⟨i, hi, e⟩ := h.of j hj
    exact ⟨i, by omega, e⟩
  · intro i hi hw2
    by_cases e : i = k
    · subst e; exact absurd hw2 hw
    · exact h.all i (by omega) hw2
theorem UHS.push {l : List U} {k n : Nat} {f : Nat → H} (h : UHS l k f n) (hk : k < l.length) (hw : 0 < (gu l k).waits) : UHS l (k + 1) (upd f n ⟨(k : Int), gu l k⟩) (n + 1) := by
  refine ⟨by have := h.le; omega, by omega, ?_, ?_, ?_⟩
  · intro j hj
    unfold upd
    by_cases e : j = n
    · rw [if_pos e]; exact ⟨k, by omega, rfl, hw⟩
    · rw [if_neg e]
      obtain ⟨i, hi, e2⟩ := h.of j (by omega)
      exact ⟨i, by omega, e2⟩
  · intro i hi hw2
    by_cases e : i = k
    · subst e
      exact ⟨n, by omega, by unfold upd; rw [if_pos rfl]⟩
    · obtain ⟨j, hj, e2⟩ := h.all i (by omega) hw2
      exact ⟨j, by omega, by unfold upd; rw [if_neg (by omega)]; exact e2⟩
  · intro i j hi hj
    unfold upd
    have key : ∀ j, j < n → (f j).at_ < k := by
      intro j hj
      obtain ⟨i, hi, e, _⟩ := h.of j hj
      rw [e]
      show (i : Int) < k
      omega
    by_cases e1 : i = n
    · rw [if_pos e1]
      by_cases e2 : j = n
      · intro _; omega
      · rw [if_neg e2]
        intro e
        have := key j (by omega)
        simp only at e
        omega
    · rw [if_neg e1]
      by_cases e2 : j = n
      · rw [if_pos e2]
        intro e
        have := key i (by omega)
        simp only at e
        omega
      · rw [if_neg e2]
        exact h.inj i j (by omega) (by omega)
/-- a user that is served once -/
def servU (u : U) (t : Int) : U := ⟨u.share, if 10000 < u.used + t then 10000 else u.used + t, u.waits - 1⟩
end Go.Proofs.Ytbmfhnijbdmjbaa.Bs
