/-
  PLAIN MATHEMATICS of users: served one after the other. No condition.
-/
import Derived.Test.YtbmfhnijbdmjbaaMath80
namespace Go.Proofs.Ytbmfhnijbdmjbaa.Bs
/-- how many tasks wait -/
def wN : List U → Nat
  | [] => 0
  | u :: r => u.waits.toNat + wN r
theorem wN_set : ∀ (l : List U) (m : Nat) (_h : m < l.length) (v : U), wN (l.set m v) + (gu l m).waits.toNat = wN l + v.waits.toNat
  | u :: r, 0, _, v => by show v.waits.toNat + wN r + u.waits.toNat = u.waits.toNat + wN r + v.waits.toNat; omega
  | u :: r, m + 1, h, v => by
    have := wN_set r m (by simpa using h) v
    show u.waits.toNat + wN (r.set m v) + (gu r m).waits.toNat = u.waits.toNat + wN r + v.waits.toNat
    omega
theorem wN_ge : ∀ (l : List U) (m : Nat) (_h : m < l.length), (gu l m).waits.toNat ≤ wN l
  | u :: r, 0, _ => by show u.waits.toNat ≤ u.waits.toNat + wN r; omega
  | u :: r, m + 1, h => by
    have := wN_ge r m (by simpa using h)
    show (gu r m).waits.toNat ≤ u.waits.toNat + wN r
    omega
theorem wN_zero : ∀ (l : List U) (_h : ∀ j, j < l.length → ¬ 0 < (gu l j).waits), wN l = 0
  | [], _ => rfl
  | u :: r, h => by
    have h1 := h 0 (by simp)
    have h2 := wN_zero r (fun j hj => h (j + 1) (by simpa using hj))
    show u.waits.toNat + wN r = 0
    have : (gu (u :: r) 0).waits = u.waits := rfl
    omega
theorem wN_le {l : List U} (h : usersOk l = true) : wN l ≤ 30 := by
  obtain ⟨⟨_, h5⟩, hu⟩ := usersOk_iff.1 h
  have key : ∀ (l : List U), (∀ k, k < l.length → uOk (gu l k) = true) → wN l ≤ 6 * l.length := by
    intro l
    induction l with
    | nil => intro _; exact Nat.le_refl _
    | cons u r ih =>
      intro h
      have h1 := (uOk_iff.1 (h 0 (by simp))).2.2
      have h2 := ih (fun k hk => h (k + 1) (by simpa using hk))
      have : (gu (u :: r) 0).waits = u.waits := rfl
      show u.waits.toNat + wN r ≤ 6 * (r.length + 1)
      omega
  have := key l hu
  omega
/-- the users after NextUser is served -/
def srvL (l : List U) (t : Int) : List U := l.set (nextC l).toNat (servU (gu l (nextC l).toNat) t)
def seqF : Nat → List U → Int → List Int
  | 0, _, _ => []
  | k + 1, l, t => if nextC l < 0 then [] else nextC l :: seqF k (srvL l t) t
def seqC (l : List U) (t : Int) : List Int := seqF (wN l) l t
def srvOk (l : List U) (t : Int) : Bool := usersOk l && decide (1 ≤ t ∧ t ≤ 20)
def seqL (l : List U) (t : Int) : List Int := if srvOk l t then seqC l t else []
def seOk (l : List U) (t : Int) : Bool := srvOk l t && decide (0 ≤ nextC l)
theorem srvOk_iff {l : List U} {t : Int} : srvOk l t = true ↔ usersOk l = true ∧ 1 ≤ t ∧ t ≤ 20 := by unfold srvOk; rw [Bool.and_eq_true, decide_eq_true_eq]
theorem seOk_iff {l : List U} {t : Int} : seOk l t = true ↔ srvOk l t = true ∧ 0 ≤ nextC l := by unfold seOk; rw [Bool.and_eq_true, decide_eq_true_eq]
theorem seqL_no {l : List U} {t : Int} (h : srvOk l t = false) : seqL l t = [] := by unfold seqL; rw [h]; rfl
theorem seqL_yes {l : List U} {t : Int} (h : srvOk l t = true) : seqL l t = seqC l t := by unfold seqL; rw [h]; rfl
theorem servU_ok {u : U} {t : Int} (h : uOk u = true) (hw : 0 < u.waits) (ht : 1 ≤ t ∧ t ≤ 20) : uOk (servU u t) = true := by
  obtain ⟨h1, h2, h3⟩ := uOk_iff.1 h
  refine uOk_iff.2 ⟨h1, ?_, ?_⟩
  · unfold servU
    simp only
    split <;> omega
  · unfold servU
    simp only
    omega
theorem next_at {l : List U} (h : usersOk l = true) (h0 : 0 ≤ nextC l) : (nextC l).toNat < l.length ∧ 0 < (gu l (nextC l).toNat).waits := by
  rcases nextC_is h with ⟨e, _⟩ | ⟨m, e, hm, hw, _⟩
  · omega
  · rw [e, Int.toNat_natCast]; exact ⟨hm, hw⟩
theorem srvL_len (l : List U) (t : Int) : (srvL l t).length = l.length := List.length_set
theorem srvL_gu {l : List U} {t : Int} (h : (nextC l).toNat < l.length) (i : Nat) : gu (srvL l t) i = if i = (nextC l).toNat then servU (gu l (nextC l).toNat) t else gu l i := gu_set h
theorem srvL_ok {l : List U} {t : Int} (h : usersOk l = true) (h0 : 0 ≤ nextC l) (ht : 1 ≤ t ∧ t ≤ 20) : usersOk (srvL l t) = true := by
  obtain ⟨h1, h2⟩ := usersOk_iff.1 h
  obtain ⟨hm, hw⟩ := next_at h h0
  refine usersOk_iff.2 ⟨by rw [srvL_len]; exact h1, ?_⟩
  intro k hk
  rw [srvL_len] at hk
  rw [srvL_gu hm]
  split
  · exact servU_ok (h2 _ hm) hw ht
  · exact h2 k hk
theorem srvL_w {l : List U} {t : Int} (h : usersOk l = true) (h0 : 0 ≤ nextC l) : wN (srvL l t) + 1 = wN l := by
  obtain ⟨hm, hw⟩ := next_at h h0
  have h1 := wN_set l _ hm (servU (gu l (nextC l).toNat) t)
  have h2 : (servU (gu l (nextC l).toNat) t).waits = (gu l (nextC l).toNat).waits - 1 := rfl
  rw [h2] at h1
  have h3 := wN_ge l _ hm
  unfold srvL
  omega
theorem next_none {l : List U} (h : usersOk l = true) : nextC l < 0 ↔ wN l = 0 := by
  constructor
  · intro h0
    rcases nextC_is h with ⟨e, h1⟩ | ⟨m, e, _⟩
    · exact wN_zero l h1
    · omega
  · intro h0
    rcases nextC_is h with ⟨e, h1⟩ | ⟨m, e, hm, hw, _⟩
    · omega
    · have := wN_ge l m hm
      omega
theorem seqC_step {l : List U} {t : Int} (h : usersOk l = true) (h0 : 0 ≤ nextC l) : seqC l t = nextC l :: seqC (srvL l t) t := by
  have h1 := srvL_w (t := t) h h0
  unfold seqC
  rw [← h1]
  show (if nextC l < 0 then [] else nextC l :: seqF (wN (srvL l t)) (srvL l t) t) = _
  rw [if_neg (by omega)]
theorem seqC_end {l : List U} {t : Int} (h : usersOk l = true) (h0 : nextC l < 0) : seqC l t = [] := by
  unfold seqC
  rw [(next_none h).1 h0]
  rfl
/-- induction along the service -/
theorem serve_ind {t : Int} (ht : 1 ≤ t ∧ t ≤ 20) (P : List U → Prop) (h0 : ∀ l, usersOk l = true → nextC l < 0 → P l) (h1 : ∀ l, usersOk l = true → 0 ≤ nextC l → P (srvL l t) → P l) : ∀ l, usersOk l = true → P l := by
  have key : ∀ n l, usersOk l = true → wN l = n → P l := by
    intro n
    induction n with
    | zero => intro l hl hw; exact h0 l hl ((next_none hl).2 hw)
    | succ n ih =>
      intro l hl hw
      have hn : 0 ≤ nextC l := by
        have := next_none hl
        omega
      exact h1 l hl hn (ih _ (srvL_ok hl hn ht) (by have := srvL_w (t := t) hl hn; omega))
  intro l hl
  exact key _ l hl rfl
theorem seqC_len {l : List U} {t : Int} (h : usersOk l = true) (ht : 1 ≤ t ∧ t ≤ 20) : (seqC l t).length = wN l := by
  revert h
  refine serve_ind ht (fun l => (seqC l t).length = wN l) ?_ ?_ l
  · intro l hl h0; rw [seqC_end hl h0, (next_none hl).1 h0]; rfl
  · intro l hl h0 ih
    rw [seqC_step hl h0, List.length_cons, ih, srvL_w hl h0]
/-- the heap after its first user is served -/
def hs1 (f : Nat → H) (t : Int) : Nat → H := upd f 0 ⟨(f 0).at_, servU (f 0).u t⟩
def hsN (f : Nat → H) (n : Nat) : Nat := if (f 0).u.waits - 1 = 0 then n - 1 else n
def hs2 (f : Nat → H) (n : Nat) (t : Int) : Nat → H := if (f 0).u.waits - 1 = 0 then upd (hs1 f t) 0 (hs1 f t (n - 1)) else hs1 f t
def hsF (f : Nat → H) (n : Nat) (t : Int) : Nat → H := settle (hsN f n) 5 (hs2 f n t) 0
theorem hs2_far {f : Nat → H} {n : Nat} {t : Int} {i : Nat} (hi : i ≠ 0) : hs2 f n t i = f i := by
  unfold hs2
  split
  · unfold upd hs1 upd; rw [if_neg hi, if_neg hi]
  · unfold hs1 upd; rw [if_neg hi]
theorem hsF_ho {f : Nat → H} {n : Nat} {t : Int} (h : HO f n 0) (hn : n ≤ 5) : HO (hsF f n t) (hsN f n) 0 := by
  have hle : hsN f n ≤ n := by unfold hsN; split <;> omega
  refine settle_ho _ _ _ _ _ ⟨Nat.le_refl _, ?_, fun h => absurd h (by omega)⟩ (by omega)
  intro i hi hin _ hp
  rw [hs2_far hp, hs2_far (by omega)]
  exact h i hi (by omega) (Nat.zero_le _)
theorem hs2_hs {l : List U} {f : Nat → H} {n : Nat} {t : Int} (h : UHS l l.length f n) (ho : HO f n 0) (hu : usersOk l = true) (h0 : 0 < n) : UHS (srvL l t) (srvL l t).length (hs2 f n t) (hsN f n) := by
  have hnx := h.next ho hu
  rw [if_neg (by omega)] at hnx
  obtain ⟨m, hm, e0, hw⟩ := h.of 0 h0
  have em : (nextC l).toNat = m := by rw [hnx, e0]; exact Int.toNat_natCast m
  have hml : (nextC l).toNat < l.length := by omega
  have hg : ∀ i, gu (srvL l t) i = if i = m then servU (gu l m) t else gu l i := by intro i; rw [srvL_gu hml, em]
  have hother : ∀ j, j < n → j ≠ 0 → ∃ i : Nat, i < l.length ∧ f j = ⟨(i : Int), gu l i⟩ ∧ 0 < (gu l i).waits ∧ i ≠ m := by
    intro j hj hj0
    obtain ⟨i, hi, e, hw2⟩ := h.of j hj
    refine ⟨i, hi, e, hw2, ?_⟩
    rintro rfl
    exact hj0 (h.inj j 0 hj h0 (by rw [e, e0]))
  have hm0 : (f 0).u = gu l m := by rw [e0]
  have ha0 : (f 0).at_ = (m : Int) := by rw [e0]
  rw [srvL_len]
  by_cases hz : (f 0).u.waits - 1 = 0
  · have eN : hsN f n = n - 1 := if_pos hz
    have eF : ∀ j, hs2 f n t j = if j = 0 then hs1 f t (n - 1) else f j := by
      intro j
      by_cases hj : j = 0
      · subst hj
        rw [if_pos rfl]
        show (if _ then _ else _ : Nat → H) 0 = _
        rw [if_pos hz]
        unfold upd; rw [if_pos rfl]
      · rw [if_neg hj]; exact hs2_far hj
    have hw1 : ¬ 0 < (servU (gu l m) t).waits := by show ¬ 0 < (gu l m).waits - 1; rw [← hm0]; omega
    rw [eN]
    have hmap : ∀ j, j < n - 1 → ∃ j', j' < n ∧ j' ≠ 0 ∧ hs2 f n t j = f j' ∧ (j = 0 → j' = n - 1) ∧ (j ≠ 0 → j' = j) := by
      intro j hj
      by_cases hj0 : j = 0
      · refine ⟨n - 1, by omega, by omega, ?_, fun _ => rfl, fun h => absurd hj0 h⟩
        rw [eF, if_pos hj0]
        unfold hs1 upd; rw [if_neg (by omega)]
      · exact ⟨j, by omega, hj0, by rw [eF, if_neg hj0], fun h => absurd h hj0, fun _ => rfl⟩
    refine ⟨by have := h.le; omega, by rw [srvL_len]; exact Nat.le_refl _, ?_, ?_, ?_⟩
    · intro j hj
      obtain ⟨j', hj', hj0, e, _⟩ := hmap j hj
      obtain ⟨i, hi, e2, hw2, hne⟩ := hother j' hj' hj0
      exact ⟨i, hi, by rw [e, e2, hg, if_neg hne], by rw [hg, if_neg hne]; exact hw2⟩
    · intro i hi hw2
      rw [hg] at hw2
      by_cases him : i = m
      · rw [if_pos him] at hw2; exact absurd hw2 hw1
      · rw [if_neg him] at hw2
        obtain ⟨j, hj, e⟩ := h.all i hi hw2
        have hj0 : j ≠ 0 := by
          rintro rfl
          rw [e] at ha0
          simp only at ha0
          omega
        by_cases hjl : j = n - 1
        · refine ⟨0, by omega, ?_⟩
          rw [eF, if_pos rfl]
          unfold hs1 upd
          rw [if_neg (by omega), ← hjl, e, hg, if_neg him]
        · exact ⟨j, by omega, by rw [eF, if_neg hj0, e, hg, if_neg him]⟩
    · intro i j hi hj he
      obtain ⟨i', hi', _, ei, i1, i2⟩ := hmap i hi
      obtain ⟨j', hj', _, ej, j1, j2⟩ := hmap j hj
      rw [ei, ej] at he
      have := h.inj i' j' hi' hj' he
      by_cases x : i = 0 <;> by_cases y : j = 0 <;> simp_all <;> omega
  · have eN : hsN f n = n := if_neg hz
    have eF : hs2 f n t = hs1 f t := if_neg hz
    have e1 : ∀ j, hs1 f t j = if j = 0 then ⟨(m : Int), servU (gu l m) t⟩ else f j := by
      intro j
      unfold hs1 upd
      rw [ha0, hm0]
    rw [eN, eF]
    refine ⟨h.le, by rw [srvL_len]; exact Nat.le_refl _, ?_, ?_, ?_⟩
    · intro j hj
      by_cases hj0 : j = 0
      · refine ⟨m, hm, by rw [e1, if_pos hj0, hg, if_pos rfl], ?_⟩
        rw [hg, if_pos rfl]
        show 0 < (gu l m).waits - 1
        rw [← hm0]
        rw [← hm0] at hw
        omega
      · obtain ⟨i, hi, e2, hw2, hne⟩ := hother j hj hj0
        exact ⟨i, hi, by rw [e1, if_neg hj0, e2, hg, if_neg hne], by rw [hg, if_neg hne]; exact hw2⟩
    · intro i hi hw2
      by_cases him : i = m
      · subst him
        exact ⟨0, h0, by rw [e1, if_pos rfl, hg, if_pos rfl]⟩
      · rw [hg, if_neg him] at hw2
        obtain ⟨j, hj, e⟩ := h.all i hi hw2
        have hj0 : j ≠ 0 := by
          rintro rfl
          rw [e] at ha0
          simp only at ha0
          omega
        exact ⟨j, hj, by rw [e1, if_neg hj0, e, hg, if_neg him]⟩
    · have hat : ∀ j, (hs1 f t j).at_ = (f j).at_ := by
        intro j
        rw [e1]
        by_cases hj0 : j = 0
        · rw [if_pos hj0, hj0, ha0]
        · rw [if_neg hj0]
      intro i j hi hj he
      rw [hat, hat] at he
      exact h.inj i j hi hj he
theorem hsF_hs {l : List U} {f : Nat → H} {n : Nat} {t : Int} (h : UHS l l.length f n) (ho : HO f n 0) (hu : usersOk l = true) (h0 : 0 < n) : UHS (srvL l t) (srvL l t).length (hsF f n t) (hsN f n) := by
  have h1 := hs2_hs (t := t) h ho hu h0
  by_cases hz : 0 < hsN f n
  · exact h1.settle 5 _ 0 hz
  · have e : hsN f n = 0 := by omega
    have h2 : ∀ g : Nat → H, UHS (srvL l t) (srvL l t).length (hs2 f n t) 0 → UHS (srvL l t) (srvL l t).length g 0 := fun g h => ⟨h.le, h.kl, fun j hj => absurd hj (by omega), fun i hi hw => by obtain ⟨j, hj, _⟩ := h.all i hi hw; omega, fun i j hi => absurd hi (by omega)⟩
    rw [e] at h1 ⊢
    exact h2 _ h1
end Go.Proofs.Ytbmfhnijbdmjbaa.Bs
