/-
  PLAIN MATHEMATICS of graphs of tasks: the order in which ready tasks are taken. No condition.
-/
import Derived.Test.YtfholjgndpefdaaMath28
namespace Go.Proofs.Ytfholjgndpefdaa.Bs
def kkT (T : List Int) (a : Int) : Int := a - 8 * gi T a.toNat
theorem kkT_inj {T : List Int} {a b : Int} (ha : 0 ≤ a ∧ a < 8) (hb : 0 ≤ b ∧ b < 8) (h : kkT T a = kkT T b) : a = b := by
  unfold kkT at h
  omega
theorem kkT_lt {T : List Int} {a b : Int} (ha : 0 ≤ a ∧ a < 8) (hb : 0 ≤ b ∧ b < 8) : kkT T a < kkT T b ↔ gi T b.toNat < gi T a.toNat ∨ (gi T a.toNat = gi T b.toNat ∧ a < b) := by
  unfold kkT
  omega
def ins (K : Int → Int) (x : Int) : List Int → List Int
  | [] => [x]
  | y :: r => if K x < K y then x :: y :: r else y :: ins K x r
def isort (K : Int → Int) (l : List Int) : List Int := l.foldr (ins K) []
theorem mem_ins (K : Int → Int) (x z : Int) : ∀ l, z ∈ ins K x l ↔ z = x ∨ z ∈ l := by
  intro l
  induction l with
  | nil => simp [ins]
  | cons y r ih =>
    unfold ins
    split
    · simp
    · rw [List.mem_cons, ih, List.mem_cons]
      constructor
      · rintro (h | h | h)
        · exact .inr (.inl h)
        · exact .inl h
        · exact .inr (.inr h)
      · rintro (h | h | h)
        · exact .inr (.inl h)
        · exact .inl h
        · exact .inr (.inr h)
theorem ins_sorted (K : Int → Int) (x : Int) : ∀ l, l.Pairwise (fun a b => K a < K b) → (∀ y ∈ l, K x ≠ K y) → (ins K x l).Pairwise (fun a b => K a < K b) := by
  intro l
  induction l with
  | nil => intro _ _; simp [ins]
  | cons y r ih =>
    intro hp hne
    rw [List.pairwise_cons] at hp
    unfold ins
    split
    · rename_i h
      rw [List.pairwise_cons]
      refine ⟨?_, List.pairwise_cons.2 hp⟩
      intro z hz
      rw [List.mem_cons] at hz
      rcases hz with rfl | hz
      · exact h
      · have := hp.1 z hz; omega
    · rename_i h
      rw [List.pairwise_cons]
      refine ⟨?_, ih hp.2 (fun z hz => hne z (by simp [hz]))⟩
      intro z hz
      rw [mem_ins] at hz
      rcases hz with rfl | hz
      · have := hne y (by simp); omega
      · exact hp.1 z hz
theorem isort_ok {K : Int → Int} : ∀ {l : List Int}, l.Nodup → (∀ x ∈ l, ∀ y ∈ l, K x = K y → x = y) → (isort K l).Pairwise (fun a b => K a < K b) ∧ ∀ x, x ∈ isort K l ↔ x ∈ l := by
  intro l
  induction l with
  | nil => intro _ _; simp [isort]
  | cons y r ih =>
    intro hn hi
    rw [List.nodup_cons] at hn
    obtain ⟨h1, h2⟩ := ih hn.2 (fun a ha b hb => hi a (by simp [ha]) b (by simp [hb]))
    have e : isort K (y :: r) = ins K y (isort K r) := rfl
    rw [e]
    refine ⟨ins_sorted K y _ h1 ?_, ?_⟩
    · intro z hz e2
      rw [h2] at hz
      have := hi y (by simp) z (by simp [hz]) e2
      subst this
      exact hn.1 hz
    · intro x
      rw [mem_ins, h2, List.mem_cons]
def ordC (g : List T) (d : List Int) : List Int := isort (kkT (tailsC g)) (readyC g d)
def ordL (g : List T) (d : List Int) : List Int := if vdone g d then ordC g d else []
theorem ordL_no {g : List T} {d : List Int} (h : vdone g d = false) : ordL g d = [] := by unfold ordL; rw [h]; rfl
theorem ordL_yes {g : List T} {d : List Int} (h : vdone g d = true) : ordL g d = ordC g d := by unfold ordL; rw [h]; rfl
theorem ready_in {g : List T} {d : List Int} {x : Int} (h : x ∈ readyC g d) : 0 ≤ x ∧ x < g.length := by
  unfold readyC at h
  rw [mem_pick] at h
  obtain ⟨j, h1, _, rfl⟩ := h
  omega
theorem ord_ok {g : List T} {d : List Int} (hF : fine g = true) : (ordC g d).Pairwise (fun a b => kkT (tailsC g) a < kkT (tailsC g) b) ∧ ∀ x, x ∈ ordC g d ↔ x ∈ readyC g d := by
  have h8 := fine_len hF
  refine isort_ok (pick_nodup _ _) ?_
  intro x hx y hy e
  have h1 := ready_in hx
  have h2 := ready_in hy
  exact kkT_inj (by omega) (by omega) e
theorem ord_eq {g : List T} {d o : List Int} (hF : fine g = true) (hs : o.Pairwise (fun a b => kkT (tailsC g) a < kkT (tailsC g) b)) (hm : ∀ x, x ∈ o ↔ x ∈ readyC g d) : o = ordC g d := by
  obtain ⟨h1, h2⟩ := ord_ok (d := d) hF
  exact strict_unique _ _ _ hs h1 (fun x => by rw [hm, h2])
theorem pair_nodup {K : Int → Int} {l : List Int} (h : l.Pairwise (fun a b => K a < K b)) : l.Nodup := by
  rw [List.nodup_iff_pairwise_ne]
  refine h.imp ?_
  intro a b hab e
  subst e
  omega
theorem ord_len {g : List T} {d : List Int} (hF : fine g = true) : (ordC g d).length = (readyC g d).length := by
  obtain ⟨h1, h2⟩ := ord_ok (d := d) hF
  have a := nodup_le (pair_nodup h1) (fun x hx => (h2 x).1 hx)
  have b := nodup_le (pick_nodup (okNext g d) g.length) (fun x hx => (h2 x).2 hx)
  unfold readyC at *
  omega
/-- changes that keep what a heap holds -/
def Rel (n : Nat) (M M' : Nat → Int × Int) : Prop := (∀ x, (∃ i, i < n ∧ M' i = x) ↔ ∃ i, i < n ∧ M i = x) ∧ (Inj M n → Inj M' n)
theorem Rel.refl (n : Nat) (M : Nat → Int × Int) : Rel n M M := ⟨fun _ => Iff.rfl, id⟩
theorem Rel.swap {n : Nat} {M M' M'' : Nat → Int × Int} (h : Rel n M M') (h2 : Swp n M' M'') : Rel n M M'' := ⟨fun x => (h2.mem x).trans (h.1 x), fun hi => h2.inj (h.2 hi)⟩
/-- a heap with some tasks -/
structure HS (T : List Int) (f : Nat → Int × Int) (n : Nat) (S : List Int) : Prop where
  heap : Heap f n
  inj : Inj f n
  mem : ∀ x, (∃ i, i < n ∧ f i = x) ↔ ∃ a ∈ S, x = (a, gi T a.toNat)
theorem HS.nil (T : List Int) (f : Nat → Int × Int) : HS T f 0 [] := by
  refine ⟨fun i _ hi => by omega, fun i j hi => by omega, ?_⟩
  intro x
  simp
theorem HS.push {T : List Int} {f M : Nat → Int × Int} {n : Nat} {S : List Int} {a : Int} (h : HS T f n S) (ha : a ∉ S) (hr : Rel (n + 1) (upd f n (a, gi T a.toNat)) M) (hm : Heap M (n + 1)) : HS T M (n + 1) (S ++ [a]) := by
  have hmem : ∀ x, (∃ i, i < n + 1 ∧ upd f n (a, gi T a.toNat) i = x) ↔ ∃ b ∈ S ++ [a], x = (b, gi T b.toNat) := by
    intro x
    constructor
    · rintro ⟨i, hi, rfl⟩
      by_cases e : i = n
      · subst e
        exact ⟨a, by simp, by rw [upd_at]⟩
      · rw [upd_ne _ _ e]
        obtain ⟨b, hb, e2⟩ := (h.mem (f i)).1 ⟨i, by omega, rfl⟩
        exact ⟨b, by simp [hb], e2⟩
    · rintro ⟨b, hb, rfl⟩
      rw [List.mem_append, List.mem_singleton] at hb
      rcases hb with hb | rfl
      · obtain ⟨i, hi, e⟩ := (h.mem _).2 ⟨b, hb, rfl⟩
        exact ⟨i, by omega, by rw [upd_ne _ _ (by omega), e]⟩
      · exact ⟨n, by omega, upd_at _ _ _⟩
  have hnew : ∀ i, i < n → f i ≠ (a, gi T a.toNat) := by
    intro i hi e
    obtain ⟨b, hb, e2⟩ := (h.mem (f i)).1 ⟨i, hi, rfl⟩
    rw [e] at e2
    injection e2 with e3 _
    subst e3
    exact ha hb
  refine ⟨hm, hr.2 ?_, fun x => (hr.1 x).trans (hmem x)⟩
  intro i j hi hj e
  by_cases e1 : i = n
  · by_cases e2 : j = n
    · omega
    · rw [e1, upd_at, upd_ne _ _ e2] at e
      exact absurd e.symm (hnew j (by omega))
  · by_cases e2 : j = n
    · rw [e2, upd_at, upd_ne _ _ e1] at e
      exact absurd e (hnew i (by omega))
    · rw [upd_ne _ _ e1, upd_ne _ _ e2] at e
      exact h.inj i j (by omega) (by omega) e
theorem HS.first {T : List Int} {f : Nat → Int × Int} {n : Nat} {S : List Int} (h : HS T f (n + 1) S) (hS : ∀ x ∈ S, 0 ≤ x ∧ x < 8) : (f 0).1 ∈ S ∧ f 0 = ((f 0).1, gi T (f 0).1.toNat) ∧ ∀ b ∈ S, b ≠ (f 0).1 → kkT T (f 0).1 < kkT T b := by
  obtain ⟨a, ha, e⟩ := (h.mem (f 0)).1 ⟨0, by omega, rfl⟩
  have e1 : (f 0).1 = a := by rw [e]
  rw [e1]
  refine ⟨ha, e, ?_⟩
  intro b hb hne
  obtain ⟨i, hi, e2⟩ := (h.mem _).2 ⟨b, hb, rfl⟩
  have h1 := h.heap.min i hi
  rw [e, e2] at h1
  have h2 : kkT T a ≤ kkT T b := h1
  have h3 : kkT T a ≠ kkT T b := fun e3 => hne (kkT_inj (hS a ha) (hS b hb) e3).symm
  omega
theorem HS.pop {T : List Int} {f M : Nat → Int × Int} {n : Nat} {S : List Int} (h : HS T f (n + 1) S) (hr : Rel n (upd f 0 (f n)) M) (hm : Heap M n) : HS T M n (S.filter fun b => b != (f 0).1) := by
  have hmem : ∀ x, (∃ i, i < n ∧ upd f 0 (f n) i = x) ↔ ∃ i, 0 < i ∧ i < n + 1 ∧ f i = x := by
    intro x
    constructor
    · rintro ⟨i, hi, rfl⟩
      by_cases e : i = 0
      · subst e
        exact ⟨n, hi, by omega, by rw [upd_at]⟩
      · exact ⟨i, by omega, by omega, by rw [upd_ne _ _ e]⟩
    · rintro ⟨i, h0, hi, rfl⟩
      by_cases e : i = n
      · subst e
        exact ⟨0, by omega, upd_at _ _ _⟩
      · exact ⟨i, by omega, by rw [upd_ne _ _ (by omega)]⟩
  refine ⟨hm, hr.2 ?_, ?_⟩
  · intro i j hi hj e
    by_cases e1 : i = 0
    · by_cases e2 : j = 0
      · omega
      · rw [e1, upd_at, upd_ne _ _ e2] at e
        have := h.inj n j (by omega) (by omega) e
        omega
    · by_cases e2 : j = 0
      · rw [e2, upd_at, upd_ne _ _ e1] at e
        have := h.inj i n (by omega) (by omega) e
        omega
      · rw [upd_ne _ _ e1, upd_ne _ _ e2] at e
        exact h.inj i j (by omega) (by omega) e
  · intro x
    rw [hr.1 x, hmem x]
    constructor
    · rintro ⟨i, h0, hi, rfl⟩
      obtain ⟨a, ha, e⟩ := (h.mem (f i)).1 ⟨i, hi, rfl⟩
      refine ⟨a, ?_, e⟩
      rw [List.mem_filter]
      refine ⟨ha, ?_⟩
      rw [bne_iff_ne]
      intro e2
      obtain ⟨b, hb, e3⟩ := (h.mem (f 0)).1 ⟨0, by omega, rfl⟩
      have e4 : (f 0).1 = b := by rw [e3]
      have : f i = f 0 := by rw [e, e3, e2, e4]
      have := h.inj i 0 hi (by omega) this
      omega
    · rintro ⟨a, ha, rfl⟩
      rw [List.mem_filter, bne_iff_ne] at ha
      obtain ⟨i, hi, e⟩ := (h.mem _).2 ⟨a, ha.1, rfl⟩
      refine ⟨i, ?_, hi, e⟩
      rcases Nat.eq_zero_or_pos i with h0 | h0
      · subst h0
        exact absurd (by rw [e]) ha.2
      · exact h0
/-- what is taken so far -/
structure Taken (T : List Int) (R o S : List Int) : Prop where
  sorted : o.Pairwise (fun a b => kkT T a < kkT T b)
  before : ∀ x ∈ o, ∀ y ∈ S, kkT T x < kkT T y
  mem : ∀ x, x ∈ R ↔ x ∈ o ∨ x ∈ S
theorem Taken.start (T : List Int) {R S : List Int} (h : ∀ x, x ∈ S ↔ x ∈ R) : Taken T R [] S := ⟨List.Pairwise.nil, by simp, fun x => by simp [h]⟩
theorem Taken.next {T : List Int} {R o S : List Int} {a : Int} (h : Taken T R o S) (ha : a ∈ S) (hm : ∀ b ∈ S, b ≠ a → kkT T a < kkT T b) : Taken T R (o ++ [a]) (S.filter fun b => b != a) := by
  refine ⟨?_, ?_, ?_⟩
  · rw [List.pairwise_append]
    refine ⟨h.sorted, by simp, ?_⟩
    intro x hx y hy
    rw [List.mem_singleton] at hy
    subst hy
    exact h.before x hx y ha
  · intro x hx y hy
    rw [List.mem_filter, bne_iff_ne] at hy
    rw [List.mem_append, List.mem_singleton] at hx
    rcases hx with hx | rfl
    · exact h.before x hx y hy.1
    · exact hm y hy.1 hy.2
  · intro x
    rw [h.mem x, List.mem_append, List.mem_singleton, List.mem_filter, bne_iff_ne]
    by_cases e : x = a
    · subst e
      simp [ha]
    · simp [e]
end Go.Proofs.Ytfholjgndpefdaa.Bs
