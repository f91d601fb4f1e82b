/-
  MERGED TEXTS: Math98 Math99 Math100 Math101 Math102.
-/
import Derived.Test.YtihgakbopkaemaaK44
import Derived.Test.YtihgakbopkaemaaK2
import Derived.Test.YtihgakbopkaemaaK16
import Derived.Test.YtihgakbopkaemaaMath44
import Derived.Test.YtihgakbopkaemaaK20
import Derived.Test.YtihgakbopkaemaaK43
namespace Go.Proofs.Ytihgakbopkaemaa.Bs
theorem at_mono {g : List T} {l : List E} (h : evK g l l.length = true) {k : Nat} : ∀ n, k + n < l.length → (ge l k).at_ ≤ (ge l (k + n)).at_ := by
  intro n
  induction n with
  | zero => intro _; exact Int.le_refl _
  | succ n ih =>
    intro hk
    have h1 := ih (by omega)
    have h2 := (evOk_iff.1 (evK_at (k := k + n + 1) (by omega) h)).2.2.1
    have h3 : nwK l (k + n + 1) = (ge l (k + n)).at_ := rfl
    have h4 : k + (n + 1) = k + n + 1 := rfl
    rw [h4]
    omega
theorem ovN_ovL {g : List T} {l : List E} (h : evK g l l.length = true) (now : Int) : ∀ k, k ≤ l.length → ∃ j, j ≤ k ∧ ovN l now k = ovL l j ∧ (j = k ∨ ∀ i, j ≤ i → i < l.length → now < (ge l i).at_) := by
  intro k
  induction k with
  | zero => intro _; exact ⟨0, Nat.le_refl _, rfl, Or.inl rfl⟩
  | succ k ih =>
    intro hk
    obtain ⟨j, hj, e, hc⟩ := ih (by omega)
    have hs : ovN l now (k + 1) = if (ge l k).over && decide ((ge l k).at_ ≤ now) then ovN l now k ++ [(ge l k).task] else ovN l now k := rfl
    have ho : ovL l (k + 1) = if (ge l k).over then ovL l k ++ [(ge l k).task] else ovL l k := rfl
    by_cases hx : (ge l k).at_ ≤ now
    · rcases hc with rfl | hc
      · refine ⟨j + 1, Nat.le_refl _, ?_, Or.inl rfl⟩
        rw [hs, ho, decide_eq_true hx, Bool.and_true, e]
      · have := hc k hj (by omega)
        omega
    · refine ⟨j, by omega, ?_, Or.inr ?_⟩
      · rw [hs, decide_eq_false hx, Bool.and_false, e]
        rfl
      · rcases hc with rfl | hc
        · intro i h1 h2
          have h3 := at_mono (k := j) h (i - j) (by omega)
          rw [show j + (i - j) = i from by omega] at h3
          omega
        · exact hc
theorem done_valid {g : List T} {l : List E} (h : logV g l = true) (now : Int) : vdone g (doneC g l now) = true := by
  obtain ⟨hgv, _, hev⟩ := logV_iff.1 h
  obtain ⟨j, hj, e, _⟩ := ovN_ovL hev now l.length (Nat.le_refl _)
  have hli := LI.of (valid_fine hgv) j (evK_le hj hev)
  have hm : ∀ x, x ∈ doneC g l now ↔ x ∈ ovL l j := by
    intro x
    unfold doneC
    rw [e, mem_pick]
    constructor
    · rintro ⟨i, _, h2, rfl⟩
      simpa using h2
    · intro hx
      have h3 := hli.oin x hx
      exact ⟨x.toNat, by omega, by simp; rw [show max x 0 = x from by omega]; exact hx, by omega⟩
  rw [vdone_iff]
  refine ⟨hgv, ?_, ?_⟩
  · unfold inG doneC
    rw [Bool.and_eq_true]
    exact ⟨asc_pick _ _, pick_in _ _⟩
  · intro x hx y hy
    rw [hm] at hx ⊢
    exact hli.need_ x (hli.sub x hx) y hy
theorem ovN_more {l : List E} {a b : Int} (hab : a ≤ b) : ∀ k, ∀ x ∈ ovN l a k, x ∈ ovN l b k := by
  intro k
  induction k with
  | zero => intro x hx; exact hx
  | succ k ih =>
    intro x hx
    have ha : ovN l a (k + 1) = if (ge l k).over && decide ((ge l k).at_ ≤ a) then ovN l a k ++ [(ge l k).task] else ovN l a k := rfl
    have hb : ovN l b (k + 1) = if (ge l k).over && decide ((ge l k).at_ ≤ b) then ovN l b k ++ [(ge l k).task] else ovN l b k := rfl
    rw [ha] at hx
    rw [hb]
    split at hx
    · next h1 =>
      rw [Bool.and_eq_true, decide_eq_true_eq] at h1
      rw [if_pos (by rw [Bool.and_eq_true, decide_eq_true_eq]; exact ⟨h1.1, by omega⟩)]
      rcases List.mem_append.1 hx with h2 | h2
      · exact List.mem_append_left _ (ih x h2)
      · exact List.mem_append_right _ h2
    · split
      · exact List.mem_append_left _ (ih x hx)
      · exact ih x hx
theorem done_more {g : List T} {l : List E} {a b : Int} (hab : a ≤ b) : ∀ x ∈ doneC g l a, x ∈ doneC g l b := by
  intro x hx
  unfold doneC at *
  rw [mem_pick] at *
  obtain ⟨i, h1, h2, rfl⟩ := hx
  refine ⟨i, h1, ?_, rfl⟩
  have := ovN_more hab l.length (i : Int) (by simpa using h2)
  simpa using this
theorem done_none {g : List T} {l : List E} (h : logV g l = true) {a : Int} (ha : a < 0) : doneC g l a = [] := by
  obtain ⟨hgv, _, hev⟩ := logV_iff.1 h
  have h1 : ∀ k, k ≤ l.length → ovN l a k = [] := by
    intro k
    induction k with
    | zero => intro _; rfl
    | succ k ih =>
      intro hk
      have hs : ovN l a (k + 1) = if (ge l k).over && decide ((ge l k).at_ ≤ a) then ovN l a k ++ [(ge l k).task] else ovN l a k := rfl
      have h2 := (evOk_iff.1 (evK_at (k := k) (by omega) hev)).1
      rw [hs, decide_eq_false (by omega), Bool.and_false]
      exact ih (by omega)
  unfold doneC
  rw [h1 _ (Nat.le_refl _), List.eq_nil_iff_forall_not_mem]
  intro x hx
  rw [mem_pick] at hx
  obtain ⟨i, _, h2, _⟩ := hx
  simp at h2
end Go.Proofs.Ytihgakbopkaemaa.Bs
namespace Go.Proofs.Ytihgakbopkaemaa.Bs
theorem ovE_none {g : List T} {S : List Int} {t : Int} : ∀ k, (∀ i, i < k → giZ S i + timeOf g i ≠ t) → ovE g S t k = [] := by
  intro k
  induction k with
  | zero => intro _; rfl
  | succ k ih =>
    intro h
    show (if giZ S k + timeOf g k == t then _ else _ : List E) = []
    rw [if_neg (by rw [beq_iff_eq]; exact h k (by omega))]
    exact ih (fun i hi => h i (by omega))
theorem bgE_none {S : List Int} {t : Int} : ∀ k, (∀ i, i < k → giZ S i ≠ t) → bgE S t k = [] := by
  intro k
  induction k with
  | zero => intro _; rfl
  | succ k ih =>
    intro h
    show (if giZ S k == t then _ else _ : List E) = []
    rw [if_neg (by rw [beq_iff_eq]; exact h k (by omega))]
    exact ih (fun i hi => h i (by omega))
theorem lgK_end {g : List T} {S : List Int} {e : Nat} (h : ∀ i, i < g.length → giZ S i + timeOf g i ≤ (e : Int) ∧ giZ S i ≤ (e : Int)) : ∀ d, lgK g S (e + 1 + d) = lgK g S (e + 1) := by
  intro d
  induction d with
  | zero => rfl
  | succ d ih =>
    show lgK g S (e + 1 + d) ++ (ovE g S ((e + 1 + d : Nat) : Int) g.length ++ bgE S ((e + 1 + d : Nat) : Int) g.length) = _
    rw [ih, ovE_none g.length (fun i hi => by have := h i hi; omega), bgE_none g.length (fun i hi => by have := h i hi; omega)]
    simp
/-- the log up to the end is the whole log -/
theorem logL_end {g : List T} {m S : List Int} {wk : Int} (hv : stV g m wk S = true) : ∃ e : Nat, endT g m wk S = (e : Int) ∧ e ≤ 220 ∧ logL g m wk S = lgK g S (e + 1) := by
  obtain ⟨hcan, hk, _⟩ := stV_iff.1 hv
  have hF := valid_fine (canV_iff.1 hcan).1
  have h0 := end_nonneg g S
  have hle : endC g S ≤ 220 := by
    refine end_le (by omega) ?_
    intro i hi
    have h1 := clk_at hk i
    have h2 := fine_time hF hi
    omega
  refine ⟨(endC g S).toNat, by rw [endT_yes hv]; omega, by omega, ?_⟩
  rw [logL_yes hv]
  have hb : ∀ i, i < g.length → giZ S i + timeOf g i ≤ ((endC g S).toNat : Int) ∧ giZ S i ≤ ((endC g S).toNat : Int) := by
    intro i hi
    have h1 := end_ge (S := S) hi
    have h2 := fine_time hF hi
    omega
  have := lgK_end hb (220 - (endC g S).toNat)
  rwa [show (endC g S).toNat + 1 + (220 - (endC g S).toNat) = 221 from by omega] at this
end Go.Proofs.Ytihgakbopkaemaa.Bs
namespace Go.Proofs.Ytihgakbopkaemaa.Bs
theorem mem_ovE {g : List T} {S : List Int} {t : Int} {x : E} : ∀ k, x ∈ ovE g S t k ↔ ∃ i : Nat, i < k ∧ giZ S i + timeOf g i = t ∧ x = ⟨t, (i : Int), true⟩ := by
  intro k
  induction k with
  | zero => simp [ovE]
  | succ k ih =>
    have e : ovE g S t (k + 1) = if giZ S k + timeOf g k == t then ovE g S t k ++ [⟨t, (k : Int), true⟩] else ovE g S t k := rfl
    rw [e]
    constructor
    · intro hx
      split at hx
      · next h1 =>
        rcases List.mem_append.1 hx with h2 | h2
        · obtain ⟨i, a, b, c⟩ := ih.1 h2
          exact ⟨i, by omega, b, c⟩
        · rw [List.mem_singleton] at h2
          exact ⟨k, by omega, by simpa using h1, h2⟩
      · obtain ⟨i, a, b, c⟩ := ih.1 hx
        exact ⟨i, by omega, b, c⟩
    · rintro ⟨i, a, b, c⟩
      by_cases hik : i = k
      · subst hik
        rw [if_pos (by simpa using b)]
        exact List.mem_append_right _ (by rw [c]; simp)
      · have h1 := ih.2 ⟨i, by omega, b, c⟩
        split
        · exact List.mem_append_left _ h1
        · exact h1
theorem mem_bgE {S : List Int} {t : Int} {x : E} : ∀ k, x ∈ bgE S t k ↔ ∃ i : Nat, i < k ∧ giZ S i = t ∧ x = ⟨t, (i : Int), false⟩ := by
  intro k
  induction k with
  | zero => simp [bgE]
  | succ k ih =>
    have e : bgE S t (k + 1) = if giZ S k == t then bgE S t k ++ [⟨t, (k : Int), false⟩] else bgE S t k := rfl
    rw [e]
    constructor
    · intro hx
      split at hx
      · next h1 =>
        rcases List.mem_append.1 hx with h2 | h2
        · obtain ⟨i, a, b, c⟩ := ih.1 h2
          exact ⟨i, by omega, b, c⟩
        · rw [List.mem_singleton] at h2
          exact ⟨k, by omega, by simpa using h1, h2⟩
      · obtain ⟨i, a, b, c⟩ := ih.1 hx
        exact ⟨i, by omega, b, c⟩
    · rintro ⟨i, a, b, c⟩
      by_cases hik : i = k
      · subst hik
        rw [if_pos (by simpa using b)]
        exact List.mem_append_right _ (by rw [c]; simp)
      · have h1 := ih.2 ⟨i, by omega, b, c⟩
        split
        · exact List.mem_append_left _ h1
        · exact h1
theorem mem_lgK {g : List T} {S : List Int} {x : E} : ∀ n : Nat, x ∈ lgK g S n ↔ ∃ i : Nat, i < g.length ∧ ((0 ≤ giZ S i + timeOf g i ∧ giZ S i + timeOf g i < n ∧ x = ⟨giZ S i + timeOf g i, (i : Int), true⟩) ∨ (0 ≤ giZ S i ∧ giZ S i < n ∧ x = ⟨giZ S i, (i : Int), false⟩)) := by
  intro n
  induction n with
  | zero =>
    constructor
    · intro h; simp [lgK] at h
    · rintro ⟨i, _, ⟨a, b, _⟩ | ⟨a, b, _⟩⟩ <;> omega
  | succ n ih =>
    have e : lgK g S (n + 1) = lgK g S n ++ (ovE g S (n : Int) g.length ++ bgE S (n : Int) g.length) := rfl
    rw [e, List.mem_append, List.mem_append, ih, mem_ovE, mem_bgE]
    constructor
    · rintro (⟨i, hi, ⟨a, b, c⟩ | ⟨a, b, c⟩⟩ | ⟨i, hi, a, b⟩ | ⟨i, hi, a, b⟩)
      · exact ⟨i, hi, .inl ⟨a, by omega, c⟩⟩
      · exact ⟨i, hi, .inr ⟨a, by omega, c⟩⟩
      · exact ⟨i, hi, .inl ⟨by omega, by omega, by rw [a]; exact b⟩⟩
      · exact ⟨i, hi, .inr ⟨by omega, by omega, by rw [a]; exact b⟩⟩
    · rintro ⟨i, hi, ⟨a, b, c⟩ | ⟨a, b, c⟩⟩
      · by_cases h : giZ S i + timeOf g i = (n : Int)
        · exact .inr (.inl ⟨i, hi, h, by rw [← h]; exact c⟩)
        · exact .inl ⟨i, hi, .inl ⟨a, by omega, c⟩⟩
      · by_cases h : giZ S i = (n : Int)
        · exact .inr (.inr ⟨i, hi, h, by rw [← h]; exact c⟩)
        · exact .inl ⟨i, hi, .inr ⟨a, by omega, c⟩⟩
/-- how many of the first numbers -/
def cK (p : Nat → Bool) : Nat → Nat
  | 0 => 0
  | k + 1 => cK p k + if p k then 1 else 0
theorem cK_add {p q r : Nat → Bool} (h : ∀ i, (if r i then 1 else 0) = (if p i then 1 else 0) + (if q i then 1 else 0)) : ∀ k, cK r k = cK p k + cK q k := by
  intro k
  induction k with
  | zero => rfl
  | succ k ih =>
    have := h k
    show cK r k + _ = cK p k + _ + (cK q k + _)
    omega
theorem cK_all {p : Nat → Bool} : ∀ k, (∀ i, i < k → p i = true) → cK p k = k := by
  intro k
  induction k with
  | zero => intro _; rfl
  | succ k ih =>
    intro h
    show cK p k + _ = k + 1
    rw [ih (fun i hi => h i (by omega)), h k (by omega)]
    rfl
theorem ovE_cnt (g : List T) (S : List Int) (t : Int) : ∀ k, (ovE g S t k).length = cK (fun i => giZ S i + timeOf g i == t) k := by
  intro k
  induction k with
  | zero => rfl
  | succ k ih =>
    show (if _ then _ else _ : List E).length = cK _ k + (if _ then _ else _)
    split
    · rw [List.length_append, List.length_singleton, ih]
    · rw [ih]; rfl
theorem bgE_cnt (S : List Int) (t : Int) : ∀ k, (bgE S t k).length = cK (fun i => giZ S i == t) k := by
  intro k
  induction k with
  | zero => rfl
  | succ k ih =>
    show (if _ then _ else _ : List E).length = cK _ k + (if _ then _ else _)
    split
    · rw [List.length_append, List.length_singleton, ih]
    · rw [ih]; rfl
theorem lgK_cnt (g : List T) (S : List Int) : ∀ n : Nat, (lgK g S n).length = cK (fun i => decide (0 ≤ giZ S i + timeOf g i ∧ giZ S i + timeOf g i < n)) g.length + cK (fun i => decide (0 ≤ giZ S i ∧ giZ S i < n)) g.length := by
  intro n
  induction n with
  | zero =>
    have h : ∀ (f : Nat → Int) k, cK (fun i => decide (0 ≤ f i ∧ f i < ((0 : Nat) : Int))) k = 0 := by
      intro f k
      induction k with
      | zero => rfl
      | succ k ih =>
        show cK _ k + (if _ then _ else _) = 0
        rw [ih]
        show 0 + (if decide (0 ≤ f k ∧ f k < ((0 : Nat) : Int)) = true then 1 else 0) = 0
        rw [decide_eq_false (by omega)]
        rfl
    rw [h, h]
    rfl
  | succ n ih =>
    have e : lgK g S (n + 1) = lgK g S n ++ (ovE g S (n : Int) g.length ++ bgE S (n : Int) g.length) := rfl
    have h : ∀ (f : Nat → Int) k, cK (fun i => decide (0 ≤ f i ∧ f i < ((n + 1 : Nat) : Int))) k = cK (fun i => decide (0 ≤ f i ∧ f i < (n : Int))) k + cK (fun i => f i == (n : Int)) k := by
      intro f k
      refine cK_add ?_ k
      intro i
      by_cases h1 : f i = (n : Int)
      · rw [h1, decide_eq_true (by omega), decide_eq_false (by omega)]
        simp
      · have h2 : (f i == (n : Int)) = false := by simpa using h1
        rw [h2]
        by_cases h3 : 0 ≤ f i ∧ f i < (n : Int)
        · rw [decide_eq_true h3, decide_eq_true (by omega)]
          rfl
        · rw [decide_eq_false h3, decide_eq_false (by omega)]
          rfl
    rw [e, List.length_append, List.length_append, ih, ovE_cnt, bgE_cnt, h (fun i => giZ S i + timeOf g i), h (fun i => giZ S i)]
    omega
/-- the order of a log -/
def evR (a b : E) : Prop := a.at_ < b.at_ ∨ (a.at_ = b.at_ ∧ (a.over = true ∨ b.over = false) ∧ (a.over = b.over → a.task < b.task))
theorem ovE_R (g : List T) (S : List Int) (t : Int) : ∀ k, (ovE g S t k).Pairwise evR := by
  intro k
  induction k with
  | zero => exact List.Pairwise.nil
  | succ k ih =>
    show (if _ then _ else _ : List E).Pairwise evR
    split
    · rw [List.pairwise_append]
      refine ⟨ih, List.pairwise_singleton _ _, ?_⟩
      intro a ha b hb
      rw [List.mem_singleton] at hb
      obtain ⟨i, h1, h2, h3⟩ := (mem_ovE k).1 ha
      rw [hb, h3]
      exact .inr ⟨rfl, .inl rfl, fun _ => by show (i : Int) < k; omega⟩
    · exact ih
theorem bgE_R (S : List Int) (t : Int) : ∀ k, (bgE S t k).Pairwise evR := by
  intro k
  induction k with
  | zero => exact List.Pairwise.nil
  | succ k ih =>
    show (if _ then _ else _ : List E).Pairwise evR
    split
    · rw [List.pairwise_append]
      refine ⟨ih, List.pairwise_singleton _ _, ?_⟩
      intro a ha b hb
      rw [List.mem_singleton] at hb
      obtain ⟨i, h1, h2, h3⟩ := (mem_bgE k).1 ha
      rw [hb, h3]
      exact .inr ⟨rfl, .inr rfl, fun _ => by show (i : Int) < k; omega⟩
    · exact ih
theorem lgK_R (g : List T) (S : List Int) : ∀ n : Nat, (lgK g S n).Pairwise evR := by
  intro n
  induction n with
  | zero => exact List.Pairwise.nil
  | succ n ih =>
    show (lgK g S n ++ (ovE g S (n : Int) g.length ++ bgE S (n : Int) g.length)).Pairwise evR
    rw [List.pairwise_append, List.pairwise_append]
    refine ⟨ih, ⟨ovE_R _ _ _ _, bgE_R _ _ _, ?_⟩, ?_⟩
    · intro a ha b hb
      obtain ⟨i, _, _, rfl⟩ := (mem_ovE _).1 ha
      obtain ⟨j, _, _, rfl⟩ := (mem_bgE _).1 hb
      exact .inr ⟨rfl, .inl rfl, fun h => by cases h⟩
    · intro a ha b hb
      have h1 : a.at_ < (n : Int) := by
        obtain ⟨i, _, ⟨_, c, rfl⟩ | ⟨_, c, rfl⟩⟩ := (mem_lgK n).1 ha <;> exact c
      have h2 : b.at_ = (n : Int) := by
        rcases List.mem_append.1 hb with hb | hb
        · obtain ⟨j, _, _, rfl⟩ := (mem_ovE _).1 hb; rfl
        · obtain ⟨j, _, _, rfl⟩ := (mem_bgE _).1 hb; rfl
      exact .inl (by omega)
/-- the first events, by what they are -/
theorem mem_bgL {l : List E} {x : Int} : ∀ k, x ∈ bgL l k ↔ ∃ i, i < k ∧ (ge l i).over = false ∧ (ge l i).task = x := by
  intro k
  induction k with
  | zero => simp [bgL]
  | succ k ih =>
    have e : bgL l (k + 1) = if (ge l k).over then bgL l k else bgL l k ++ [(ge l k).task] := rfl
    rw [e]
    constructor
    · intro hx
      split at hx
      · obtain ⟨i, a, b⟩ := ih.1 hx; exact ⟨i, by omega, b⟩
      · next h =>
        rcases List.mem_append.1 hx with h2 | h2
        · obtain ⟨i, a, b⟩ := ih.1 h2; exact ⟨i, by omega, b⟩
        · rw [List.mem_singleton] at h2; exact ⟨k, by omega, by simpa using h, h2.symm⟩
    · rintro ⟨i, a, b, c⟩
      by_cases hik : i = k
      · subst hik
        rw [if_neg (by rw [b]; simp), c]
        exact List.mem_append_right _ (by simp)
      · have h1 := ih.2 ⟨i, by omega, b, c⟩
        split
        · exact h1
        · exact List.mem_append_left _ h1
theorem mem_ovL {l : List E} {x : Int} : ∀ k, x ∈ ovL l k ↔ ∃ i, i < k ∧ (ge l i).over = true ∧ (ge l i).task = x := by
  intro k
  induction k with
  | zero => simp [ovL]
  | succ k ih =>
    have e : ovL l (k + 1) = if (ge l k).over then ovL l k ++ [(ge l k).task] else ovL l k := rfl
    rw [e]
    constructor
    · intro hx
      split at hx
      · next h =>
        rcases List.mem_append.1 hx with h2 | h2
        · obtain ⟨i, a, b⟩ := ih.1 h2; exact ⟨i, by omega, b⟩
        · rw [List.mem_singleton] at h2; exact ⟨k, by omega, h, h2.symm⟩
      · obtain ⟨i, a, b⟩ := ih.1 hx; exact ⟨i, by omega, b⟩
    · rintro ⟨i, a, b, c⟩
      by_cases hik : i = k
      · subst hik
        rw [if_pos b, c]
        exact List.mem_append_right _ (by simp)
      · have h1 := ih.2 ⟨i, by omega, b, c⟩
        split
        · exact List.mem_append_left _ h1
        · exact h1
theorem mem_ovN {l : List E} {now x : Int} : ∀ k, x ∈ ovN l now k ↔ ∃ i, i < k ∧ (ge l i).over = true ∧ (ge l i).at_ ≤ now ∧ (ge l i).task = x := by
  intro k
  induction k with
  | zero => simp [ovN]
  | succ k ih =>
    have e : ovN l now (k + 1) = if (ge l k).over && decide ((ge l k).at_ ≤ now) then ovN l now k ++ [(ge l k).task] else ovN l now k := rfl
    rw [e]
    constructor
    · intro hx
      split at hx
      · next h =>
        rw [Bool.and_eq_true, decide_eq_true_eq] at h
        rcases List.mem_append.1 hx with h2 | h2
        · obtain ⟨i, a, b⟩ := ih.1 h2; exact ⟨i, by omega, b⟩
        · rw [List.mem_singleton] at h2; exact ⟨k, by omega, h.1, h.2, h2.symm⟩
      · obtain ⟨i, a, b⟩ := ih.1 hx; exact ⟨i, by omega, b⟩
    · rintro ⟨i, a, b, c, d⟩
      by_cases hik : i = k
      · subst hik
        rw [if_pos (by rw [b, decide_eq_true c]; rfl), d]
        exact List.mem_append_right _ (by simp)
      · have h1 := ih.2 ⟨i, by omega, b, c, d⟩
        split
        · exact List.mem_append_left _ h1
        · exact h1
theorem bgM_none {l : List E} {t : Int} : ∀ k, (∀ i, i < k → (ge l i).over = false → (ge l i).task ≠ t) → bgM l t k = -1 := by
  intro k
  induction k with
  | zero => intro _; rfl
  | succ k ih =>
    intro h
    have e : bgM l t (k + 1) = if !(ge l k).over && ((ge l k).task == t) then (ge l k).at_ else bgM l t k := rfl
    rw [e, ih (fun i hi => h i (by omega)), if_neg]
    intro h1
    rw [Bool.and_eq_true, Bool.not_eq_true', beq_iff_eq] at h1
    exact h k (by omega) h1.1 h1.2
theorem bgM_some {l : List E} {t v : Int} : ∀ k, (∀ i, i < k → (ge l i).over = false → (ge l i).task = t → (ge l i).at_ = v) → (∃ i, i < k ∧ (ge l i).over = false ∧ (ge l i).task = t) → bgM l t k = v := by
  intro k
  induction k with
  | zero => rintro _ ⟨i, hi, _⟩; omega
  | succ k ih =>
    rintro h ⟨i, hi, h1, h2⟩
    have e : bgM l t (k + 1) = if !(ge l k).over && ((ge l k).task == t) then (ge l k).at_ else bgM l t k := rfl
    rw [e]
    split
    · next h3 =>
      rw [Bool.and_eq_true, Bool.not_eq_true', beq_iff_eq] at h3
      exact h k (by omega) h3.1 h3.2
    · next h3 =>
      have hik : i ≠ k := by
        rintro rfl
        apply h3
        rw [h1, h2]
        simp
      exact ih (fun j hj => h j (by omega)) ⟨i, by omega, h1, h2⟩
theorem ge_mem {l : List E} {i : Nat} (hi : i < l.length) : ge l i ∈ l := by rw [ge_at hi]; exact List.getElem_mem hi
theorem mem_ge {l : List E} {x : E} (h : x ∈ l) : ∃ i, i < l.length ∧ ge l i = x := by
  obtain ⟨i, hi, e⟩ := List.mem_iff_getElem.1 h
  exact ⟨i, hi, by rw [ge_at hi]; exact e⟩
theorem ge_R {g : List T} {S : List Int} {n i j : Nat} (hij : i < j) (hj : j < (lgK g S n).length) : evR (ge (lgK g S n) i) (ge (lgK g S n) j) := by
  rw [ge_at (by omega), ge_at hj]
  exact List.pairwise_iff_getElem.1 (lgK_R g S n) i j (by omega) hj hij
/-- what all valid beginnings give -/
theorem stV_facts {g : List T} {m S : List Int} {wk : Int} (h : stV g m wk S = true) : fine g = true ∧ g.length ≤ 8 ∧ S.length = g.length ∧ (∀ i, i < g.length → 0 ≤ giZ S i ∧ giZ S i ≤ 200) ∧ (∀ i, i < g.length → 1 ≤ timeOf g i ∧ timeOf g i ≤ 20) ∧
    (∀ i, i < g.length → ∀ y ∈ need g i, giZ S y.toNat + timeOf g y.toNat ≤ giZ S i) ∧ valid g = true := by
  obtain ⟨hcan, hk, hst⟩ := stV_iff.1 h
  have hv := (canV_iff.1 hcan).1
  have hF := valid_fine hv
  refine ⟨hF, fine_len hF, clk_len hk, fun i hi => clk_at hk i, fun i hi => fine_time hF hi, ?_, hv⟩
  intro i hi y hy
  unfold stK at hst
  rw [List.all_eq_true] at hst
  have h1 := hst i (by simp [hi])
  rw [Bool.and_eq_true] at h1
  have h2 := h1.1
  unfold needOkB at h2
  rw [List.all_eq_true] at h2
  have h3 := h2 y hy
  unfold ovF at h3
  simpa using h3
theorem lg_len {g : List T} {m S : List Int} {wk : Int} (h : stV g m wk S = true) : (lgK g S 221).length = 2 * g.length := by
  obtain ⟨_, _, _, hs, ht, _, _⟩ := stV_facts h
  rw [lgK_cnt, cK_all, cK_all]
  · omega
  · intro i hi
    have := hs i hi
    exact decide_eq_true (by omega)
  · intro i hi
    have := hs i hi
    have := ht i hi
    exact decide_eq_true (by omega)
theorem lg_mem {g : List T} {m S : List Int} {wk : Int} (h : stV g m wk S = true) {x : E} : x ∈ lgK g S 221 ↔ ∃ i : Nat, i < g.length ∧ (x = ⟨giZ S i + timeOf g i, (i : Int), true⟩ ∨ x = ⟨giZ S i, (i : Int), false⟩) := by
  obtain ⟨_, _, _, hs, ht, _, _⟩ := stV_facts h
  rw [mem_lgK]
  constructor
  · rintro ⟨i, hi, ⟨_, _, e⟩ | ⟨_, _, e⟩⟩
    · exact ⟨i, hi, .inl e⟩
    · exact ⟨i, hi, .inr e⟩
  · rintro ⟨i, hi, e | e⟩
    · have := hs i hi
      have := ht i hi
      exact ⟨i, hi, .inl ⟨by omega, by omega, e⟩⟩
    · have := hs i hi
      exact ⟨i, hi, .inr ⟨by omega, by omega, e⟩⟩
/-- what an event of the log is -/
theorem lg_at {g : List T} {m S : List Int} {wk : Int} (h : stV g m wk S = true) {k : Nat} (hk : k < (lgK g S 221).length) : ∃ i : Nat, i < g.length ∧ (ge (lgK g S 221) k).task = (i : Int) ∧
    ((ge (lgK g S 221) k).over = true ∧ (ge (lgK g S 221) k).at_ = giZ S i + timeOf g i ∨ (ge (lgK g S 221) k).over = false ∧ (ge (lgK g S 221) k).at_ = giZ S i) := by
  obtain ⟨i, hi, e | e⟩ := (lg_mem h).1 (ge_mem hk)
  · exact ⟨i, hi, by rw [e], .inl ⟨by rw [e], by rw [e]⟩⟩
  · exact ⟨i, hi, by rw [e], .inr ⟨by rw [e], by rw [e]⟩⟩
theorem lg_mono {g : List T} {S : List Int} {n i j : Nat} (hij : i < j) (hj : j < (lgK g S n).length) : (ge (lgK g S n) i).at_ ≤ (ge (lgK g S n) j).at_ := by
  rcases ge_R hij hj with h | h <;> omega
theorem lg_valid {g : List T} {m S : List Int} {wk : Int} (h : stV g m wk S = true) (hle : ∀ i, i < g.length → giZ S i ≤ 180) : logV g (lgK g S 221) = true := by
  obtain ⟨hF, h8, hSl, hs, ht, hn, hv⟩ := stV_facts h
  rw [logV_iff]
  refine ⟨hv, by rw [lg_len h]; omega, ?_⟩
  unfold evK
  rw [List.all_eq_true]
  intro k hk
  rw [List.mem_range] at hk
  obtain ⟨i, hi, htk, hc⟩ := lg_at h hk
  have h1 := hs i hi
  have h2 := ht i hi
  have h3 := hle i hi
  rw [evOk_iff]
  have hbeg : ∀ j, j < (lgK g S 221).length → (ge (lgK g S 221) j).over = false → (ge (lgK g S 221) j).task = (i : Int) → (ge (lgK g S 221) j).at_ = giZ S i := by
    intro j hj a b
    obtain ⟨i', _, b', c⟩ := lg_at h hj
    have : i' = i := by omega
    subst this
    rcases c with ⟨c, _⟩ | ⟨_, c⟩
    · rw [a] at c; cases c
    · exact c
  refine ⟨by rcases hc with hc | hc <;> omega, by rcases hc with hc | hc <;> omega, ?_, by omega, by omega, ?_⟩
  · cases k with
    | zero => exact .inl rfl
    | succ k => exact .inr (lg_mono (by omega) hk)
  · rcases hc with ⟨ho, hat⟩ | ⟨ho, hat⟩
    · rw [fitE_over ho, htk]
      obtain ⟨j, hj, ej⟩ := mem_ge ((lg_mem h).2 ⟨i, hi, .inr rfl⟩)
      have hjk : j < k := by
        by_cases h4 : j < k
        · exact h4
        · have hne : j ≠ k := by rintro rfl; rw [ej] at ho; cases ho
          have h5 := lg_mono (g := g) (S := S) (n := 221) (i := k) (j := j) (by omega) hj
          rw [ej, hat] at h5
          have : giZ S i + timeOf g i ≤ giZ S i := h5
          omega
      have e := bgM_some (l := lgK g S 221) (t := (i : Int)) (v := giZ S i) k (fun j hj => hbeg j (by omega)) ⟨j, hjk, by rw [ej], by rw [ej]⟩
      rw [e]
      refine ⟨h1.1, ?_, by rw [hat]; simp⟩
      rw [mem_ovL]
      rintro ⟨q, hq, a, b⟩
      have h5 := ge_R (g := g) (S := S) (n := 221) hq hk
      obtain ⟨i', _, b', c⟩ := lg_at h (k := q) (by omega)
      have : i' = i := by omega
      subst this
      rcases c with ⟨_, c⟩ | ⟨c, _⟩
      · rcases h5 with h5 | ⟨_, _, h5⟩
        · omega
        · have := h5 (by rw [a, ho])
          omega
      · rw [a] at c; cases c
    · rw [fitE_begin ho, htk]
      constructor
      · rw [bgM_none]
        · omega
        · intro q hq a b
          have h5 := ge_R (g := g) (S := S) (n := 221) hq hk
          have h6 := hbeg q (by omega) a b
          rcases h5 with h5 | ⟨_, _, h5⟩
          · omega
          · have := h5 (by rw [a, ho])
            omega
      · rw [Int.toNat_natCast]
        intro y hy
        rw [mem_ovL]
        have hyr := fine_need hF hy
        obtain ⟨q, hq, eq⟩ := mem_ge ((lg_mem h).2 ⟨y.toNat, by omega, .inl rfl⟩)
        refine ⟨q, ?_, by rw [eq], by rw [eq]; show ((y.toNat : Nat) : Int) = y; omega⟩
        have h7 := hn i hi y hy
        by_cases h4 : q < k
        · exact h4
        · have hne : q ≠ k := by rintro rfl; rw [eq] at ho; cases ho
          have h5 := ge_R (g := g) (S := S) (n := 221) (i := k) (j := q) (by omega) hq
          rw [eq] at h5
          rcases h5 with h5 | ⟨_, h5 | h5, _⟩
          · have : (ge (lgK g S 221) k).at_ < giZ S y.toNat + timeOf g y.toNat := h5
            omega
          · rw [ho] at h5; cases h5
          · cases h5
end Go.Proofs.Ytihgakbopkaemaa.Bs
namespace Go.Proofs.Ytihgakbopkaemaa.Bs
theorem lg_over {g : List T} {m S : List Int} {wk : Int} (h : stV g m wk S = true) {i : Nat} (hi : i < g.length) (now : Int) : (ovN (lgK g S 221) now (lgK g S 221).length).contains (i : Int) = decide (giZ S i + timeOf g i ≤ now) := by
  rw [Bool.eq_iff_iff, decide_eq_true_eq]
  simp only [List.contains_eq_mem, decide_eq_true_eq]
  rw [mem_ovN]
  constructor
  · rintro ⟨q, hq, ho, ha, ht⟩
    obtain ⟨j, hj, h1, h2⟩ := lg_at h hq
    have : j = i := by omega
    subst this
    rcases h2 with ⟨_, h2⟩ | ⟨h2, _⟩
    · omega
    · rw [ho] at h2; cases h2
  · intro hle
    obtain ⟨q, hq, e⟩ := mem_ge ((lg_mem h).2 ⟨i, hi, .inl rfl⟩)
    exact ⟨q, hq, by rw [e], by rw [e]; exact hle, by rw [e]⟩
theorem lg_doneC {g : List T} {m S : List Int} {wk : Int} (h : stV g m wk S = true) (now : Int) : doneC g (lgK g S 221) now = pick g.length fun i => decide (giZ S i + timeOf g i ≤ now) := by
  unfold doneC
  exact pick_congr _ _ _ fun i hi => lg_over h hi now
theorem lg_done {g : List T} {m S : List Int} {wk : Int} (h : stV g m wk S = true) {i : Nat} (hi : i < g.length) (now : Int) : (doneC g (lgK g S 221) now).contains (i : Int) = decide (giZ S i + timeOf g i ≤ now) := by
  rw [lg_doneC h, Bool.eq_iff_iff, decide_eq_true_eq]
  simp only [List.contains_eq_mem, decide_eq_true_eq]
  rw [mem_pick_nat]
  simp [hi]
theorem pick_full (n : Nat) : (pick n fun _ => true).length = n := by
  have := pick_both (fun _ => true) n
  have h0 : ∀ k, (pick k fun i => !((fun _ => true) i : Bool)).length = 0 := by
    intro k
    induction k with
    | zero => rfl
    | succ k ih => rw [pick_skip _ _ rfl]; exact ih
  rw [h0] at this
  omega
theorem lg_end1 {g : List T} {m S : List Int} {wk : Int} (h : stV g m wk S = true) : (doneC g (lgK g S 221) (endC g S)).length = g.length := by
  rw [lg_doneC h, pick_congr g.length _ (fun _ => true) (fun i hi => decide_eq_true (end_ge hi)), pick_full]
theorem lg_end2 {g : List T} {m S : List Int} {wk : Int} (h : stV g m wk S = true) (h0 : 0 < g.length) : (doneC g (lgK g S 221) (endC g S - 1)).length < g.length := by
  obtain ⟨hF, _⟩ := stV_facts h
  obtain ⟨i, hi, e⟩ := end_at hF (stV_iff.1 h).2.1 h0
  rw [lg_doneC h]
  have := pick_lt (p := fun i => decide (giZ S i + timeOf g i ≤ endC g S - 1)) (q := fun _ => true) g.length (fun _ _ _ => rfl) ⟨i, hi, rfl, decide_eq_false (by omega)⟩
  rw [pick_full] at this
  exact this
theorem lg_busy {g : List T} {m S : List Int} {wk : Int} (h : stV g m wk S = true) (hv : logV g (lgK g S 221) = true) : busL g (lgK g S 221) = sumT g := by
  obtain ⟨_, _, hev⟩ := logV_iff.1 hv
  have hle : ∀ i, i < g.length → giZ S i + timeOf g i ≤ 200 := by
    intro i hi
    obtain ⟨q, hq, e⟩ := mem_ge ((lg_mem h).2 ⟨i, hi, .inl rfl⟩)
    have := (evOk_iff.1 (evK_at hq hev)).2.1
    rw [e] at this
    exact this
  rw [busL_yes hv, ← done_busy hv, lg_doneC h, pick_sum (timeOf g), sumT_rs]
  refine rs_congr fun i hi => ?_
  rw [if_pos (decide_eq_true (hle i hi))]
end Go.Proofs.Ytihgakbopkaemaa.Bs
namespace Go.Proofs.Ytihgakbopkaemaa.Bs
theorem mtK_ge {l : List E} {k : Nat} (hl : lastT l k = true) : ∀ n, k < n → rnK l (k + 1) ≤ mtK l n := by
  intro n
  induction n with
  | zero => intro h; omega
  | succ n ih =>
    intro h
    have e : mtK l (n + 1) = if lastT l n then max (mtK l n) (rnK l (n + 1)) else mtK l n := rfl
    rw [e]
    by_cases hk : k = n
    · subst hk
      rw [if_pos hl]
      omega
    · have := ih (by omega)
      split <;> omega
theorem mtK_ex (l : List E) : ∀ n, mtK l n = 0 ∨ ∃ k, k < n ∧ lastT l k = true ∧ mtK l n = rnK l (k + 1) := by
  intro n
  induction n with
  | zero => left; rfl
  | succ n ih =>
    have e : mtK l (n + 1) = if lastT l n then max (mtK l n) (rnK l (n + 1)) else mtK l n := rfl
    rw [e]
    split
    · next hl =>
      by_cases hm : mtK l n ≤ rnK l (n + 1)
      · right
        exact ⟨n, by omega, hl, by omega⟩
      · rw [Int.max_eq_left (by omega)]
        rcases ih with h | ⟨k, h1, h2, h3⟩
        · left; exact h
        · right; exact ⟨k, by omega, h2, h3⟩
    · rcases ih with h | ⟨k, h1, h2, h3⟩
      · left; exact h
      · right; exact ⟨k, by omega, h2, h3⟩
theorem last_ex {l : List E} (hm : ∀ i, i + 1 < l.length → (ge l i).at_ ≤ (ge l (i + 1)).at_) : ∀ (d k : Nat), k + d + 1 = l.length → ∃ k', k ≤ k' ∧ k' < l.length ∧ lastT l k' = true ∧ (ge l k').at_ = (ge l k).at_ := by
  intro d
  induction d with
  | zero =>
    intro k hk
    exact ⟨k, Nat.le_refl _, by omega, by unfold lastT; rw [decide_eq_true (by omega)]; rfl, rfl⟩
  | succ d ih =>
    intro k hk
    by_cases h : (ge l k).at_ < (ge l (k + 1)).at_
    · exact ⟨k, Nat.le_refl _, by omega, by unfold lastT; rw [decide_eq_true h]; simp, rfl⟩
    · obtain ⟨k', h1, h2, h3, h4⟩ := ih (k + 1) (by omega)
      have := hm k (by omega)
      exact ⟨k', by omega, h2, h3, by omega⟩
theorem lg_last {g : List T} {S : List Int} {n k q : Nat} (hl : lastT (lgK g S n) k = true) (hk : k < (lgK g S n).length) (hq : q < (lgK g S n).length) : q < k + 1 ↔ (ge (lgK g S n) q).at_ ≤ (ge (lgK g S n) k).at_ := by
  constructor
  · intro h
    by_cases e : q = k
    · subst e; exact Int.le_refl _
    · exact lg_mono (by omega) hk
  · intro h
    by_cases h1 : q < k + 1
    · exact h1
    · exfalso
      unfold lastT at hl
      rw [Bool.or_eq_true, decide_eq_true_eq, decide_eq_true_eq] at hl
      rcases hl with hl | hl
      · omega
      · by_cases e : q = k + 1
        · subst e; omega
        · have := lg_mono (g := g) (S := S) (n := n) (i := k + 1) (j := q) (by omega) hq
          omega
theorem lg_bg {g : List T} {m S : List Int} {wk : Int} (h : stV g m wk S = true) {k : Nat} (hk : k < (lgK g S 221).length) (hl : lastT (lgK g S 221) k = true) {i : Nat} (hi : i < g.length) : (i : Int) ∈ bgL (lgK g S 221) (k + 1) ↔ giZ S i ≤ (ge (lgK g S 221) k).at_ := by
  rw [mem_bgL]
  constructor
  · rintro ⟨q, hq, ho, ht⟩
    have hq2 : q < (lgK g S 221).length := by omega
    have h1 := (lg_last hl hk hq2).1 hq
    obtain ⟨j, hj, h2, h3⟩ := lg_at h hq2
    have : j = i := by omega
    subst this
    rcases h3 with ⟨h3, _⟩ | ⟨_, h3⟩
    · rw [ho] at h3; cases h3
    · omega
  · intro hle
    obtain ⟨q, hq, e⟩ := mem_ge ((lg_mem h).2 ⟨i, hi, .inr rfl⟩)
    exact ⟨q, (lg_last hl hk hq).2 (by rw [e]; exact hle), by rw [e], by rw [e]⟩
theorem lg_ov {g : List T} {m S : List Int} {wk : Int} (h : stV g m wk S = true) {k : Nat} (hk : k < (lgK g S 221).length) (hl : lastT (lgK g S 221) k = true) {i : Nat} (hi : i < g.length) : (i : Int) ∈ ovL (lgK g S 221) (k + 1) ↔ giZ S i + timeOf g i ≤ (ge (lgK g S 221) k).at_ := by
  rw [mem_ovL]
  constructor
  · rintro ⟨q, hq, ho, ht⟩
    have hq2 : q < (lgK g S 221).length := by omega
    have h1 := (lg_last hl hk hq2).1 hq
    obtain ⟨j, hj, h2, h3⟩ := lg_at h hq2
    have : j = i := by omega
    subst this
    rcases h3 with ⟨_, h3⟩ | ⟨h3, _⟩
    · omega
    · rw [ho] at h3; cases h3
  · intro hle
    obtain ⟨q, hq, e⟩ := mem_ge ((lg_mem h).2 ⟨i, hi, .inl rfl⟩)
    exact ⟨q, (lg_last hl hk hq).2 (by rw [e]; exact hle), by rw [e], by rw [e]⟩
/-- how many run behind the last event of its time -/
theorem lg_run {g : List T} {m S : List Int} {wk : Int} (h : stV g m wk S = true) (hv : logV g (lgK g S 221) = true) {k : Nat} (hk : k < (lgK g S 221).length) (hl : lastT (lgK g S 221) k = true) : rnK (lgK g S 221) (k + 1) = ((runAt g S (ge (lgK g S 221) k).at_).length : Int) := by
  obtain ⟨hF, _⟩ := stV_facts h
  obtain ⟨_, _, hev⟩ := logV_iff.1 hv
  have hLI := LI.of hF (k + 1) (evK_le (by omega) hev)
  rw [← run_count hLI (Nat.le_refl _)]
  unfold runAt
  rw [pick_congr g.length _ (runAp g S (ge (lgK g S 221) k).at_)]
  intro i hi
  have h1 := lg_bg h hk hl hi
  have h2 := lg_ov h hk hl hi
  unfold runAp
  rw [Bool.eq_iff_iff, Bool.and_eq_true, Bool.not_eq_true']
  simp only [List.contains_eq_mem, decide_eq_true_eq, decide_eq_false_iff_not, Bool.and_eq_true]
  rw [h1, h2]
  constructor
  · rintro ⟨a, b⟩; exact ⟨a, by omega⟩
  · rintro ⟨a, b⟩; exact ⟨a, by omega⟩
/-- the greatest of the first values -/
def mxK (f : Nat → Int) : Nat → Int
  | 0 => 0
  | k + 1 => max (mxK f k) (f k)
theorem mxK_ge {f : Nat → Int} {i : Nat} : ∀ n, i < n → f i ≤ mxK f n := by
  intro n
  induction n with
  | zero => intro h; omega
  | succ n ih =>
    intro h
    show f i ≤ max (mxK f n) (f n)
    by_cases e : i = n
    · subst e; omega
    · have := ih (by omega); omega
theorem mxK_le {f : Nat → Int} {b : Int} (h0 : 0 ≤ b) : ∀ n, (∀ i, i < n → f i ≤ b) → mxK f n ≤ b := by
  intro n
  induction n with
  | zero => intro _; exact h0
  | succ n ih =>
    intro h
    show max (mxK f n) (f n) ≤ b
    have := ih (fun i hi => h i (by omega))
    have := h n (by omega)
    omega
theorem mxK_nonneg (f : Nat → Int) : ∀ n, 0 ≤ mxK f n := by
  intro n
  induction n with
  | zero => exact Int.le_refl _
  | succ n ih => show 0 ≤ max (mxK f n) (f n); omega
theorem run_begin {g : List T} {S : List Int} (t : Int) : (runAt g S t).length = 0 ∨ ∃ j, j < g.length ∧ (runAt g S t).length ≤ (runAt g S (giZ S j)).length := by
  by_cases h0 : (runAt g S t).length = 0
  · exact .inl h0
  · right
    have hex : ∀ n, n ≤ g.length → (∃ i, i < n ∧ runAp g S t i = true) → ∃ j, j < n ∧ runAp g S t j = true ∧ ∀ i, i < n → runAp g S t i = true → giZ S i ≤ giZ S j := by
      intro n
      induction n with
      | zero => rintro _ ⟨i, hi, _⟩; omega
      | succ n ih =>
        rintro hn ⟨i, hi, hp⟩
        by_cases hq : ∃ i, i < n ∧ runAp g S t i = true
        · obtain ⟨j, h1, h2, h3⟩ := ih (by omega) hq
          by_cases hpn : runAp g S t n = true ∧ giZ S j < giZ S n
          · refine ⟨n, by omega, hpn.1, fun i hi hp => ?_⟩
            by_cases e : i = n
            · subst e; exact Int.le_refl _
            · have := h3 i (by omega) hp; omega
          · refine ⟨j, by omega, h2, fun i hi hp => ?_⟩
            by_cases e : i = n
            · subst e
              have : ¬ giZ S j < giZ S i := fun hh => hpn ⟨hp, hh⟩
              omega
            · exact h3 i (by omega) hp
        · have e : i = n := by
            by_cases e : i = n
            · exact e
            · exact absurd ⟨i, by omega, hp⟩ hq
          subst e
          refine ⟨i, by omega, hp, fun i' hi' hp' => ?_⟩
          by_cases e : i' = i
          · subst e; exact Int.le_refl _
          · exact absurd ⟨i', by omega, hp'⟩ hq
    obtain ⟨x, hx⟩ := List.exists_mem_of_length_pos (l := runAt g S t) (by omega)
    unfold runAt at hx
    obtain ⟨i, hi, hp, _⟩ := (mem_pick _ _ _).1 hx
    obtain ⟨j, hj, hpj, hmax⟩ := hex g.length (Nat.le_refl _) ⟨i, hi, hp⟩
    refine ⟨j, hj, ?_⟩
    unfold runAt
    refine pick_le g.length fun i hi hp => ?_
    have h1 := hmax i hi hp
    unfold runAp at hp hpj ⊢
    simp only [Bool.and_eq_true, decide_eq_true_eq] at hp hpj ⊢
    exact ⟨h1, by omega⟩
/-- the law of the most that run together -/
theorem lg_most {g : List T} {m S : List Int} {wk : Int} (h : stV g m wk S = true) (hv : logV g (lgK g S 221) = true) : mtL g (lgK g S 221) = mxK (fun i => ((runAt g S (giZ S i)).length : Int)) g.length ∧ mtL g (lgK g S 221) ≤ wk := by
  obtain ⟨hF, _, _, hs, ht, _, _⟩ := stV_facts h
  have hwk : ∀ i, i < g.length → ((runAt g S (giZ S i)).length : Int) ≤ wk := by
    intro i hi
    have hst := (stV_iff.1 h).2.2
    unfold stK at hst
    rw [List.all_eq_true] at hst
    have h1 := hst i (by simp [hi])
    rw [Bool.and_eq_true] at h1
    have h2 := h1.2
    unfold fitN at h2
    rw [Bool.and_eq_true, decide_eq_true_eq] at h2
    exact h2.1
  have hwk0 : 0 ≤ wk := by
    have := canV_iff.1 (stV_iff.1 h).1
    omega
  have hA : ∀ i, i < g.length → ((runAt g S (giZ S i)).length : Int) ≤ mtL g (lgK g S 221) := by
    intro i hi
    obtain ⟨q, hq, e⟩ := mem_ge ((lg_mem h).2 ⟨i, hi, .inr rfl⟩)
    obtain ⟨k, h1, h2, h3, h4⟩ := last_ex (l := lgK g S 221) (fun i hi => lg_mono (by omega) hi) ((lgK g S 221).length - q - 1) q (by omega)
    have h5 := mtK_ge h3 (lgK g S 221).length h2
    rw [lg_run h hv h2 h3, h4, e] at h5
    rw [mtL_yes hv]
    exact h5
  have hB : mtL g (lgK g S 221) ≤ mxK (fun i => ((runAt g S (giZ S i)).length : Int)) g.length := by
    rw [mtL_yes hv]
    rcases mtK_ex (lgK g S 221) (lgK g S 221).length with e | ⟨k, h1, h2, h3⟩
    · rw [e]; exact mxK_nonneg _ _
    · rw [h3, lg_run h hv h1 h2]
      rcases run_begin (g := g) (S := S) (ge (lgK g S 221) k).at_ with e | ⟨j, hj, hle⟩
      · rw [e]; exact mxK_nonneg _ _
      · have := mxK_ge (f := fun i => ((runAt g S (giZ S i)).length : Int)) (i := j) g.length hj
        have h6 : ((runAt g S (giZ S j)).length : Int) ≤ mxK (fun i => ((runAt g S (giZ S i)).length : Int)) g.length := this
        omega
  have h0 : 0 ≤ mtL g (lgK g S 221) := by
    rw [mtL_yes hv]
    exact (mtK_b hF _ (logV_iff.1 hv).2.2).1
  have hC := mxK_le (f := fun i => ((runAt g S (giZ S i)).length : Int)) h0 g.length hA
  have hD := mxK_le (f := fun i => ((runAt g S (giZ S i)).length : Int)) hwk0 g.length hwk
  exact ⟨by omega, by omega⟩
end Go.Proofs.Ytihgakbopkaemaa.Bs
