/-
  PLAIN MATHEMATICS of logs: what the log of beginnings has, in which order, how many, and that it is valid. No condition.
-/
import Derived.Test.YtihgakbopkaemaaMath98
import Derived.Test.YtihgakbopkaemaaMath99
namespace Go.Proofs.Ytihgakbopkaemaa.Bs
theorem mem_ovE {g : List T} {S : List Int} {t : Int} {x : E} : ∀ k, x ∈ ovE g S t k ↔ ∃ i : Nat, i < k ∧ giZ S i + timeOf g i = t ∧ x = ⟨t, (i : Int), true⟩ := by
  intro k
  induction k with
  | zero => simp [ovE]
  | succ k ih =>
    have e : ovE g S t (k + 1) = if giZ S k + timeOf g k == t then ovE g S t k ++ [⟨t, (k : Int), true⟩] else ovE g S t k := rfl
    rw [e]
    constructor
    · intro hx
      split at hx
      · next h1 =>
        rcases List.mem_append.1 hx with h2 | h2
        · obtain ⟨i, a, b, c⟩ := ih.1 h2
          exact ⟨i, by omega, b, c⟩
        · rw [List.mem_singleton] at h2
          exact ⟨k, by omega, by simpa using h1, h2⟩
      · obtain ⟨i, a, b, c⟩ := ih.1 hx
        exact ⟨i, by omega, b, c⟩
    · rintro ⟨i, a, b, c⟩
      by_cases hik : i = k
      · subst hik
        rw [if_pos (by simpa using b)]
        exact List.mem_append_right _ (by rw [c]; simp)
      · have h1 := ih.2 ⟨i, by omega, b, c⟩
        split
        · exact List.mem_append_left _ h1
        · exact h1
theorem mem_bgE {S : List Int} {t : Int} {x : E} : ∀ k, x ∈ bgE S t k ↔ ∃ i : Nat, i < k ∧ giZ S i = t ∧ x = ⟨t, (i : Int), false⟩ := by
  intro k
  induction k with
  | zero => simp [bgE]
  | succ k ih =>
    have e : bgE S t (k + 1) = if giZ S k == t then bgE S t k ++ [⟨t, (k : Int), false⟩] else bgE S t k := rfl
    rw [e]
    constructor
    · intro hx
      split at hx
      · next h1 =>
        rcases List.mem_append.1 hx with h2 | h2
        · obtain ⟨i, a, b, c⟩ := ih.1 h2
          exact ⟨i, by omega, b, c⟩
        · rw [List.mem_singleton] at h2
          exact ⟨k, by omega, by simpa using h1, h2⟩
      · obtain ⟨i, a, b, c⟩ := ih.1 hx
        exact ⟨i, by omega, b, c⟩
    · rintro ⟨i, a, b, c⟩
      by_cases hik : i = k
      · subst hik
        rw [if_pos (by simpa using b)]
        exact List.mem_append_right _ (by rw [c]; simp)
      · have h1 := ih.2 ⟨i, by omega, b, c⟩
        split
        · exact List.mem_append_left _ h1
        · exact h1
theorem mem_lgK {g : List T} {S : List Int} {x : E} : ∀ n : Nat, x ∈ lgK g S n ↔ ∃ i : Nat, i < g.length ∧ ((0 ≤ giZ S i + timeOf g i ∧ giZ S i + timeOf g i < n ∧ x = ⟨giZ S i + timeOf g i, (i : Int), true⟩) ∨ (0 ≤ giZ S i ∧ giZ S i < n ∧ x = ⟨giZ S i, (i : Int), false⟩)) := by
  intro n
  induction n with
  | zero =>
    constructor
    · intro h; simp [lgK] at h
    · rintro ⟨i, _, ⟨a, b, _⟩ | ⟨a, b, _⟩⟩ <;> omega
  | succ n ih =>
    have e : lgK g S (n + 1) = lgK g S n ++ (ovE g S (n : Int) g.length ++ bgE S (n : Int) g.length) := rfl
    rw [e, List.mem_append, List.mem_append, ih, mem_ovE, mem_bgE]
    constructor
    · rintro (⟨i, hi, ⟨a, b, c⟩ | ⟨a, b, c⟩⟩ | ⟨i, hi, a, b⟩ | ⟨i, hi, a, b⟩)
      · exact ⟨i, hi, .inl ⟨a, by omega, c⟩⟩
      · exact ⟨i, hi, .inr ⟨a, by omega, c⟩⟩
      · exact ⟨i, hi, .inl ⟨by omega, by omega, by rw [a]; exact b⟩⟩
      · exact ⟨i, hi, .inr ⟨by omega, by omega, by rw [a]; exact b⟩⟩
    · rintro ⟨i, hi, ⟨a, b, c⟩ | ⟨a, b, c⟩⟩
      · by_cases h : giZ S i + timeOf g i = (n : Int)
        · exact .inr (.inl ⟨i, hi, h, by rw [← h]; exact c⟩)
        · exact .inl ⟨i, hi, .inl ⟨a, by omega, c⟩⟩
      · by_cases h : giZ S i = (n : Int)
        · exact .inr (.inr ⟨i, hi, h, by rw [← h]; exact c⟩)
        · exact .inl ⟨i, hi, .inr ⟨a, by omega, c⟩⟩
/-- how many of the first numbers -/
def cK (p : Nat → Bool) : Nat → Nat
  | 0 => 0
  | k + 1 => cK p k + if p k then 1 else 0
theorem cK_add {p q r : Nat → Bool} (h : ∀ i, (if r i then 1 else 0) = (if p i then 1 else 0) + (if q i then 1 else 0)) : ∀ k, cK r k = cK p k + cK q k := by
  intro k
  induction k with
  | zero => rfl
  | succ k ih =>
    have := h k
    show cK r k + _ = cK p k + _ + (cK q k + _)
    omega
theorem cK_all {p : Nat → Bool} : ∀ k, (∀ i, i < k → p i = true) → cK p k = k := by
  intro k
  induction k with
  | zero => intro _; rfl
  | succ k ih =>
    intro h
    show cK p k + _ = k + 1
    rw [ih (fun i hi => h i (by omega)), h k (by omega)]
    rfl
theorem ovE_cnt (g : List T) (S : List Int) (t : Int) : ∀ k, (ovE g S t k).length = cK (fun i => giZ S i + timeOf g i == t) k := by
  intro k
  induction k with
  | zero => rfl
  | succ k ih =>
    show (if _ then _ else _ : List E).length = cK _ k + (if _ then _ else _)
    split
    · rw [List.length_append, List.length_singleton, ih]
    · rw [ih]; rfl
theorem bgE_cnt (S : List Int) (t : Int) : ∀ k, (bgE S t k).length = cK (fun i => giZ S i == t) k := by
  intro k
  induction k with
  | zero => rfl
  | succ k ih =>
    show (if _ then _ else _ : List E).length = cK _ k + (if _ then _ else _)
    split
    · rw [List.length_append, List.length_singleton, ih]
    · rw [ih]; rfl
theorem lgK_cnt (g : List T) (S : List Int) : ∀ n : Nat, (lgK g S n).length = cK (fun i => decide (0 ≤ giZ S i + timeOf g i ∧ giZ S i + timeOf g i < n)) g.length + cK (fun i => decide (0 ≤ giZ S i ∧ giZ S i < n)) g.length := by
  intro n
  induction n with
  | zero =>
    have h : ∀ (f : Nat → Int) k, cK (fun i => decide (0 ≤ f i ∧ f i < ((0 : Nat) : Int))) k = 0 := by
      intro f k
      induction k with
      | zero => rfl
      | succ k ih =>
        show cK _ k + (if _ then _ else _) = 0
        rw [ih]
        show 0 + (if decide (0 ≤ f k ∧ f k < ((0 : Nat) : Int)) = true then 1 else 0) = 0
        rw [decide_eq_false (by omega)]
        rfl
    rw [h, h]
    rfl
  | succ n ih =>
    have e : lgK g S (n + 1) = lgK g S n ++ (ovE g S (n : Int) g.length ++ bgE S (n : Int) g.length) := rfl
    have h : ∀ (f : Nat → Int) k, cK (fun i => decide (0 ≤ f i ∧ f i < ((n + 1 : Nat) : Int))) k = cK (fun i => decide (0 ≤ f i ∧ f i < (n : Int))) k + cK (fun i => f i == (n : Int)) k := by
      intro f k
      refine cK_add ?_ k
      intro i
      by_cases h1 : f i = (n : Int)
      · rw [h1, decide_eq_true (by omega), decide_eq_false (by omega)]
        simp
      · have h2 : (f i == (n : Int)) = false := by simpa using h1
        rw [h2]
        by_cases h3 : 0 ≤ f i ∧ f i < (n : Int)
        · rw [decide_eq_true h3, decide_eq_true (by omega)]
          rfl
        · rw [decide_eq_false h3, decide_eq_false (by omega)]
          rfl
    rw [e, List.length_append, List.length_append, ih, ovE_cnt, bgE_cnt, h (fun i => giZ S i + timeOf g i), h (fun i => giZ S i)]
    omega
/-- the order of a log -/
def evR (a b : E) : Prop := a.at_ < b.at_ ∨ (a.at_ = b.at_ ∧ (a.over = true ∨ b.over = false) ∧ (a.over = b.over → a.task < b.task))
theorem ovE_R (g : List T) (S : List Int) (t : Int) : ∀ k, (ovE g S t k).Pairwise evR := by
  intro k
  induction k with
  | zero => exact List.Pairwise.nil
  | succ k ih =>
    show (if _ then _ else _ : List E).Pairwise evR
    split
    · rw [List.pairwise_append]
      refine ⟨ih, List.pairwise_singleton _ _, ?_⟩
      intro a ha b hb
      rw [List.mem_singleton] at hb
      obtain ⟨i, h1, h2, h3⟩ := (mem_ovE k).1 ha
      rw [hb, h3]
      exact .inr ⟨rfl, .inl rfl, fun _ => by show (i : Int) < k; omega⟩
    · exact ih
theorem bgE_R (S : List Int) (t : Int) : ∀ k, (bgE S t k).Pairwise evR := by
  intro k
  induction k with
  | zero => exact List.Pairwise.nil
  | succ k ih =>
    show (if _ then _ else _ : List E).Pairwise evR
    split
    · rw [List.pairwise_append]
      refine ⟨ih, List.pairwise_singleton _ _, ?_⟩
      intro a ha b hb
      rw [List.mem_singleton] at hb
      obtain ⟨i, h1, h2, h3⟩ := (mem_bgE k).1 ha
      rw [hb, h3]
      exact .inr ⟨rfl, .inr rfl, fun _ => by show (i : Int) < k; omega⟩
    · exact ih
theorem lgK_R (g : List T) (S : List Int) : ∀ n : Nat, (lgK g S n).Pairwise evR := by
  intro n
  induction n with
  | zero => exact List.Pairwise.nil
  | succ n ih =>
    show (lgK g S n ++ (ovE g S (n : Int) g.length ++ bgE S (n : Int) g.length)).Pairwise evR
    rw [List.pairwise_append, List.pairwise_append]
    refine ⟨ih, ⟨ovE_R _ _ _ _, bgE_R _ _ _, ?_⟩, ?_⟩
    · intro a ha b hb
      obtain ⟨i, _, _, rfl⟩ := (mem_ovE _).1 ha
      obtain ⟨j, _, _, rfl⟩ := (mem_bgE _).1 hb
      exact .inr ⟨rfl, .inl rfl, fun h => by cases h⟩
    · intro a ha b hb
      have h1 : a.at_ < (n : Int) := by
        obtain ⟨i, _, ⟨_, c, rfl⟩ | ⟨_, c, rfl⟩⟩ := (mem_lgK n).1 ha <;> exact c
      have h2 : b.at_ = (n : Int) := by
        rcases List.mem_append.1 hb with hb | hb
        · obtain ⟨j, _, _, rfl⟩ := (mem_ovE _).1 hb; rfl
        · obtain ⟨j, _, _, rfl⟩ := (mem_bgE _).1 hb; rfl
      exact .inl (by omega)
/-- the first events, by what they are -/
theorem mem_bgL {l : List E} {x : Int} : ∀ k, x ∈ bgL l k ↔ ∃ i, i < k ∧ (ge l i).over = false ∧ (ge l i).task = x := by
  intro k
  induction k with
  | zero => simp [bgL]
  | succ k ih =>
    have e : bgL l (k + 1) = if (ge l k).over then bgL l k else bgL l k ++ [(ge l k).task] := rfl
    rw [e]
    constructor
    · intro hx
      split at hx
      · obtain ⟨i, a, b⟩ := ih.1 hx; exact ⟨i, by omega, b⟩
      · next h =>
        rcases List.mem_append.1 hx with h2 | h2
        · obtain ⟨i, a, b⟩ := ih.1 h2; exact ⟨i, by omega, b⟩
        · rw [List.mem_singleton] at h2; exact ⟨k, by omega, by simpa using h, h2.symm⟩
    · rintro ⟨i, a, b, c⟩
      by_cases hik : i = k
      · subst hik
        rw [if_neg (by rw [b]; simp), c]
        exact List.mem_append_right _ (by simp)
      · have h1 := ih.2 ⟨i, by omega, b, c⟩
        split
        · exact h1
        · exact List.mem_append_left _ h1
theorem mem_ovL {l : List E} {x : Int} : ∀ k, x ∈ ovL l k ↔ ∃ i, i < k ∧ (ge l i).over = true ∧ (ge l i).task = x := by
  intro k
  induction k with
  | zero => simp [ovL]
  | succ k ih =>
    have e : ovL l (k + 1) = if (ge l k).over then ovL l k ++ [(ge l k).task] else ovL l k := rfl
    rw [e]
    constructor
    · intro hx
      split at hx
      · next h =>
        rcases List.mem_append.1 hx with h2 | h2
        · obtain ⟨i, a, b⟩ := ih.1 h2; exact ⟨i, by omega, b⟩
        · rw [List.mem_singleton] at h2; exact ⟨k, by omega, h, h2.symm⟩
      · obtain ⟨i, a, b⟩ := ih.1 hx; exact ⟨i, by omega, b⟩
    · rintro ⟨i, a, b, c⟩
      by_cases hik : i = k
      · subst hik
        rw [if_pos b, c]
        exact List.mem_append_right _ (by simp)
      · have h1 := ih.2 ⟨i, by omega, b, c⟩
        split
        · exact List.mem_append_left _ h1
        · exact h1
theorem mem_ovN {l : List E} {now x : Int} : ∀ k, x ∈ ovN l now k ↔ ∃ i, i < k ∧ (ge l i).over = true ∧ (ge l i).at_ ≤ now ∧ (ge l i).task = x := by
  intro k
  induction k with
  | zero => simp [ovN]
  | succ k ih =>
    have e : ovN l now (k + 1) = if (ge l k).over && decide ((ge l k).at_ ≤ now) then ovN l now k ++ [(ge l k).task] else ovN l now k := rfl
    rw [e]
    constructor
    · intro hx
      split at hx
      · next h =>
        rw [Bool.and_eq_true, decide_eq_true_eq] at h
        rcases List.mem_append.1 hx with h2 | h2
        · obtain ⟨i, a, b⟩ := ih.1 h2; exact ⟨i, by omega, b⟩
        · rw [List.mem_singleton] at h2; exact ⟨k, by omega, h.1, h.2, h2.symm⟩
      · obtain ⟨i, a, b⟩ := ih.1 hx; exact ⟨i, by omega, b⟩
    · rintro ⟨i, a, b, c, d⟩
      by_cases hik : i = k
      · subst hik
        rw [if_pos (by rw [b, decide_eq_true c]; rfl), d]
        exact List.mem_append_right _ (by simp)
      · have h1 := ih.2 ⟨i, by omega, b, c, d⟩
        split
        · exact List.mem_append_left _ h1
        · exact h1
theorem bgM_none {l : List E} {t : Int} : ∀ k, (∀ i, i < k → (ge l i).over = false → (ge l i).task ≠ t) → bgM l t k = -1 := by
  intro k
  induction k with
  | zero => intro _; rfl
  | succ k ih =>
    intro h
    have e : bgM l t (k + 1) = if !(ge l k).over && ((ge l k).task == t) then (ge l k).at_ else bgM l t k := rfl
    rw [e, ih (fun i hi => h i (by omega)), if_neg]
    intro h1
    rw [Bool.and_eq_true, Bool.not_eq_true', beq_iff_eq] at h1
    exact h k (by omega) h1.1 h1.2
theorem bgM_some {l : List E} {t v : Int} : ∀ k, (∀ i, i < k → (ge l i).over = false → (ge l i).task = t → (ge l i).at_ = v) → (∃ i, i < k ∧ (ge l i).over = false ∧ (ge l i).task = t) → bgM l t k = v := by
  intro k
  induction k with
  | zero => rintro _ ⟨i, hi, _⟩; omega
  | succ k ih =>
    rintro h ⟨i, hi, h1, h2⟩
    have e : bgM l t (k + 1) = if !(ge l k).over && ((ge l k).task == t) then (ge l k).at_ else bgM l t k := rfl
    rw [e]
    split
    · next h3 =>
      rw [Bool.and_eq_true, Bool.not_eq_true', beq_iff_eq] at h3
      exact h k (by omega) h3.1 h3.2
    · next h3 =>
      have hik : i ≠ k := by
        rintro rfl
        apply h3
        rw [h1, h2]
        simp
      exact ih (fun j hj => h j (by omega)) ⟨i, by omega, h1, h2⟩
theorem ge_mem {l : List E} {i : Nat} (hi : i < l.length) : ge l i ∈ l := by rw [ge_at hi]; exact List.getElem_mem hi
theorem mem_ge {l : List E} {x : E} (h : x ∈ l) : ∃ i, i < l.length ∧ ge l i = x := by
  obtain ⟨i, hi, e⟩ := List.mem_iff_getElem.1 h
  exact ⟨i, hi, by rw [ge_at hi]; exact e⟩
theorem ge_R {g : List T} {S : List Int} {n i j : Nat} (hij : i < j) (hj : j < (lgK g S n).length) : evR (ge (lgK g S n) i) (ge (lgK g S n) j) := by
  rw [ge_at (by omega), ge_at hj]
  exact List.pairwise_iff_getElem.1 (lgK_R g S n) i j (by omega) hj hij
/-- what all valid beginnings give -/
theorem stV_facts {g : List T} {m S : List Int} {wk : Int} (h : stV g m wk S = true) : fine g = true ∧ g.length ≤ 8 ∧ S.length = g.length ∧ (∀ i, i < g.length → 0 ≤ giZ S i ∧ giZ S i ≤ 200) ∧ (∀ i, i < g.length → 1 ≤ timeOf g i ∧ timeOf g i ≤ 20) ∧
    (∀ i, i < g.length → ∀ y ∈ need g i, giZ S y.toNat + timeOf g y.toNat ≤ giZ S i) ∧ valid g = true := by
  obtain ⟨hcan, hk, hst⟩ := stV_iff.1 h
  have hv := (canV_iff.1 hcan).1
  have hF := valid_fine hv
  refine ⟨hF, fine_len hF, clk_len hk, fun i hi => clk_at hk i, fun i hi => fine_time hF hi, ?_, hv⟩
  intro i hi y hy
  unfold stK at hst
  rw [List.all_eq_true] at hst
  have h1 := hst i (by simp [hi])
  rw [Bool.and_eq_true] at h1
  have h2 := h1.1
  unfold needOkB at h2
  rw [List.all_eq_true] at h2
  have h3 := h2 y hy
  unfold ovF at h3
  simpa using h3
theorem lg_len {g : List T} {m S : List Int} {wk : Int} (h : stV g m wk S = true) : (lgK g S 221).length = 2 * g.length := by
  obtain ⟨_, _, _, hs, ht, _, _⟩ := stV_facts h
  rw [lgK_cnt, cK_all, cK_all]
  · omega
  · intro i hi
    have := hs i hi
    exact decide_eq_true (by omega)
  · intro i hi
    have := hs i hi
    have := ht i hi
    exact decide_eq_true (by omega)
theorem lg_mem {g : List T} {m S : List Int} {wk : Int} (h : stV g m wk S = true) {x : E} : x ∈ lgK g S 221 ↔ ∃ i : Nat, i < g.length ∧ (x = ⟨giZ S i + timeOf g i, (i : Int), true⟩ ∨ x = ⟨giZ S i, (i : Int), false⟩) := by
  obtain ⟨_, _, _, hs, ht, _, _⟩ := stV_facts h
  rw [mem_lgK]
  constructor
  · rintro ⟨i, hi, ⟨_, _, e⟩ | ⟨_, _, e⟩⟩
    · exact ⟨i, hi, .inl e⟩
    · exact ⟨i, hi, .inr e⟩
  · rintro ⟨i, hi, e | e⟩
    · have := hs i hi
      have := ht i hi
      exact ⟨i, hi, .inl ⟨by omega, by omega, e⟩⟩
    · have := hs i hi
      exact ⟨i, hi, .inr ⟨by omega, by omega, e⟩⟩
/-- what an event of the log is -/
theorem lg_at {g : List T} {m S : List Int} {wk : Int} (h : stV g m wk S = true) {k : Nat} (hk : k < (lgK g S 221).length) : ∃ i : Nat, i < g.length ∧ (ge (lgK g S 221) k).task = (i : Int) ∧
    ((ge (lgK g S 221) k).over = true ∧ (ge (lgK g S 221) k).at_ = giZ S i + timeOf g i ∨ (ge (lgK g S 221) k).over = false ∧ (ge (lgK g S 221) k).at_ = giZ S i) := by
  obtain ⟨i, hi, e | e⟩ := (lg_mem h).1 (ge_mem hk)
  · exact ⟨i, hi, by rw [e], .inl ⟨by rw [e], by rw [e]⟩⟩
  · exact ⟨i, hi, by rw [e], .inr ⟨by rw [e], by rw [e]⟩⟩
theorem lg_mono {g : List T} {S : List Int} {n i j : Nat} (hij : i < j) (hj : j < (lgK g S n).length) : (ge (lgK g S n) i).at_ ≤ (ge (lgK g S n) j).at_ := by
  rcases ge_R hij hj with h | h <;> omega
theorem lg_valid {g : List T} {m S : List Int} {wk : Int} (h : stV g m wk S = true) (hle : ∀ i, i < g.length → giZ S i ≤ 180) : logV g (lgK g S 221) = true := by
  obtain ⟨hF, h8, hSl, hs, ht, hn, hv⟩ := stV_facts h
  rw [logV_iff]
  refine ⟨hv, by rw [lg_len h]; omega, ?_⟩
  unfold evK
  rw [List.all_eq_true]
  intro k hk
  rw [List.mem_range] at hk
  obtain ⟨i, hi, htk, hc⟩ := lg_at h hk
  have h1 := hs i hi
  have h2 := ht i hi
  have h3 := hle i hi
  rw [evOk_iff]
  have hbeg : ∀ j, j < (lgK g S 221).length → (ge (lgK g S 221) j).over = false → (ge (lgK g S 221) j).task = (i : Int) → (ge (lgK g S 221) j).at_ = giZ S i := by
    intro j hj a b
    obtain ⟨i', _, b', c⟩ := lg_at h hj
    have : i' = i := by omega
    subst this
    rcases c with ⟨c, _⟩ | ⟨_, c⟩
    · rw [a] at c; cases c
    · exact c
  refine ⟨by rcases hc with hc | hc <;> omega, by rcases hc with hc | hc <;> omega, ?_, by omega, by omega, ?_⟩
  · cases k with
    | zero => exact .inl rfl
    | succ k => exact .inr (lg_mono (by omega) hk)
  · rcases hc with ⟨ho, hat⟩ | ⟨ho, hat⟩
    · rw [fitE_over ho, htk]
      obtain ⟨j, hj, ej⟩ := mem_ge ((lg_mem h).2 ⟨i, hi, .inr rfl⟩)
      have hjk : j < k := by
        by_cases h4 : j < k
        · exact h4
        · have hne : j ≠ k := by rintro rfl; rw [ej] at ho; cases ho
          have h5 := lg_mono (g := g) (S := S) (n := 221) (i := k) (j := j) (by omega) hj
          rw [ej, hat] at h5
          have : giZ S i + timeOf g i ≤ giZ S i := h5
          omega
      have e := bgM_some (l := lgK g S 221) (t := (i : Int)) (v := giZ S i) k (fun j hj => hbeg j (by omega)) ⟨j, hjk, by rw [ej], by rw [ej]⟩
      rw [e]
      refine ⟨h1.1, ?_, by rw [hat]; simp⟩
      rw [mem_ovL]
      rintro ⟨q, hq, a, b⟩
      have h5 := ge_R (g := g) (S := S) (n := 221) hq hk
      obtain ⟨i', _, b', c⟩ := lg_at h (k := q) (by omega)
      have : i' = i := by omega
      subst this
      rcases c with ⟨_, c⟩ | ⟨c, _⟩
      · rcases h5 with h5 | ⟨_, _, h5⟩
        · omega
        · have := h5 (by rw [a, ho])
          omega
      · rw [a] at c; cases c
    · rw [fitE_begin ho, htk]
      constructor
      · rw [bgM_none]
        · omega
        · intro q hq a b
          have h5 := ge_R (g := g) (S := S) (n := 221) hq hk
          have h6 := hbeg q (by omega) a b
          rcases h5 with h5 | ⟨_, _, h5⟩
          · omega
          · have := h5 (by rw [a, ho])
            omega
      · rw [Int.toNat_natCast]
        intro y hy
        rw [mem_ovL]
        have hyr := fine_need hF hy
        obtain ⟨q, hq, eq⟩ := mem_ge ((lg_mem h).2 ⟨y.toNat, by omega, .inl rfl⟩)
        refine ⟨q, ?_, by rw [eq], by rw [eq]; show ((y.toNat : Nat) : Int) = y; omega⟩
        have h7 := hn i hi y hy
        by_cases h4 : q < k
        · exact h4
        · have hne : q ≠ k := by rintro rfl; rw [eq] at ho; cases ho
          have h5 := ge_R (g := g) (S := S) (n := 221) (i := k) (j := q) (by omega) hq
          rw [eq] at h5
          rcases h5 with h5 | ⟨_, h5 | h5, _⟩
          · have : (ge (lgK g S 221) k).at_ < giZ S y.toNat + timeOf g y.toNat := h5
            omega
          · rw [ho] at h5; cases h5
          · cases h5
end Go.Proofs.Ytihgakbopkaemaa.Bs
