/-
  PLAIN MATHEMATICS of graphs of tasks: no program, no model. What is shown: facts on lists of numbers that the walks use. No condition.
-/
namespace Go.Proofs.Ytiokblodjhmjmab.Bs

/-- A task as plain data. -/
structure T where
  time : Int
  needs : List Int
  pool : Int
  units : Int

/-- ascending behind a number -/
def ascF : Int → List Int → Bool
  | _, [] => true
  | a, x :: r => decide (a < x) && ascF x r
def asc : List Int → Bool
  | [] => true
  | x :: r => ascF x r
def allInB (l : List Int) (lo hi : Int) : Bool := l.all fun x => decide (lo ≤ x ∧ x ≤ hi)

theorem ascF_iff (a : Int) (l : List Int) : ascF a l = true ↔ (∀ (h : 0 < l.length), a < l[0]) ∧ ∀ k (h : k + 1 < l.length), l[k] < l[k + 1] := by
  induction l generalizing a with
  | nil => simp [ascF]
  | cons x r ih =>
    simp only [ascF, Bool.and_eq_true, decide_eq_true_eq, ih, List.length_cons]
    constructor
    · rintro ⟨h1, h2, h3⟩
      refine ⟨fun _ => by simpa using h1, ?_⟩
      intro k h
      cases k with
      | zero => simpa using h2 (by omega)
      | succ k => simpa using h3 k (by omega)
    · rintro ⟨h1, h2⟩
      refine ⟨by simpa using h1 (by omega), ?_, ?_⟩
      · intro h; exact h2 0 (by omega)
      · intro k h; exact h2 (k + 1) (by omega)
theorem asc_iff (l : List Int) : asc l = true ↔ ∀ k (h : k + 1 < l.length), l[k] < l[k + 1] := by
  cases l with
  | nil => simp [asc]
  | cons x r =>
    simp only [asc, ascF_iff]
    constructor
    · rintro ⟨h1, h2⟩ k h
      cases k with
      | zero => simpa using h1 (by simpa using h)
      | succ k => simpa using h2 k (by simpa using h)
    · intro h
      refine ⟨fun h1 => by simpa using h 0 (by simpa using h1), fun k hk => h (k + 1) (by simpa using hk)⟩
theorem ascF_eq (a : Int) (l : List Int) (h : ∀ x ∈ l, a < x) : ascF a l = asc l := by
  cases l with
  | nil => rfl
  | cons x r => simp [ascF, asc, h x (by simp)]

/-- a task that is fine among n -/
def validT (n : Int) (t : T) : Bool :=
  decide (1 ≤ t.time ∧ t.time ≤ 20) && decide (0 ≤ t.pool ∧ t.pool ≤ 2) && decide (1 ≤ t.units ∧ t.units ≤ 4) && allInB t.needs 0 (n - 1) && asc t.needs
theorem validT_iff (n : Int) (t : T) : validT n t = true ↔ 1 ≤ t.time ∧ t.time ≤ 20 ∧ 0 ≤ t.pool ∧ t.pool ≤ 2 ∧ 1 ≤ t.units ∧ t.units ≤ 4 ∧ (allInB t.needs 0 (n - 1) && asc t.needs) = true := by
  simp only [validT, Bool.and_eq_true, decide_eq_true_eq]
  constructor
  · rintro ⟨⟨⟨⟨h1, h2⟩, h3⟩, h4⟩, h5⟩; exact ⟨h1.1, h1.2, h2.1, h2.2, h3.1, h3.2, h4, h5⟩
  · rintro ⟨h1, h2, h3, h4, h5, h6, h7, h8⟩; exact ⟨⟨⟨⟨⟨h1, h2⟩, h3, h4⟩, h5, h6⟩, h7⟩, h8⟩
def fine (g : List T) : Bool := g.all (validT g.length) && decide (g.length ≤ 8)

def need (g : List T) (i : Nat) : List Int := match g[i]? with | some t => t.needs | none => []
/-- may task i come next? -/
def okNext (g : List T) (out : List Int) (i : Nat) : Bool := !out.contains (i : Int) && (need g i).all fun x => out.contains x
def nxt (g : List T) (out : List Int) : Option Nat := (List.range g.length).find? (okNext g out)
def ord (g : List T) : Nat → List Int → List Int
  | 0, out => out
  | k + 1, out => match nxt g out with
    | none => out
    | some i => ord g k (out ++ [(i : Int)])
def top (g : List T) : List Int := ord g g.length []
def valid (g : List T) : Bool := fine g && decide ((top g).length = g.length)

/-- a list of distinct task numbers -/
def Dist (n : Nat) (out : List Int) : Prop := out.Nodup ∧ ∀ x ∈ out, 0 ≤ x ∧ x < n

theorem Dist.nil (n : Nat) : Dist n [] := ⟨List.nodup_nil, by simp⟩
theorem nodup_bound : ∀ (n : Nat) (l : List Nat), l.Nodup → (∀ x ∈ l, x < n) → l.length ≤ n := by
  intro n
  induction n with
  | zero => intro l _ h; cases l with
    | nil => simp
    | cons x r => exact absurd (h x (by simp)) (by omega)
  | succ n ih =>
    intro l hn h
    have h1 := ih (l.filter (· ≠ n)) (hn.filter _) (by
      intro x hx
      simp only [List.mem_filter, decide_eq_true_eq, ne_eq] at hx
      have := h x hx.1
      omega)
    have h2 : l.length ≤ (l.filter (· ≠ n)).length + 1 := by
      clear h1 ih h
      induction l with
      | nil => simp
      | cons y r ih =>
        rw [List.nodup_cons] at hn
        by_cases e : y = n
        · subst e
          have : r.filter (· ≠ y) = r := by
            rw [List.filter_eq_self]
            intro a ha
            simp only [ne_eq, decide_eq_true_eq]
            rintro rfl
            exact hn.1 ha
          have h3 : (List.filter (fun x => decide (x ≠ y)) (y :: r)) = List.filter (· ≠ y) r := by simp
          rw [h3, this]; simp
        · have h3 := ih hn.2
          have h4 : (List.filter (fun x => decide (x ≠ n)) (y :: r)) = y :: List.filter (· ≠ n) r := by simp [e]
          rw [h4]; simp only [List.length_cons]; omega
    omega
theorem Dist.natify {n : Nat} {out : List Int} (h : Dist n out) : (out.map Int.toNat).Nodup ∧ ∀ x ∈ out.map Int.toNat, x < n := by
  constructor
  · obtain ⟨h1, h2⟩ := h
    induction out with
    | nil => simp
    | cons y r ih =>
      rw [List.nodup_cons] at h1
      rw [List.map_cons, List.nodup_cons]
      refine ⟨?_, ih h1.2 (fun x hx => h2 x (by simp [hx]))⟩
      intro hm
      rw [List.mem_map] at hm
      obtain ⟨z, hz, he⟩ := hm
      have a := h2 z (by simp [hz])
      have b := h2 y (by simp)
      have : z = y := by omega
      subst this
      exact h1.1 hz
  · intro x hx
    rw [List.mem_map] at hx
    obtain ⟨z, hz, rfl⟩ := hx
    have := h.2 z hz
    omega
theorem Dist.le {n : Nat} {out : List Int} (h : Dist n out) : out.length ≤ n := by
  obtain ⟨h1, h2⟩ := h.natify
  have := nodup_bound n _ h1 h2
  simpa using this
theorem Dist.full {n : Nat} {out : List Int} (h : Dist n out) (hf : out.length = n) (i : Nat) (hi : i < n) : (i : Int) ∈ out := by
  rcases Classical.em ((i : Int) ∈ out) with hm | hm
  · exact hm
  · have h1 : Dist n (out ++ [(i : Int)]) := by
      refine ⟨?_, ?_⟩
      · rw [List.nodup_append]
        refine ⟨h.1, by simp, ?_⟩
        intro a ha b hb
        simp only [List.mem_singleton] at hb
        subst hb
        rintro rfl
        exact hm ha
      · intro x hx
        rw [List.mem_append] at hx
        rcases hx with hx | hx
        · exact h.2 x hx
        · simp only [List.mem_singleton] at hx; subst hx; omega
    have := h1.le
    simp at this
    omega
theorem okNext_some {g : List T} {out : List Int} {i : Nat} (h : nxt g out = some i) : i < g.length ∧ (i : Int) ∉ out ∧ ∀ x ∈ need g i, x ∈ out := by
  unfold nxt at h
  have h1 := List.find?_some h
  have h2 := List.mem_of_find?_eq_some h
  unfold okNext at h1
  simp at h1 h2
  exact ⟨h2, h1.1, h1.2⟩
theorem Dist.snoc {g : List T} {out : List Int} {i : Nat} (h : Dist g.length out) (hn : nxt g out = some i) : Dist g.length (out ++ [(i : Int)]) := by
  obtain ⟨h1, h2, _⟩ := okNext_some hn
  refine ⟨?_, ?_⟩
  · rw [List.nodup_append]
    refine ⟨h.1, by simp, ?_⟩
    intro a ha b hb
    simp only [List.mem_singleton] at hb
    subst hb
    rintro rfl
    exact h2 ha
  · intro x hx
    rw [List.mem_append] at hx
    rcases hx with hx | hx
    · exact h.2 x hx
    · simp only [List.mem_singleton] at hx; subst hx; omega
theorem nxt_full {g : List T} {out : List Int} (h : Dist g.length out) (hf : out.length = g.length) : nxt g out = none := by
  cases hn : nxt g out with
  | none => rfl
  | some i =>
    have := (h.snoc hn).le
    simp at this
    omega
theorem nxt_lt {g : List T} {out : List Int} {i : Nat} (h : Dist g.length out) (hn : nxt g out = some i) : out.length < g.length := by
  have := (h.snoc hn).le
  simp at this
  omega

/-- the loop's invariant of both programs -/
def Mid (g : List T) (out : List Int) : Prop := Dist g.length out ∧ ord g (g.length - out.length) out = top g
theorem Mid.start (g : List T) : Mid g [] := ⟨Dist.nil _, by simp [top]⟩
theorem Mid.step {g : List T} {out : List Int} {i : Nat} (h : Mid g out) (hn : nxt g out = some i) : Mid g (out ++ [(i : Int)]) := by
  refine ⟨h.1.snoc hn, ?_⟩
  have hl := nxt_lt h.1 hn
  rw [← h.2]
  obtain ⟨k, hk⟩ : ∃ k, g.length - out.length = k + 1 := ⟨g.length - out.length - 1, by omega⟩
  have h2 : g.length - (out ++ [(i : Int)]).length = k := by simp; omega
  rw [hk, h2]
  simp [ord, hn]
theorem Mid.stop {g : List T} {out : List Int} (h : Mid g out) (hn : nxt g out = none) : out = top g := by
  rw [← h.2]
  cases hk : g.length - out.length with
  | zero => rfl
  | succ k => simp [ord, hn]
theorem Mid.full {g : List T} {out : List Int} (h : Mid g out) (hn : g.length ≤ out.length) : out = top g := by
  have := h.1.le
  exact h.stop (nxt_full h.1 (by omega))
theorem ord_dist (g : List T) : ∀ k out, Dist g.length out → Dist g.length (ord g k out) := by
  intro k
  induction k with
  | zero => intro out h; exact h
  | succ k ih =>
    intro out h
    unfold ord
    cases hn : nxt g out with
    | none => exact h
    | some i => exact ih _ (h.snoc hn)
theorem top_dist (g : List T) : Dist g.length (top g) := ord_dist g _ _ (Dist.nil _)

/-- sets of task numbers as bits -/
def bits (l : List Int) : Nat := l.foldl (fun s a => s ||| (1 <<< a.toNat)) 0
theorem bits_snoc (l : List Int) (a : Int) : bits (l ++ [a]) = bits l ||| (1 <<< a.toNat) := by simp [bits]
theorem bits_test (l : List Int) (hl : ∀ x ∈ l, 0 ≤ x) (i : Nat) : (bits l).testBit i = l.contains (i : Int) := by
  rw [Bool.eq_iff_iff]
  suffices h : ∀ (l : List Int) (s : Nat), (∀ x ∈ l, 0 ≤ x) → ((l.foldl (fun s a => s ||| (1 <<< a.toNat)) s).testBit i = true ↔ s.testBit i = true ∨ (i : Int) ∈ l) by
    have := h l 0 hl
    simpa [bits] using this
  clear hl l
  intro l
  induction l with
  | nil => intro s _; simp
  | cons x r ih =>
    intro s hl
    rw [List.foldl_cons, ih _ (fun y hy => hl y (by simp [hy]))]
    have hx := hl x (by simp)
    simp only [Nat.testBit_or, Bool.or_eq_true, List.mem_cons, Nat.one_shiftLeft, Nat.testBit_two_pow, decide_eq_true_eq]
    constructor
    · rintro ((h | h) | h)
      · exact .inl h
      · exact .inr (.inl (by omega))
      · exact .inr (.inr h)
    · rintro (h | h | h)
      · exact .inl (.inl h)
      · exact .inl (.inr (by omega))
      · exact .inr h
theorem bits_lt (l : List Int) (hl : ∀ x ∈ l, 0 ≤ x ∧ x < 8) : bits l < 256 := by
  suffices h : ∀ (l : List Int) (s : Nat), s < 2 ^ 8 → (∀ x ∈ l, 0 ≤ x ∧ x < 8) → l.foldl (fun s a => s ||| (1 <<< a.toNat)) s < 2 ^ 8 by
    exact h l 0 (by omega) hl
  clear hl l
  intro l
  induction l with
  | nil => intro s h _; exact h
  | cons x r ih =>
    intro s hs hl
    rw [List.foldl_cons]
    refine ih _ ?_ (fun y hy => hl y (by simp [hy]))
    have hx := hl x (by simp)
    refine Nat.or_lt_two_pow hs ?_
    rw [Nat.one_shiftLeft]
    exact Nat.pow_lt_pow_right (by omega) (by omega)

def timeOf (g : List T) (i : Nat) : Int := match g[i]? with | some t => t.time | none => 0

/-- each number of the order has all its needs before it -/
def Behind (g : List T) (out : List Int) : Prop := ∀ k (h : k < out.length), ∀ x ∈ need g out[k].toNat, x ∈ out.take k
theorem Behind.nil (g : List T) : Behind g [] := by intro k h; simp at h
theorem Behind.snoc {g : List T} {out : List Int} {i : Nat} (h : Behind g out) (hn : nxt g out = some i) : Behind g (out ++ [(i : Int)]) := by
  obtain ⟨_, _, h3⟩ := okNext_some hn
  intro k hk x hx
  by_cases e : k < out.length
  · rw [List.getElem_append_left e] at hx
    rw [List.take_append_of_le_length (by omega)]
    exact h k e x hx
  · have : k = out.length := by simp at hk; omega
    subst this
    simp at hx
    simpa using h3 x hx
theorem ord_behind (g : List T) : ∀ k out, Behind g out → Behind g (ord g k out) := by
  intro k
  induction k with
  | zero => intro out h; exact h
  | succ k ih =>
    intro out h
    unfold ord
    cases hn : nxt g out with
    | none => exact h
    | some i => exact ih _ (h.snoc hn)
theorem top_behind (g : List T) : Behind g (top g) := ord_behind g _ _ (Behind.nil _)

/-- all tasks are in the order -/
def Full (g : List T) : Prop := (top g).length = g.length
theorem valid_iff (g : List T) : valid g = true ↔ fine g = true ∧ Full g := by simp [valid, Full]
theorem Full.mem {g : List T} (h : Full g) {i : Nat} (hi : i < g.length) : (i : Int) ∈ top g := (top_dist g).full h i hi
theorem Full.pos {g : List T} (h : Full g) {i : Nat} (hi : i < g.length) : ∃ k, ∃ hk : k < (top g).length, (top g)[k] = (i : Int) := by
  obtain ⟨k, hk, e⟩ := List.mem_iff_getElem.1 (h.mem hi)
  exact ⟨k, hk, e⟩
theorem top_range {g : List T} {k : Nat} (hk : k < (top g).length) : 0 ≤ (top g)[k] ∧ (top g)[k] < g.length := (top_dist g).2 _ (List.getElem_mem hk)
theorem top_inj {g : List T} {i j : Nat} (hi : i < (top g).length) (hj : j < (top g).length) (h : (top g)[i] = (top g)[j]) : i = j := by
  have := (top_dist g).1
  rw [List.nodup_iff_pairwise_ne, List.pairwise_iff_getElem] at this
  rcases Nat.lt_trichotomy i j with h1 | h1 | h1
  · exact absurd h (this i j hi hj h1)
  · exact h1
  · exact absurd h.symm (this j i hj hi h1)

/-- needs of a task are tasks -/
theorem fine_need {g : List T} (h : fine g = true) {i : Nat} {x : Int} (hx : x ∈ need g i) : 0 ≤ x ∧ x < g.length := by
  unfold need at hx
  cases hg : g[i]? with
  | none => rw [hg] at hx; simp at hx
  | some t =>
    rw [hg] at hx
    simp only [fine, Bool.and_eq_true, List.all_eq_true] at h
    have h1 := h.1 t (List.mem_of_getElem? hg)
    simp only [validT, allInB, Bool.and_eq_true, List.all_eq_true, decide_eq_true_eq] at h1
    have := h1.1.2 x hx
    omega
theorem fine_time {g : List T} (h : fine g = true) {i : Nat} (hi : i < g.length) : 1 ≤ timeOf g i ∧ timeOf g i ≤ 20 := by
  unfold timeOf
  rw [List.getElem?_eq_getElem hi]
  simp only [fine, Bool.and_eq_true, List.all_eq_true] at h
  have h1 := h.1 g[i] (List.getElem_mem hi)
  simp only [validT, Bool.and_eq_true, decide_eq_true_eq] at h1
  exact h1.1.1.1.1
theorem fine_len {g : List T} (h : fine g = true) : g.length ≤ 8 := by
  simp only [fine, Bool.and_eq_true, decide_eq_true_eq] at h
  exact h.2

/-- induction along the needs -/
theorem need_ind {g : List T} (hg : Full g) (P : Nat → Prop) (h : ∀ i, i < g.length → (∀ x ∈ need g i, P x.toNat) → P i) : ∀ i, i < g.length → P i := by
  have key : ∀ n k (hk : k < (top g).length), k < n → P (top g)[k].toNat := by
    intro n
    induction n with
    | zero => intro k hk h0; omega
    | succ n ih =>
      intro k hk hkn
      have hr := top_range hk
      refine h _ (by omega) ?_
      intro x hx
      have hb := top_behind g k hk x hx
      obtain ⟨j, hj, e⟩ := List.mem_iff_getElem.1 hb
      rw [List.length_take] at hj
      have e2 : (top g)[j]'(by omega) = x := by rw [← e, List.getElem_take]
      rw [← e2]
      exact ih j (by omega) (by omega)
  intro i hi
  obtain ⟨k, hk, e⟩ := hg.pos hi
  have := key (k + 1) k hk (by omega)
  rw [e] at this
  simpa using this
/-- induction along the users -/
theorem user_ind {g : List T} (hg : Full g) (P : Nat → Prop) (h : ∀ i, i < g.length → (∀ k, k < g.length → (i : Int) ∈ need g k → P k) → P i) : ∀ i, i < g.length → P i := by
  have key : ∀ n k (hk : k < (top g).length), (top g).length - k ≤ n → P (top g)[k].toNat := by
    intro n
    induction n with
    | zero => intro k hk h0; omega
    | succ n ih =>
      intro k hk hkn
      have hr := top_range hk
      refine h _ (by omega) ?_
      intro u hu hx
      obtain ⟨j, hj, e⟩ := hg.pos hu
      have e3 : (top g)[j].toNat = u := by rw [e]; simp
      have hb := top_behind g j hj ((top g)[k]) (by rw [e3]; rw [show ((top g)[k].toNat : Int) = (top g)[k] from by omega] at hx; exact hx)
      obtain ⟨m, hm, e2⟩ := List.mem_iff_getElem.1 hb
      rw [List.length_take] at hm
      rw [List.getElem_take] at e2
      have := top_inj (g := g) (by omega) hk e2
      subst this
      rw [← e3]
      exact ih j hj (by omega)
  intro i hi
  obtain ⟨k, hk, e⟩ := hg.pos hi
  have := key ((top g).length - k) k hk (by omega)
  rw [e] at this
  simpa using this

/-- the greatest number of a list, at least 0 -/
def maxL (l : List Int) : Int := l.foldl max 0
theorem foldl_max (l : List Int) : ∀ s, s ≤ l.foldl max s ∧ (∀ x ∈ l, x ≤ l.foldl max s) ∧ (l.foldl max s = s ∨ l.foldl max s ∈ l) := by
  induction l with
  | nil => intro s; simp
  | cons x r ih =>
    intro s
    obtain ⟨h1, h2, h3⟩ := ih (max s x)
    rw [List.foldl_cons]
    refine ⟨by omega, ?_, ?_⟩
    · intro y hy
      rw [List.mem_cons] at hy
      rcases hy with rfl | hy
      · omega
      · exact h2 y hy
    · rcases h3 with h3 | h3
      · by_cases hx : s ≤ x
        · right; rw [h3, Int.max_eq_right hx]; simp
        · left; rw [h3]; omega
      · right; simp [h3]
theorem maxL_nonneg (l : List Int) : 0 ≤ maxL l := (foldl_max l 0).1
theorem le_maxL {l : List Int} {x : Int} (h : x ∈ l) : x ≤ maxL l := (foldl_max l 0).2.1 x h
theorem maxL_mem (l : List Int) : maxL l = 0 ∨ maxL l ∈ l := (foldl_max l 0).2.2
theorem maxL_le {l : List Int} {b : Int} (h0 : 0 ≤ b) (h : ∀ x ∈ l, x ≤ b) : maxL l ≤ b := by
  rcases maxL_mem l with e | e
  · omega
  · exact h _ e
theorem maxL_congr {α : Type} (l : List α) (f f' : α → Int) (h : ∀ x ∈ l, f x = f' x) : maxL (l.map f) = maxL (l.map f') := by
  rw [List.map_congr_left h]

/-- what heads are -/
def IsHead (g : List T) (f : Nat → Int) : Prop := ∀ i, i < g.length → f i = maxL ((need g i).map fun x => f x.toNat + timeOf g x.toNat)
def usersOf (g : List T) (i : Nat) : List Nat := (List.range g.length).filter fun k => (need g k).contains (i : Int)
def IsTail (g : List T) (f : Nat → Int) : Prop := ∀ i, i < g.length → f i = timeOf g i + maxL ((usersOf g i).map f)
theorem head_unique {g : List T} (hg : Full g) {f f' : Nat → Int} (h : IsHead g f) (h' : IsHead g f') : ∀ i, i < g.length → f i = f' i := by
  refine need_ind hg _ ?_
  intro i hi ih
  rw [h i hi, h' i hi]
  refine maxL_congr _ _ _ ?_
  intro x hx
  rw [ih x hx]
theorem mem_usersOf {g : List T} {i k : Nat} : k ∈ usersOf g i ↔ k < g.length ∧ (i : Int) ∈ need g k := by
  simp [usersOf]
theorem tail_unique {g : List T} (hg : Full g) {f f' : Nat → Int} (h : IsTail g f) (h' : IsTail g f') : ∀ i, i < g.length → f i = f' i := by
  refine user_ind hg _ ?_
  intro i hi ih
  rw [h i hi, h' i hi]
  rw [maxL_congr _ f f']
  intro k hk
  rw [mem_usersOf] at hk
  exact ih k hk.1 hk.2

/-- what a task needs, also by way of others -/
inductive Reach (g : List T) : Nat → Nat → Prop where
  | one {i j : Nat} : (j : Int) ∈ need g i → Reach g i j
  | via {i k j : Nat} : (k : Int) ∈ need g i → Reach g k j → Reach g i j
theorem Reach.lt {g : List T} (hf : fine g = true) {i j : Nat} (h : Reach g i j) : j < g.length := by
  induction h with
  | one h => have := fine_need hf h; omega
  | via _ _ ih => exact ih
theorem Reach.src {g : List T} {i j : Nat} (h : Reach g i j) : i < g.length := by
  have key : ∀ x : Int, x ∈ need g i → i < g.length := by
    intro x hx
    rcases Nat.lt_or_ge i g.length with h1 | h1
    · exact h1
    · unfold need at hx
      rw [List.getElem?_eq_none h1] at hx
      simp at hx
  cases h with
  | one h => exact key _ h
  | via h _ => exact key _ h
theorem Reach.trans {g : List T} {i j k : Nat} (h : Reach g i j) (h' : Reach g j k) : Reach g i k := by
  induction h with
  | one h => exact .via h h'
  | via h _ ih => exact .via h (ih h')
/-- in a full order a task's needs stand before it -/
theorem Reach.before {g : List T} {i j : Nat} (h : Reach g i j) : ∀ p (hp : p < (top g).length), (top g)[p] = (i : Int) → ∃ q, ∃ hq : q < (top g).length, q < p ∧ (top g)[q] = (j : Int) := by
  have step : ∀ (a b : Nat), (b : Int) ∈ need g a → ∀ p (hp : p < (top g).length), (top g)[p] = (a : Int) → ∃ q, ∃ hq : q < (top g).length, q < p ∧ (top g)[q] = (b : Int) := by
    intro a b hb p hp e
    have h1 := top_behind g p hp (b : Int) (by rw [e]; simpa using hb)
    obtain ⟨q, hq, e2⟩ := List.mem_iff_getElem.1 h1
    rw [List.length_take] at hq
    rw [List.getElem_take] at e2
    exact ⟨q, by omega, by omega, e2⟩
  induction h with
  | one h => exact step _ _ h
  | via h _ ih =>
    intro p hp e
    obtain ⟨q, hq, hqp, e2⟩ := step _ _ h p hp e
    obtain ⟨r, hr, hrq, e3⟩ := ih q hq e2
    exact ⟨r, hr, by omega, e3⟩
theorem Reach.irrefl {g : List T} (hf : Full g) {i : Nat} (h : Reach g i i) : False := by
  obtain ⟨p, hp, e⟩ := hf.pos h.src
  obtain ⟨q, hq, hqp, e2⟩ := h.before p hp e
  have := top_inj hq hp (e2.trans e.symm)
  omega

open Classical in
/-- AllNeeds as a list -/
noncomputable def needsL (g : List T) (i : Nat) : List Int := ((List.range g.length).filter fun j => decide (Reach g i j)).map fun j => ((j : Nat) : Int)
open Classical in
noncomputable def usersL (g : List T) (i : Nat) : List Int := ((List.range g.length).filter fun j => decide (Reach g j i)).map fun j => ((j : Nat) : Int)

/-- the numbers 0..n-1 that a test takes, as a list; built from the left -/
def pick (n : Nat) (p : Nat → Bool) : List Int := ((List.range n).filter p).map fun j => ((j : Nat) : Int)
theorem pick_zero (p : Nat → Bool) : pick 0 p = [] := rfl
theorem pick_succ (n : Nat) (p : Nat → Bool) : pick (n + 1) p = if p n then pick n p ++ [(n : Int)] else pick n p := by
  unfold pick
  rw [List.range_succ, List.filter_append, List.map_append]
  by_cases h : p n <;> simp [h]
theorem pick_congr (n : Nat) (p q : Nat → Bool) (h : ∀ i, i < n → p i = q i) : pick n p = pick n q := by
  unfold pick
  rw [List.filter_congr]
  intro x hx
  exact h x (by simpa using hx)
theorem pick_len (n : Nat) (p : Nat → Bool) : (pick n p).length ≤ n := by
  unfold pick
  rw [List.length_map]
  have := List.length_filter_le p (List.range n)
  simpa using this
theorem mem_pick (n : Nat) (p : Nat → Bool) (x : Int) : x ∈ pick n p ↔ ∃ j : Nat, j < n ∧ p j = true ∧ x = j := by
  unfold pick
  simp only [List.mem_map, List.mem_filter, List.mem_range]
  constructor
  · rintro ⟨j, ⟨h1, h2⟩, rfl⟩; exact ⟨j, h1, h2, rfl⟩
  · rintro ⟨j, h1, h2, rfl⟩; exact ⟨j, ⟨h1, h2⟩, rfl⟩
theorem mem_pick_nat (n : Nat) (p : Nat → Bool) (i : Nat) : (i : Int) ∈ pick n p ↔ i < n ∧ p i = true := by
  rw [mem_pick]
  constructor
  · rintro ⟨j, h1, h2, h3⟩
    have : i = j := by omega
    subst this
    exact ⟨h1, h2⟩
  · rintro ⟨h1, h2⟩; exact ⟨i, h1, h2, rfl⟩

/-- BFS of the model: seen numbers, of which the first k have been looked at -/
structure Bfs (g : List T) (at_ : Nat) (seen : List Int) (k : Nat) : Prop where
  dist : Dist g.length seen
  here : (at_ : Int) ∈ seen
  only : ∀ x ∈ seen, x = (at_ : Int) ∨ Reach g at_ x.toNat
  done : ∀ i (h : i < seen.length), i < k → ∀ x ∈ need g seen[i].toNat, x ∈ seen
theorem Bfs.start {g : List T} {at_ : Nat} (h : at_ < g.length) : Bfs g at_ [(at_ : Int)] 0 :=
  ⟨⟨by simp, by intro x hx; simp at hx; subst hx; omega⟩, by simp, by intro x hx; simp at hx; exact .inl hx, by intro i _ h; omega⟩
theorem Bfs.all {g : List T} {at_ : Nat} {seen : List Int} {k : Nat} (h : Bfs g at_ seen k) (hk : seen.length ≤ k) (j : Nat) (hr : Reach g at_ j) : (j : Int) ∈ seen := by
  have key : ∀ i j, Reach g i j → (i : Int) ∈ seen → (j : Int) ∈ seen := by
    intro i j hr
    induction hr with
    | @one i j hn =>
      intro hi
      obtain ⟨p, hp, e⟩ := List.mem_iff_getElem.1 hi
      exact h.done p hp (by omega) _ (by rw [e]; simpa using hn)
    | @via i k j hn _ ih =>
      intro hi
      obtain ⟨p, hp, e⟩ := List.mem_iff_getElem.1 hi
      exact ih (h.done p hp (by omega) _ (by rw [e]; simpa using hn))
  exact key _ _ hr h.here
theorem Bfs.iff {g : List T} {at_ : Nat} {seen : List Int} {k : Nat} (h : Bfs g at_ seen k) (hg : Full g) (hk : seen.length ≤ k) (j : Nat) : (j ≠ at_ ∧ (j : Int) ∈ seen) ↔ Reach g at_ j := by
  constructor
  · rintro ⟨h1, h2⟩
    rcases h.only _ h2 with e | e
    · omega
    · simpa using e
  · intro hr
    refine ⟨?_, h.all hk j hr⟩
    rintro rfl
    exact hr.irrefl hg

def gi (l : List Int) (i : Nat) : Int := l.getD i 0
theorem gi_set (l : List Int) (a i : Nat) (v : Int) (h : a < l.length) : gi (l.set a v) i = if i = a then v else gi l i := by
  unfold gi
  simp only [List.getD_eq_getElem?_getD, List.getElem?_set]
  by_cases e : a = i
  · subst e; simp [h]
  · simp [e, Ne.symm e]
theorem gi_zero (n i : Nat) : gi (List.replicate n 0) i = 0 := by
  unfold gi
  simp only [List.getD_eq_getElem?_getD, List.getElem?_replicate]
  split <;> rfl

theorem maxL_snoc (l : List Int) (x : Int) : maxL (l ++ [x]) = max (maxL l) x := by simp [maxL, List.foldl_append]
theorem maxL_eq {l : List Int} {m : Int} (h0 : 0 ≤ m) (hle : ∀ x ∈ l, x ≤ m) (hmem : m = 0 ∨ m ∈ l) : maxL l = m := by
  have h1 := maxL_le h0 hle
  rcases hmem with e | e
  · have := maxL_nonneg l; omega
  · have := le_maxL e; omega

/-- one step of the heads: task a, all of whose needs are done -/
def headAt (g : List T) (h : List Int) (a p : Nat) : Int := maxL (((need g a).take p).map fun x => gi h x.toNat + timeOf g x.toNat)
structure HeadMid (g : List T) (k : Nat) (h : List Int) : Prop where
  len : h.length = g.length
  old : ∀ i, i < g.length → (i : Int) ∈ (top g).take k → gi h i = maxL ((need g i).map fun x => gi h x.toNat + timeOf g x.toNat)
  new : ∀ i, i < g.length → (i : Int) ∉ (top g).take k → gi h i = 0
  lo : ∀ i, i < g.length → 0 ≤ gi h i
  hi : ∀ i, i < g.length → gi h i ≤ 20 * k
theorem HeadMid.start (g : List T) : HeadMid g 0 (List.replicate g.length 0) :=
  ⟨by simp, by intro i _ h; simp at h, fun i _ _ => gi_zero _ _, fun i _ => by rw [gi_zero]; omega, fun i _ => by rw [gi_zero]; omega⟩
theorem take_succ_mem {l : List Int} {k : Nat} (hk : k < l.length) (x : Int) : x ∈ l.take (k + 1) ↔ x ∈ l.take k ∨ x = l[k] := by
  rw [List.take_succ_eq_append_getElem hk]; simp only [List.mem_append, List.mem_singleton]
theorem top_take_not {g : List T} {k : Nat} (hk : k < (top g).length) : (top g)[k] ∉ (top g).take k := by
  intro h
  obtain ⟨q, hq, e⟩ := List.mem_iff_getElem.1 h
  rw [List.length_take] at hq
  rw [List.getElem_take] at e
  have := top_inj (g := g) (by omega) hk e
  omega
theorem HeadMid.notSelf {g : List T} {k : Nat} (hk : k < (top g).length) : ∀ x ∈ need g (top g)[k].toNat, x.toNat ≠ (top g)[k].toNat := by
  intro x hx e
  have hb := top_behind g k hk x hx
  have h1 := top_range hk
  have h2 : 0 ≤ x := by
    obtain ⟨q, hq, e⟩ := List.mem_iff_getElem.1 hb
    rw [List.length_take] at hq
    rw [List.getElem_take] at e
    have := top_range (g := g) (k := q) (by omega)
    omega
  have : x = (top g)[k] := by omega
  subst this
  exact top_take_not hk hb
theorem HeadMid.step {g : List T} {k : Nat} {h : List Int} (hf : fine g = true) (hm : HeadMid g k h) (hk : k < (top g).length) :
    HeadMid g (k + 1) (h.set (top g)[k].toNat (headAt g h (top g)[k].toNat (need g (top g)[k].toNat).length)) := by
  have hr := top_range hk
  have hn := HeadMid.notSelf hk
  have hnot := top_take_not hk
  have hb := top_behind g k hk
  generalize ha : (top g)[k].toNat = a at *
  have haI : (top g)[k] = (a : Int) := by omega
  have hal : a < h.length := by rw [hm.len]; omega
  have hset := fun i v => gi_set h a i v hal
  have hkeep : ∀ x ∈ need g a, gi (h.set a (headAt g h a (need g a).length)) x.toNat = gi h x.toNat := by
    intro x hx; rw [hset, if_neg (hn x hx)]
  have hself : headAt g h a (need g a).length = maxL ((need g a).map fun x => gi h x.toNat + timeOf g x.toNat) := by
    unfold headAt; rw [List.take_length]
  refine ⟨by simp [hm.len], ?_, ?_, ?_, ?_⟩
  · intro i hi hmem
    rw [take_succ_mem hk] at hmem
    by_cases e : i = a
    · subst e
      rw [hset, if_pos rfl, hself]
      refine maxL_congr _ _ _ ?_
      intro x hx
      rw [← hself, hkeep x hx]
    · have hmem' : (i : Int) ∈ (top g).take k := by
        rcases hmem with h1 | h1
        · exact h1
        · omega
      rw [hset, if_neg e, hm.old i hi hmem']
      refine maxL_congr _ _ _ ?_
      intro x hx
      have hx2 : x.toNat ≠ a := by
        intro e2
        obtain ⟨q, hq, e3⟩ := List.mem_iff_getElem.1 hmem'
        rw [List.length_take] at hq
        rw [List.getElem_take] at e3
        have hb2 := top_behind g q (by omega) x (by rw [e3]; simpa using hx)
        have hx3 : 0 ≤ x := (fine_need hf hx).1
        have : x = (top g)[k] := by omega
        rw [this] at hb2
        obtain ⟨r, hr2, e4⟩ := List.mem_iff_getElem.1 hb2
        rw [List.length_take] at hr2
        rw [List.getElem_take] at e4
        have := top_inj (g := g) (by omega) hk e4
        omega
      rw [hset, if_neg hx2]
  · intro i hi hmem
    rw [take_succ_mem hk] at hmem
    have e : i ≠ a := by
      rintro rfl
      exact hmem (.inr haI.symm)
    rw [hset, if_neg e]
    exact hm.new i hi (fun h1 => hmem (.inl h1))
  · intro i hi
    rw [hset]
    split
    · rw [hself]; exact maxL_nonneg _
    · exact hm.lo i hi
  · intro i hi
    rw [hset]
    split
    · rw [hself]
      refine maxL_le (by omega) ?_
      intro y hy
      rw [List.mem_map] at hy
      obtain ⟨x, hx, rfl⟩ := hy
      have h1 := fine_need hf hx
      have h2 := hm.hi x.toNat (by omega)
      have h3 := fine_time hf (i := x.toNat) (by omega)
      omega
    · have := hm.hi i hi; omega
theorem HeadMid.isHead {g : List T} {h : List Int} (hg : Full g) (hm : HeadMid g (top g).length h) : IsHead g (gi h) := by
  intro i hi
  exact hm.old i hi (by rw [List.take_length]; exact hg.mem hi)

/-- users among the first p tasks, and the tails -/
def most (g : List T) (t : List Int) (a p : Nat) : Int := maxL (((List.range p).filter fun k => (need g k).contains (a : Int)).map (gi t))
theorem most_zero (g : List T) (t : List Int) (a : Nat) : most g t a 0 = 0 := rfl
theorem most_succ (g : List T) (t : List Int) (a p : Nat) : most g t a (p + 1) = if (need g p).contains (a : Int) then max (most g t a p) (gi t p) else most g t a p := by
  unfold most
  rw [List.range_succ, List.filter_append, List.map_append]
  by_cases h : (need g p).contains (a : Int) = true
  · rw [if_pos h]; simp only [List.filter_cons, h, if_true, List.filter_nil, List.map_cons, List.map_nil]; exact maxL_snoc _ _
  · rw [if_neg h]; simp only [Bool.not_eq_true] at h; simp only [List.filter_cons, h, Bool.false_eq_true, if_false, List.filter_nil, List.map_nil, List.append_nil]
theorem most_nonneg (g : List T) (t : List Int) (a p : Nat) : 0 ≤ most g t a p := maxL_nonneg _

/-- how far the tails are: the last ones of the order, from k on, are done -/
structure TailMid (g : List T) (k : Nat) (t : List Int) : Prop where
  len : t.length = g.length
  old : ∀ i, i < g.length → (i : Int) ∉ (top g).take k → gi t i = timeOf g i + most g t i g.length
  lo : ∀ i, i < g.length → 0 ≤ gi t i
  hi : ∀ i, i < g.length → gi t i ≤ 20 * ((top g).length - k)
/-- the model's way: what is not done yet is 0 -/
structure TailSpec (g : List T) (k : Nat) (t : List Int) : Prop extends TailMid g k t where
  new : ∀ i, i < g.length → (i : Int) ∈ (top g).take k → gi t i = 0
/-- the program's way: what is not done yet holds the greatest tail of its users -/
structure TailImpl (g : List T) (k : Nat) (t : List Int) : Prop extends TailMid g k t where
  new : ∀ i, i < g.length → (i : Int) ∈ (top g).take k → gi t i = maxL (((List.range g.length).filter fun u => (need g u).contains (i : Int) && !((top g).take k).contains (u : Int)).map (gi t))

theorem TailSpec.start {g : List T} (hg : Full g) : TailSpec g (top g).length (List.replicate g.length 0) :=
  ⟨⟨by simp, fun i hi h => absurd (by rw [List.take_length]; exact hg.mem hi) h, fun i _ => by rw [gi_zero]; omega, fun i _ => by rw [gi_zero]; omega⟩, fun i _ _ => gi_zero _ _⟩
theorem TailImpl.start {g : List T} (hg : Full g) : TailImpl g (top g).length (List.replicate g.length 0) := by
  refine ⟨TailSpec.start hg |>.toTailMid, ?_⟩
  intro i _ _
  rw [gi_zero]
  symm
  refine maxL_eq (by omega) ?_ (.inl rfl)
  intro x hx
  rw [List.mem_map] at hx
  obtain ⟨u, _, rfl⟩ := hx
  rw [gi_zero]
  omega
theorem most_full (g : List T) (t : List Int) (i : Nat) : most g t i g.length = maxL ((usersOf g i).map (gi t)) := rfl
theorem TailMid.isTail {g : List T} {t : List Int} (hm : TailMid g 0 t) : IsTail g (gi t) := by
  intro i hi
  rw [← most_full]
  exact hm.old i hi (by simp)
theorem most_congr {g : List T} {t t' : List Int} {i p : Nat} (h : ∀ u, u < p → (i : Int) ∈ need g u → gi t u = gi t' u) : most g t i p = most g t' i p := by
  unfold most
  refine maxL_congr _ _ _ ?_
  intro u hu
  simp only [List.mem_filter, List.mem_range, List.contains_iff_mem] at hu
  exact h u hu.1 hu.2
/-- users of the task at place k - 1 are behind it -/
theorem user_behind {g : List T} {k : Nat} (hk : k < (top g).length) {u : Nat} (hn : (top g)[k] ∈ need g u) : (u : Int) ∉ (top g).take (k + 1) := by
  intro hm
  obtain ⟨q, hq, e⟩ := List.mem_iff_getElem.1 hm
  rw [List.length_take] at hq
  rw [List.getElem_take] at e
  have hb := top_behind g q (by omega) (top g)[k] (by rw [e]; simpa using hn)
  obtain ⟨r, hr, e2⟩ := List.mem_iff_getElem.1 hb
  rw [List.length_take] at hr
  rw [List.getElem_take] at e2
  have := top_inj (g := g) (by omega) hk e2
  omega
theorem notUser {g : List T} {k : Nat} (hk : k < (top g).length) : (top g)[k] ∉ need g (top g)[k].toNat := by
  intro h
  exact HeadMid.notSelf hk _ h rfl

theorem TailSpec.step {g : List T} {k : Nat} {t : List Int} (hf : fine g = true) (hg : Full g) (hm : TailSpec g (k + 1) t) (hk : k < (top g).length) :
    TailSpec g k (t.set (top g)[k].toNat (most g t (top g)[k].toNat g.length + timeOf g (top g)[k].toNat)) := by
  have hr := top_range hk
  have hub := fun {u : Nat} (hn : (top g)[k] ∈ need g u) => user_behind hk hn
  have hnu := notUser hk
  have hnot := top_take_not hk
  have htk := fun x => take_succ_mem hk x
  generalize ha : (top g)[k].toNat = a at *
  have haI : (top g)[k] = (a : Int) := by omega
  rw [haI] at hub hnu hnot htk
  have hal : a < t.length := by rw [hm.len]; omega
  have hset := fun i v => gi_set t a i v hal
  have ht := fine_time hf (i := a) (by omega)
  have hmost : ∀ v i, i < g.length → ((i : Int) ∉ (top g).take k) → most g (t.set a v) i g.length = most g t i g.length := by
    intro v i hi hni
    refine most_congr ?_
    intro u hu hn
    rw [hset, if_neg]
    rintro rfl
    -- a user that is a: then i stands before a
    obtain ⟨q, hq, e⟩ := hg.pos hi
    have hb := top_behind g k hk (i : Int) (by rw [haI]; simpa using hn)
    exact hni hb
  refine ⟨⟨by simp [hm.len], ?_, ?_, ?_⟩, ?_⟩
  · intro i hi hni
    rw [hmost _ i hi hni]
    rw [hset]
    split
    · subst i; omega
    · refine hm.old i hi ?_
      rw [htk]
      rintro (h1 | h1)
      · exact hni h1
      · omega
  · intro i hi
    rw [hset]
    split
    · have := most_nonneg g t a g.length; omega
    · exact hm.lo i hi
  · intro i hi
    rw [hset]
    split
    · have : most g t a g.length ≤ 20 * ((top g).length - (k + 1)) := by
        refine maxL_le (by omega) ?_
        intro y hy
        rw [List.mem_map] at hy
        obtain ⟨u, hu, rfl⟩ := hy
        simp only [List.mem_filter, List.mem_range] at hu
        exact_mod_cast hm.hi u hu.1
      omega
    · have := hm.hi i hi; omega
  · intro i hi hmem
    rw [hset, if_neg]
    · exact hm.new i hi ((htk _).2 (.inl hmem))
    · rintro rfl
      exact hnot hmem

/-- the program's round at task a: first its own tail, then its needs' -/
def pushed (g : List T) (t : List Int) (a p : Nat) (t' : List Int) : Prop :=
  t'.length = t.length ∧ ∀ i, i < g.length → gi t' i = if (i : Int) ∈ (need g a).take p then max (gi t i) (gi t a + timeOf g a) else if i = a then gi t a + timeOf g a else gi t i
theorem TailImpl.step {g : List T} {k : Nat} {t t' : List Int} (hf : fine g = true) (hg : Full g) (hm : TailImpl g (k + 1) t) (hk : k < (top g).length)
    (hp : pushed g t (top g)[k].toNat (need g (top g)[k].toNat).length t') : TailImpl g k t' := by
  have hr := top_range hk
  have hub := fun {u : Nat} (hn : (top g)[k] ∈ need g u) => user_behind hk hn
  have hnu := notUser hk
  have hnot := top_take_not hk
  have htk := fun x => take_succ_mem hk x
  have hb := top_behind g k hk
  generalize ha : (top g)[k].toNat = a at *
  have haI : (top g)[k] = (a : Int) := by omega
  rw [haI] at hub hnu hnot htk
  obtain ⟨hl, hp⟩ := hp
  rw [List.take_length] at hp
  have ht := fine_time hf (i := a) (by omega)
  -- what is done, and a, are not needs of a
  have hdone : ∀ i, i < g.length → (i : Int) ∉ (top g).take k → (i : Int) ∉ need g a := fun i _ h1 h2 => h1 (hb _ h2)
  have hga : gi t' a = gi t a + timeOf g a := by rw [hp a (by omega), if_neg hnu, if_pos rfl]
  have hgd : ∀ i, i < g.length → (i : Int) ∉ (top g).take k → i ≠ a → gi t' i = gi t i := by
    intro i hi h1 h2
    rw [hp i hi, if_neg (hdone i hi h1), if_neg h2]
  have hall : ∀ i, i < g.length → (i : Int) ∉ (top g).take k → ∀ u, u < g.length → (i : Int) ∈ need g u → (u : Int) ∉ (top g).take k ∧ u ≠ a := by
    intro i hi hni u hu hn
    obtain ⟨q, hq, e⟩ := hg.pos hi
    have h1 := user_behind hq (by rw [e]; exact hn)
    have hqk : k ≤ q := by
      rcases Nat.lt_or_ge q k with h2 | h2
      · exfalso
        apply hni
        rw [← e]
        exact List.mem_iff_getElem.2 ⟨q, by rw [List.length_take]; omega, by rw [List.getElem_take]⟩
      · exact h2
    refine ⟨?_, ?_⟩
    · intro h2
      apply h1
      obtain ⟨r, hr2, e2⟩ := List.mem_iff_getElem.1 h2
      rw [List.length_take] at hr2
      rw [List.getElem_take] at e2
      rw [← e2]
      exact List.mem_iff_getElem.2 ⟨r, by rw [List.length_take]; omega, by rw [List.getElem_take]⟩
    · rintro rfl
      apply h1
      rw [← haI]
      exact List.mem_iff_getElem.2 ⟨k, by rw [List.length_take]; omega, by rw [List.getElem_take]⟩
  -- a's value is that of its users
  have hnewa := hm.new a (by omega) ((htk _).2 (.inr rfl))
  have hfa : maxL (((List.range g.length).filter fun u => (need g u).contains (a : Int) && !((top g).take (k + 1)).contains (u : Int)).map (gi t)) = most g t a g.length := by
    unfold most
    congr 2
    apply List.filter_congr
    intro u hu
    rw [Bool.eq_iff_iff]
    simp only [Bool.and_eq_true, List.contains_iff_mem, Bool.not_eq_true', Bool.eq_false_iff, ne_eq]
    constructor
    · exact fun h => h.1
    · intro h
      exact ⟨h, fun h2 => hub h h2⟩
  rw [hfa] at hnewa
  refine ⟨⟨hl.trans hm.len, ?_, ?_, ?_⟩, ?_⟩
  · intro i hi hni
    have hmost : most g t' i g.length = most g t i g.length := by
      refine most_congr ?_
      intro u hu hn
      obtain ⟨h1, h2⟩ := hall i hi hni u hu hn
      exact hgd u hu h1 h2
    rw [hmost]
    by_cases e : i = a
    · subst e; rw [hga, hnewa]; omega
    · rw [hgd i hi hni e]
      refine hm.old i hi ?_
      rw [htk]
      rintro (h1 | h1)
      · exact hni h1
      · omega
  · intro i hi
    have h1 := hm.lo i hi
    have h2 := hm.lo a (by omega)
    rw [hp i hi]
    split
    · omega
    · split <;> omega
  · intro i hi
    have h1 := hm.hi i hi
    have h2 := hm.hi a (by omega)
    rw [hp i hi]
    split
    · omega
    · split <;> omega
  · intro i hi hmem
    have h1 := hm.new i hi ((htk _).2 (.inl hmem))
    have hia : i ≠ a := by rintro rfl; exact hnot hmem
    -- users among the done ones, a among them
    have key : ∀ u, u < g.length → (i : Int) ∈ need g u → (u : Int) ∉ (top g).take (k + 1) → gi t' u = gi t u := by
      intro u hu hn h2
      rw [htk] at h2
      exact hgd u hu (fun h3 => h2 (.inl h3)) (fun e => h2 (.inr (by rw [e])))
    symm
    rw [hp i hi]
    by_cases hna : (i : Int) ∈ need g a
    · rw [if_pos hna]
      refine maxL_eq ?_ ?_ ?_
      · have := hm.lo i hi; omega
      · intro x hx
        rw [List.mem_map] at hx
        obtain ⟨u, hu, rfl⟩ := hx
        simp only [List.mem_filter, List.mem_range, Bool.and_eq_true, List.contains_iff_mem, Bool.not_eq_true', Bool.eq_false_iff, ne_eq] at hu
        obtain ⟨hu1, hu2, hu3⟩ := hu
        by_cases e : u = a
        · subst e; rw [hga]; omega
        · rw [hgd u hu1 hu3 e]
          have : gi t u ≤ gi t i := by
            rw [h1]
            refine le_maxL ?_
            rw [List.mem_map]
            refine ⟨u, ?_, rfl⟩
            simp only [List.mem_filter, List.mem_range, Bool.and_eq_true, List.contains_iff_mem, Bool.not_eq_true', Bool.eq_false_iff, ne_eq]
            refine ⟨hu1, hu2, ?_⟩
            rw [htk]
            rintro (h3 | h3)
            · exact hu3 h3
            · omega
          omega
      · by_cases hle : gi t i ≤ gi t a + timeOf g a
        · right
          rw [Int.max_eq_right hle, ← hga, List.mem_map]
          refine ⟨a, ?_, rfl⟩
          simp only [List.mem_filter, List.mem_range, Bool.and_eq_true, List.contains_iff_mem, Bool.not_eq_true', Bool.eq_false_iff, ne_eq]
          exact ⟨by omega, hna, hnot⟩
        · rw [Int.max_eq_left (by omega)]
          have h2 := maxL_mem (((List.range g.length).filter fun u => (need g u).contains (i : Int) && !((top g).take (k + 1)).contains (u : Int)).map (gi t))
          rw [← h1] at h2
          rcases h2 with h2 | h2
          · exact .inl h2
          · right
            rw [List.mem_map] at h2 ⊢
            obtain ⟨u, hu, e⟩ := h2
            simp only [List.mem_filter, List.mem_range, Bool.and_eq_true, List.contains_iff_mem, Bool.not_eq_true', Bool.eq_false_iff, ne_eq] at hu
            obtain ⟨hu1, hu2, hu3⟩ := hu
            refine ⟨u, ?_, ?_⟩
            · simp only [List.mem_filter, List.mem_range, Bool.and_eq_true, List.contains_iff_mem, Bool.not_eq_true', Bool.eq_false_iff, ne_eq]
              exact ⟨hu1, hu2, fun h3 => hu3 ((htk _).2 (.inl h3))⟩
            · rw [key u hu1 hu2 hu3, e]
    · rw [if_neg hna, if_neg hia, h1]
      have hfl : ((List.range g.length).filter fun u => (need g u).contains (i : Int) && !((top g).take k).contains (u : Int)) = ((List.range g.length).filter fun u => (need g u).contains (i : Int) && !((top g).take (k + 1)).contains (u : Int)) := by
        apply List.filter_congr
        intro u hu
        rw [Bool.eq_iff_iff]
        simp only [Bool.and_eq_true, List.contains_iff_mem, Bool.not_eq_true', Bool.eq_false_iff, ne_eq]
        constructor
        · rintro ⟨h2, h3⟩
          refine ⟨h2, ?_⟩
          rw [htk]
          rintro (h4 | h4)
          · exact h3 h4
          · have : u = a := by omega
            subst this
            exact hna h2
        · rintro ⟨h2, h3⟩
          exact ⟨h2, fun h4 => h3 ((htk _).2 (.inl h4))⟩
      rw [hfl]
      refine maxL_congr _ _ _ ?_
      intro u hu
      simp only [List.mem_filter, List.mem_range, Bool.and_eq_true, List.contains_iff_mem, Bool.not_eq_true', Bool.eq_false_iff, ne_eq] at hu
      exact key u hu.1 hu.2.1 hu.2.2
/-- the search for the next task: the first k tasks are no use, or the last of them is the next -/
def Look (g : List T) (out : List Int) (k : Nat) (nx : Int) : Prop :=
  (nx = -1 ∧ ∀ j, j < k → okNext g out j = false) ∨ ∃ m, k = m + 1 ∧ nx = (m : Int) ∧ nxt g out = some m
theorem Look.start (g : List T) (out : List Int) : Look g out 0 (-1) := .inl ⟨rfl, by intro j h; omega⟩
theorem find_first {n : Nat} {p : Nat → Bool} {k : Nat} (hk : k < n) (h : ∀ j, j < k → p j = false) (hp : p k = true) : (List.range n).find? p = some k := by
  rw [List.find?_eq_some_iff_getElem]
  exact ⟨hp, k, by simpa using hk, by simp, by intro j hj; simp [h j hj]⟩
theorem Look.no {g : List T} {out : List Int} {k : Nat} (h : Look g out k (-1)) (hn : okNext g out k = false) : Look g out (k + 1) (-1) := by
  rcases h with ⟨_, h⟩ | ⟨m, _, h, _⟩
  · refine .inl ⟨rfl, ?_⟩
    intro j hj
    by_cases e : j < k
    · exact h j e
    · have : j = k := by omega
      subst this
      exact hn
  · omega
theorem Look.yes {g : List T} {out : List Int} {k : Nat} (h : Look g out k (-1)) (hk : k < g.length) (hn : okNext g out k = true) : Look g out (k + 1) (k : Int) := by
  rcases h with ⟨_, h⟩ | ⟨m, _, h, _⟩
  · exact .inr ⟨k, rfl, rfl, find_first hk h hn⟩
  · omega
theorem Look.none_ {g : List T} {out : List Int} {k : Nat} {nx : Int} (h : Look g out k nx) (hk : g.length ≤ k) (hx : nx < 0) : nxt g out = none := by
  rcases h with ⟨_, h⟩ | ⟨m, _, h, _⟩
  · unfold nxt
    rw [List.find?_eq_none]
    intro j hj
    rw [h j (by have := List.mem_range.1 hj; omega)]
    simp
  · omega
theorem Look.some_ {g : List T} {out : List Int} {k : Nat} {nx : Int} (h : Look g out k nx) (hx : 0 ≤ nx) : nxt g out = some nx.toNat := by
  rcases h with ⟨h, _⟩ | ⟨m, _, h, h'⟩
  · omega
  · rw [h', h]; simp
theorem need_eq {g : List T} {k : Nat} (hk : k < g.length) : need g k = g[k].needs := by unfold need; rw [List.getElem?_eq_getElem hk]
theorem timeOf_eq {g : List T} {k : Nat} (hk : k < g.length) : timeOf g k = g[k].time := by unfold timeOf; rw [List.getElem?_eq_getElem hk]
theorem okNext_eq {g : List T} {out : List Int} {k : Nat} (hk : k < g.length) : okNext g out k = (!out.contains (k : Int) && g[k].needs.all fun x => out.contains x) := by
  unfold okNext; rw [need_eq hk]
def nxtI (g : List T) (out : List Int) : Int := match nxt g out with | none => -1 | some i => (i : Int)
def topL (g : List T) : List Int := if valid g then top g else []
def stuckL (g : List T) : List Int := if fine g then pick g.length (fun i => !(top g).contains (i : Int)) else []
theorem andNot_zero (s d : Nat) (hs : s < 256) (hd : d < 256) : (s &&& (18446744073709551615 - d) = 0) ↔ ∀ i, i < 8 → s.testBit i = true → d.testBit i = true := by
  have hb : ∀ i, (18446744073709551615 - d).testBit i = (decide (i < 64) && !d.testBit i) := by
    intro i
    have := Nat.testBit_two_pow_sub_succ (n := 64) (x := d) (by omega) i
    rw [← this]
    congr 1
    omega
  constructor
  · intro h i hi h1
    have h2 : (s &&& (18446744073709551615 - d)).testBit i = false := by rw [h]; simp
    rw [Nat.testBit_and, h1, hb] at h2
    simp only [Bool.true_and, Bool.and_eq_false_iff, Bool.not_eq_false', decide_eq_false_iff_not] at h2
    rcases h2 with h2 | h2
    · omega
    · exact h2
  · intro h
    apply Nat.eq_of_testBit_eq
    intro i
    rw [Nat.testBit_and, hb, Nat.zero_testBit]
    by_cases hi : i < 8
    · cases h1 : s.testBit i
      · rfl
      · rw [h i hi h1]; simp
    · have : s.testBit i = false := Nat.testBit_lt_two_pow (Nat.lt_of_lt_of_le hs (by have := Nat.pow_le_pow_right (n := 2) (by omega) (show 8 ≤ i by omega); omega))
      rw [this]
      rfl
theorem bits_sub (l d : List Int) (hl : ∀ x ∈ l, 0 ≤ x ∧ x < 8) (hd : ∀ x ∈ d, 0 ≤ x ∧ x < 8) : (bits l &&& (18446744073709551615 - bits d) = 0) ↔ (l.all fun x => d.contains x) = true := by
  rw [andNot_zero _ _ (bits_lt l hl) (bits_lt d hd), List.all_eq_true]
  constructor
  · intro h x hx
    have hx8 := hl x hx
    have := h x.toNat (by omega) (by rw [bits_test l (fun y hy => (hl y hy).1), List.contains_iff_mem, show ((x.toNat : Nat) : Int) = x from by omega]; exact hx)
    rw [bits_test d (fun y hy => (hd y hy).1), show ((x.toNat : Nat) : Int) = x from by omega] at this
    exact this
  · intro h i hi h1
    rw [bits_test l (fun y hy => (hl y hy).1), List.contains_iff_mem] at h1
    rw [bits_test d (fun y hy => (hd y hy).1)]
    exact h _ h1
theorem Dist.eight {n : Nat} {out : List Int} (h : Dist n out) (hn : n ≤ 8) : ∀ x ∈ out, 0 ≤ x ∧ x < 8 := fun x hx => by have := h.2 x hx; omega
theorem Look.neg {g : List T} {out : List Int} {k : Nat} {q : Int} (h : Look g out k q) (hq : q < 0) : q = -1 := by rcases h with ⟨e, _⟩ | ⟨m, _, e, _⟩ <;> omega
theorem Look.ans {g : List T} {out : List Int} {k : Nat} (h : Look g out k (-1)) (hk : g.length ≤ k) : nxtI g out = -1 := by
  unfold Bs.nxtI; rw [h.none_ hk (by omega)]
theorem Look.ans_yes {g : List T} {out : List Int} {k : Nat} (h : Look g out k (-1)) (hk : k < g.length) (hn : okNext g out k = true) : nxtI g out = k := by
  have := (h.yes hk hn).some_ (by omega)
  unfold Bs.nxtI; rw [this]; simp
theorem need_eight {g : List T} (hf : fine g = true) {k : Nat} (hk : k < g.length) : ∀ x ∈ g[k].needs, 0 ≤ x ∧ x < 8 := by
  intro x hx
  have h1 := fine_need hf (i := k) (x := x) (by rw [need_eq hk]; exact hx)
  have h2 := fine_len hf
  omega
theorem pick_snoc (n : Nat) (p : Nat → Bool) (h : p n = true) : pick (n + 1) p = pick n p ++ [(n : Int)] := by rw [pick_succ, if_pos h]
theorem pick_skip (n : Nat) (p : Nat → Bool) (h : p n = false) : pick (n + 1) p = pick n p := by rw [pick_succ, h]; rfl
end Go.Proofs.Ytiokblodjhmjmab.Bs
