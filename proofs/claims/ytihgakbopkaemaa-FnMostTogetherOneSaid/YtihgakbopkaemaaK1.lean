/-
  MERGED TEXTS: Math Mem W1 W2 W3 W4 W5 Mem2 Mem3.
-/
import Derived.WalkKit
import Derived.BigQuiet
import Derived.Deep.QuietTactic
import Derived.Lib.Hide
import Derived.Laws.BitsAllLaws
import Derived.Test.YtihgakbopkaemaaProg
import Derived.ArgAppend
namespace Go.Proofs.Ytihgakbopkaemaa.Bs

/-- A task as plain data. -/
structure T where
  time : Int
  needs : List Int
  pool : Int
  units : Int

/-- ascending behind a number -/
def ascF : Int → List Int → Bool
  | _, [] => true
  | a, x :: r => decide (a < x) && ascF x r
def asc : List Int → Bool
  | [] => true
  | x :: r => ascF x r
def allInB (l : List Int) (lo hi : Int) : Bool := l.all fun x => decide (lo ≤ x ∧ x ≤ hi)

theorem ascF_iff (a : Int) (l : List Int) : ascF a l = true ↔ (∀ (h : 0 < l.length), a < l[0]) ∧ ∀ k (h : k + 1 < l.length), l[k] < l[k + 1] := by
  induction l generalizing a with
  | nil => simp [ascF]
  | cons x r ih =>
    simp only [ascF, Bool.and_eq_true, decide_eq_true_eq, ih, List.length_cons]
    constructor
    · rintro ⟨h1, h2, h3⟩
      refine ⟨fun _ => by simpa using h1, ?_⟩
      intro k h
      cases k with
      | zero => simpa using h2 (by omega)
      | succ k => simpa using h3 k (by omega)
    · rintro ⟨h1, h2⟩
      refine ⟨by simpa using h1 (by omega), ?_, ?_⟩
      · intro h; exact h2 0 (by omega)
      · intro k h; exact h2 (k + 1) (by omega)
theorem asc_iff (l : List Int) : asc l = true ↔ ∀ k (h : k + 1 < l.length), l[k] < l[k + 1] := by
  cases l with
  | nil => simp [asc]
  | cons x r =>
    simp only [asc, ascF_iff]
    constructor
    · rintro ⟨h1, h2⟩ k h
      cases k with
      | zero => simpa using h1 (by simpa using h)
      | succ k => simpa using h2 k (by simpa using h)
    · intro h
      refine ⟨fun h1 => by simpa using h 0 (by simpa using h1), fun k hk => h (k + 1) (by simpa using hk)⟩
theorem ascF_eq (a : Int) (l : List Int) (h : ∀ x ∈ l, a < x) : ascF a l = asc l := by
  cases l with
  | nil => rfl
  | cons x r => simp [ascF, asc, h x (by simp)]

/-- a task that is fine among n -/
def validT (n : Int) (t : T) : Bool :=
  decide (1 ≤ t.time ∧ t.time ≤ 20) && decide (0 ≤ t.pool ∧ t.pool ≤ 2) && decide (1 ≤ t.units ∧ t.units ≤ 4) && allInB t.needs 0 (n - 1) && asc t.needs
theorem validT_iff (n : Int) (t : T) : validT n t = true ↔ 1 ≤ t.time ∧ t.time ≤ 20 ∧ 0 ≤ t.pool ∧ t.pool ≤ 2 ∧ 1 ≤ t.units ∧ t.units ≤ 4 ∧ (allInB t.needs 0 (n - 1) && asc t.needs) = true := by
  simp only [validT, Bool.and_eq_true, decide_eq_true_eq]
  constructor
  · rintro ⟨⟨⟨⟨h1, h2⟩, h3⟩, h4⟩, h5⟩; exact ⟨h1.1, h1.2, h2.1, h2.2, h3.1, h3.2, h4, h5⟩
  · rintro ⟨h1, h2, h3, h4, h5, h6, h7, h8⟩; exact ⟨⟨⟨⟨⟨h1, h2⟩, h3, h4⟩, h5, h6⟩, h7⟩, h8⟩
def fine (g : List T) : Bool := g.all (validT g.length) && decide (g.length ≤ 8)

def need (g : List T) (i : Nat) : List Int := match g[i]? with | some t => t.needs | none => []
/-- may task i come next? -/
def okNext (g : List T) (out : List Int) (i : Nat) : Bool := !out.contains (i : Int) && (need g i).all fun x => out.contains x
def nxt (g : List T) (out : List Int) : Option Nat := (List.range g.length).find? (okNext g out)
def ord (g : List T) : Nat → List Int → List Int
  | 0, out => out
  | k + 1, out => match nxt g out with
    | none => out
    | some i => ord g k (out ++ [(i : Int)])
def top (g : List T) : List Int := ord g g.length []
def valid (g : List T) : Bool := fine g && decide ((top g).length = g.length)

/-- a list of distinct task numbers -/
def Dist (n : Nat) (out : List Int) : Prop := out.Nodup ∧ ∀ x ∈ out, 0 ≤ x ∧ x < n

theorem Dist.nil (n : Nat) : Dist n [] := ⟨List.nodup_nil, by simp⟩
theorem nodup_bound : ∀ (n : Nat) (l : List Nat), l.Nodup → (∀ x ∈ l, x < n) → l.length ≤ n := by
  intro n
  induction n with
  | zero => intro l _ h; cases l with
    | nil => simp
    | cons x r => exact absurd (h x (by simp)) (by omega)
  | succ n ih =>
    intro l hn h
    have h1 := ih (l.filter (· ≠ n)) (hn.filter _) (by
      intro x hx
      simp only [List.mem_filter, decide_eq_true_eq, ne_eq] at hx
      have := h x hx.1
      omega)
    have h2 : l.length ≤ (l.filter (· ≠ n)).length + 1 := by
      clear h1 ih h
      induction l with
      | nil => simp
      | cons y r ih =>
        rw [List.nodup_cons] at hn
        by_cases e : y = n
        · subst e
          have : r.filter (· ≠ y) = r := by
            rw [List.filter_eq_self]
            intro a ha
            simp only [ne_eq, decide_eq_true_eq]
            rintro rfl
            exact hn.1 ha
          have h3 : (List.filter (fun x => decide (x ≠ y)) (y :: r)) = List.filter (· ≠ y) r := by simp
          rw [h3, this]; simp
        · have h3 := ih hn.2
          have h4 : (List.filter (fun x => decide (x ≠ n)) (y :: r)) = y :: List.filter (· ≠ n) r := by simp [e]
          rw [h4]; simp only [List.length_cons]; omega
    omega
theorem Dist.natify {n : Nat} {out : List Int} (h : Dist n out) : (out.map Int.toNat).Nodup ∧ ∀ x ∈ out.map Int.toNat, x < n := by
  constructor
  · obtain ⟨h1, h2⟩ := h
    induction out with
    | nil => simp
    | cons y r ih =>
      rw [List.nodup_cons] at h1
      rw [List.map_cons, List.nodup_cons]
      refine ⟨?_, ih h1.2 (fun x hx => h2 x (by simp [hx]))⟩
      intro hm
      rw [List.mem_map] at hm
      obtain ⟨z, hz, he⟩ := hm
      have a := h2 z (by simp [hz])
      have b := h2 y (by simp)
      have : z = y := by omega
      subst this
      exact h1.1 hz
  · intro x hx
    rw [List.mem_map] at hx
    obtain ⟨z, hz, rfl⟩ := hx
    have := h.2 z hz
    omega
theorem Dist.le {n : Nat} {out : List Int} (h : Dist n out) : out.length ≤ n := by
  obtain ⟨h1, h2⟩ := h.natify
  have := nodup_bound n _ h1 h2
  simpa using this
theorem Dist.full {n : Nat} {out : List Int} (h : Dist n out) (hf : out.length = n) (i : Nat) (hi : i < n) : (i : Int) ∈ out := by
  rcases Classical.em ((i : Int) ∈ out) with hm | hm
  · exact hm
  · have h1 : Dist n (out ++ [(i : Int)]) := by
      refine ⟨?_, ?_⟩
      · rw [List.nodup_append]
        refine ⟨h.1, by simp, ?_⟩
        intro a ha b hb
        simp only [List.mem_singleton] at hb
        subst hb
        rintro rfl
        exact hm ha
      · intro x hx
        rw [List.mem_append] at hx
        rcases hx with hx | hx
        · exact h.2 x hx
        · simp only [List.mem_singleton] at hx; subst hx; omega
    have := h1.le
    simp at this
    omega
theorem okNext_some {g : List T} {out : List Int} {i : Nat} (h : nxt g out = some i) : i < g.length ∧ (i : Int) ∉ out ∧ ∀ x ∈ need g i, x ∈ out := by
  unfold nxt at h
  have h1 := List.find?_some h
  have h2 := List.mem_of_find?_eq_some h
  unfold okNext at h1
  simp at h1 h2
  exact ⟨h2, h1.1, h1.2⟩
theorem Dist.snoc {g : List T} {out : List Int} {i : Nat} (h : Dist g.length out) (hn : nxt g out = some i) : Dist g.length (out ++ [(i : Int)]) := by
  obtain ⟨h1, h2, _⟩ := okNext_some hn
  refine ⟨?_, ?_⟩
  · rw [List.nodup_append]
    refine ⟨h.1, by simp, ?_⟩
    intro a ha b hb
    simp only [List.mem_singleton] at hb
    subst hb
    rintro rfl
    exact h2 ha
  · intro x hx
    rw [List.mem_append] at hx
    rcases hx with hx | hx
    · exact h.2 x hx
    · simp only [List.mem_singleton] at hx; subst hx; omega
theorem nxt_full {g : List T} {out : List Int} (h : Dist g.length out) (hf : out.length = g.length) : nxt g out = none := by
  cases hn : nxt g out with
  | none => rfl
  | some i =>
    have := (h.snoc hn).le
    simp at this
    omega
theorem nxt_lt {g : List T} {out : List Int} {i : Nat} (h : Dist g.length out) (hn : nxt g out = some i) : out.length < g.length := by
  have := (h.snoc hn).le
  simp at this
  omega

/-- the loop's invariant of both programs -/
def Mid (g : List T) (out : List Int) : Prop := Dist g.length out ∧ ord g (g.length - out.length) out = top g
theorem Mid.start (g : List T) : Mid g [] := ⟨Dist.nil _, by simp [top]⟩
theorem Mid.step {g : List T} {out : List Int} {i : Nat} (h : Mid g out) (hn : nxt g out = some i) : Mid g (out ++ [(i : Int)]) := by
  refine ⟨h.1.snoc hn, ?_⟩
  have hl := nxt_lt h.1 hn
  rw [← h.2]
  obtain ⟨k, hk⟩ : ∃ k, g.length - out.length = k + 1 := ⟨g.length - out.length - 1, by omega⟩
  have h2 : g.length - (out ++ [(i : Int)]).length = k := by simp; omega
  rw [hk, h2]
  simp [ord, hn]
theorem Mid.stop {g : List T} {out : List Int} (h : Mid g out) (hn : nxt g out = none) : out = top g := by
  rw [← h.2]
  cases hk : g.length - out.length with
  | zero => rfl
  | succ k => simp [ord, hn]
theorem Mid.full {g : List T} {out : List Int} (h : Mid g out) (hn : g.length ≤ out.length) : out = top g := by
  have := h.1.le
  exact h.stop (nxt_full h.1 (by omega))
theorem ord_dist (g : List T) : ∀ k out, Dist g.length out → Dist g.length (ord g k out) := by
  intro k
  induction k with
  | zero => intro out h; exact h
  | succ k ih =>
    intro out h
    unfold ord
    cases hn : nxt g out with
    | none => exact h
    | some i => exact ih _ (h.snoc hn)
theorem top_dist (g : List T) : Dist g.length (top g) := ord_dist g _ _ (Dist.nil _)

/-- sets of task numbers as bits -/
def bits (l : List Int) : Nat := l.foldl (fun s a => s ||| (1 <<< a.toNat)) 0
theorem bits_snoc (l : List Int) (a : Int) : bits (l ++ [a]) = bits l ||| (1 <<< a.toNat) := by simp [bits]
theorem bits_test (l : List Int) (hl : ∀ x ∈ l, 0 ≤ x) (i : Nat) : (bits l).testBit i = l.contains (i : Int) := by
  rw [Bool.eq_iff_iff]
  suffices h : ∀ (l : List Int) (s : Nat), (∀ x ∈ l, 0 ≤ x) → ((l.foldl (fun s a => s ||| (1 <<< a.toNat)) s).testBit i = true ↔ s.testBit i = true ∨ (i : Int) ∈ l) by
    have := h l 0 hl
    simpa [bits] using this
  clear hl l
  intro l
  induction l with
  | nil => intro s _; simp
  | cons x r ih =>
    intro s hl
    rw [List.foldl_cons, ih _ (fun y hy => hl y (by simp [hy]))]
    have hx := hl x (by simp)
    simp only [Nat.testBit_or, Bool.or_eq_true, List.mem_cons, Nat.one_shiftLeft, Nat.testBit_two_pow, decide_eq_true_eq]
    constructor
    · rintro ((h | h) | h)
      · exact .inl h
      · exact .inr (.inl (by omega))
      · exact .inr (.inr h)
    · rintro (h | h | h)
      · exact .inl (.inl h)
      · exact .inl (.inr (by omega))
      · exact .inr h
theorem bits_lt (l : List Int) (hl : ∀ x ∈ l, 0 ≤ x ∧ x < 8) : bits l < 256 := by
  suffices h : ∀ (l : List Int) (s : Nat), s < 2 ^ 8 → (∀ x ∈ l, 0 ≤ x ∧ x < 8) → l.foldl (fun s a => s ||| (1 <<< a.toNat)) s < 2 ^ 8 by
    exact h l 0 (by omega) hl
  clear hl l
  intro l
  induction l with
  | nil => intro s h _; exact h
  | cons x r ih =>
    intro s hs hl
    rw [List.foldl_cons]
    refine ih _ ?_ (fun y hy => hl y (by simp [hy]))
    have hx := hl x (by simp)
    refine Nat.or_lt_two_pow hs ?_
    rw [Nat.one_shiftLeft]
    exact Nat.pow_lt_pow_right (by omega) (by omega)

def timeOf (g : List T) (i : Nat) : Int := match g[i]? with | some t => t.time | none => 0

/-- each number of the order has all its needs before it -/
def Behind (g : List T) (out : List Int) : Prop := ∀ k (h : k < out.length), ∀ x ∈ need g out[k].toNat, x ∈ out.take k
theorem Behind.nil (g : List T) : Behind g [] := by intro k h; simp at h
theorem Behind.snoc {g : List T} {out : List Int} {i : Nat} (h : Behind g out) (hn : nxt g out = some i) : Behind g (out ++ [(i : Int)]) := by
  obtain ⟨_, _, h3⟩ := okNext_some hn
  intro k hk x hx
  by_cases e : k < out.length
  · rw [List.getElem_append_left e] at hx
    rw [List.take_append_of_le_length (by omega)]
    exact h k e x hx
  · have : k = out.length := by simp at hk; omega
    subst this
    simp at hx
    simpa using h3 x hx
theorem ord_behind (g : List T) : ∀ k out, Behind g out → Behind g (ord g k out) := by
  intro k
  induction k with
  | zero => intro out h; exact h
  | succ k ih =>
    intro out h
    unfold ord
    cases hn : nxt g out with
    | none => exact h
    | some i => exact ih _ (h.snoc hn)
theorem top_behind (g : List T) : Behind g (top g) := ord_behind g _ _ (Behind.nil _)

/-- all tasks are in the order -/
def Full (g : List T) : Prop := (top g).length = g.length
theorem valid_iff (g : List T) : valid g = true ↔ fine g = true ∧ Full g := by simp [valid, Full]
theorem Full.mem {g : List T} (h : Full g) {i : Nat} (hi : i < g.length) : (i : Int) ∈ top g := (top_dist g).full h i hi
theorem Full.pos {g : List T} (h : Full g) {i : Nat} (hi : i < g.length) : ∃ k, ∃ hk : k < (top g).length, (top g)[k] = (i : Int) := by
  obtain ⟨k, hk, e⟩ := List.mem_iff_getElem.1 (h.mem hi)
  exact ⟨k, hk, e⟩
theorem top_range {g : List T} {k : Nat} (hk : k < (top g).length) : 0 ≤ (top g)[k] ∧ (top g)[k] < g.length := (top_dist g).2 _ (List.getElem_mem hk)
theorem top_inj {g : List T} {i j : Nat} (hi : i < (top g).length) (hj : j < (top g).length) (h : (top g)[i] = (top g)[j]) : i = j := by
  have := (top_dist g).1
  rw [List.nodup_iff_pairwise_ne, List.pairwise_iff_getElem] at this
  rcases Nat.lt_trichotomy i j with h1 | h1 | h1
  · exact absurd h (this i j hi hj h1)
  · exact h1
  · exact absurd h.symm (this j i hj hi h1)

/-- needs of a task are tasks -/
theorem fine_need {g : List T} (h : fine g = true) {i : Nat} {x : Int} (hx : x ∈ need g i) : 0 ≤ x ∧ x < g.length := by
  unfold need at hx
  cases hg : g[i]? with
  | none => rw [hg] at hx; simp at hx
  | some t =>
    rw [hg] at hx
    simp only [fine, Bool.and_eq_true, List.all_eq_true] at h
    have h1 := h.1 t (List.mem_of_getElem? hg)
    simp only [validT, allInB, Bool.and_eq_true, List.all_eq_true, decide_eq_true_eq] at h1
    have := h1.1.2 x hx
    omega
theorem fine_time {g : List T} (h : fine g = true) {i : Nat} (hi : i < g.length) : 1 ≤ timeOf g i ∧ timeOf g i ≤ 20 := by
  unfold timeOf
  rw [List.getElem?_eq_getElem hi]
  simp only [fine, Bool.and_eq_true, List.all_eq_true] at h
  have h1 := h.1 g[i] (List.getElem_mem hi)
  simp only [validT, Bool.and_eq_true, decide_eq_true_eq] at h1
  exact h1.1.1.1.1
theorem fine_len {g : List T} (h : fine g = true) : g.length ≤ 8 := by
  simp only [fine, Bool.and_eq_true, decide_eq_true_eq] at h
  exact h.2

/-- induction along the needs -/
theorem need_ind {g : List T} (hg : Full g) (P : Nat → Prop) (h : ∀ i, i < g.length → (∀ x ∈ need g i, P x.toNat) → P i) : ∀ i, i < g.length → P i := by
  have key : ∀ n k (hk : k < (top g).length), k < n → P (top g)[k].toNat := by
    intro n
    induction n with
    | zero => intro k hk h0; omega
    | succ n ih =>
      intro k hk hkn
      have hr := top_range hk
      refine h _ (by omega) ?_
      intro x hx
      have hb := top_behind g k hk x hx
      obtain ⟨j, hj, e⟩ := List.mem_iff_getElem.1 hb
      rw [List.length_take] at hj
      have e2 : (top g)[j]'(by omega) = x := by rw [← e, List.getElem_take]
      rw [← e2]
      exact ih j (by omega) (by omega)
  intro i hi
  obtain ⟨k, hk, e⟩ := hg.pos hi
  have := key (k + 1) k hk (by omega)
  rw [e] at this
  simpa using this
/-- induction along the users -/
theorem user_ind {g : List T} (hg : Full g) (P : Nat → Prop) (h : ∀ i, i < g.length → (∀ k, k < g.length → (i : Int) ∈ need g k → P k) → P i) : ∀ i, i < g.length → P i := by
  have key : ∀ n k (hk : k < (top g).length), (top g).length - k ≤ n → P (top g)[k].toNat := by
    intro n
    induction n with
    | zero => intro k hk h0; omega
    | succ n ih =>
      intro k hk hkn
      have hr := top_range hk
      refine h _ (by omega) ?_
      intro u hu hx
      obtain ⟨j, hj, e⟩ := hg.pos hu
      have e3 : (top g)[j].toNat = u := by rw [e]; simp
      have hb := top_behind g j hj ((top g)[k]) (by rw [e3]; rw [show ((top g)[k].toNat : Int) = (top g)[k] from by omega] at hx; exact hx)
      obtain ⟨m, hm, e2⟩ := List.mem_iff_getElem.1 hb
      rw [List.length_take] at hm
      rw [List.getElem_take] at e2
      have := top_inj (g := g) (by omega) hk e2
      subst this
      rw [← e3]
      exact ih j hj (by omega)
  intro i hi
  obtain ⟨k, hk, e⟩ := hg.pos hi
  have := key ((top g).length - k) k hk (by omega)
  rw [e] at this
  simpa using this

/-- the greatest number of a list, at least 0 -/
def maxL (l : List Int) : Int := l.foldl max 0
theorem foldl_max (l : List Int) : ∀ s, s ≤ l.foldl max s ∧ (∀ x ∈ l, x ≤ l.foldl max s) ∧ (l.foldl max s = s ∨ l.foldl max s ∈ l) := by
  induction l with
  | nil => intro s; simp
  | cons x r ih =>
    intro s
    obtain ⟨h1, h2, h3⟩ := ih (max s x)
    rw [List.foldl_cons]
    refine ⟨by omega, ?_, ?_⟩
    · intro y hy
      rw [List.mem_cons] at hy
      rcases hy with rfl | hy
      · omega
      · exact h2 y hy
    · rcases h3 with h3 | h3
      · by_cases hx : s ≤ x
        · right; rw [h3, Int.max_eq_right hx]; simp
        · left; rw [h3]; omega
      · right; simp [h3]
theorem maxL_nonneg (l : List Int) : 0 ≤ maxL l := (foldl_max l 0).1
theorem le_maxL {l : List Int} {x : Int} (h : x ∈ l) : x ≤ maxL l := (foldl_max l 0).2.1 x h
theorem maxL_mem (l : List Int) : maxL l = 0 ∨ maxL l ∈ l := (foldl_max l 0).2.2
theorem maxL_le {l : List Int} {b : Int} (h0 : 0 ≤ b) (h : ∀ x ∈ l, x ≤ b) : maxL l ≤ b := by
  rcases maxL_mem l with e | e
  · omega
  · exact h _ e
theorem maxL_congr {α : Type} (l : List α) (f f' : α → Int) (h : ∀ x ∈ l, f x = f' x) : maxL (l.map f) = maxL (l.map f') := by
  rw [List.map_congr_left h]

/-- what heads are -/
def IsHead (g : List T) (f : Nat → Int) : Prop := ∀ i, i < g.length → f i = maxL ((need g i).map fun x => f x.toNat + timeOf g x.toNat)
def usersOf (g : List T) (i : Nat) : List Nat := (List.range g.length).filter fun k => (need g k).contains (i : Int)
def IsTail (g : List T) (f : Nat → Int) : Prop := ∀ i, i < g.length → f i = timeOf g i + maxL ((usersOf g i).map f)
theorem head_unique {g : List T} (hg : Full g) {f f' : Nat → Int} (h : IsHead g f) (h' : IsHead g f') : ∀ i, i < g.length → f i = f' i := by
  refine need_ind hg _ ?_
  intro i hi ih
  rw [h i hi, h' i hi]
  refine maxL_congr _ _ _ ?_
  intro x hx
  rw [ih x hx]
theorem mem_usersOf {g : List T} {i k : Nat} : k ∈ usersOf g i ↔ k < g.length ∧ (i : Int) ∈ need g k := by
  simp [usersOf]
theorem tail_unique {g : List T} (hg : Full g) {f f' : Nat → Int} (h : IsTail g f) (h' : IsTail g f') : ∀ i, i < g.length → f i = f' i := by
  refine user_ind hg _ ?_
  intro i hi ih
  rw [h i hi, h' i hi]
  rw [maxL_congr _ f f']
  intro k hk
  rw [mem_usersOf] at hk
  exact ih k hk.1 hk.2

/-- what a task needs, also by way of others -/
inductive Reach (g : List T) : Nat → Nat → Prop where
  | one {i j : Nat} : (j : Int) ∈ need g i → Reach g i j
  | via {i k j : Nat} : (k : Int) ∈ need g i → Reach g k j → Reach g i j
theorem Reach.lt {g : List T} (hf : fine g = true) {i j : Nat} (h : Reach g i j) : j < g.length := by
  induction h with
  | one h => have := fine_need hf h; omega
  | via _ _ ih => exact ih
theorem Reach.src {g : List T} {i j : Nat} (h : Reach g i j) : i < g.length := by
  have key : ∀ x : Int, x ∈ need g i → i < g.length := by
    intro x hx
    rcases Nat.lt_or_ge i g.length with h1 | h1
    · exact h1
    · unfold need at hx
      rw [List.getElem?_eq_none h1] at hx
      simp at hx
  cases h with
  | one h => exact key _ h
  | via h _ => exact key _ h
theorem Reach.trans {g : List T} {i j k : Nat} (h : Reach g i j) (h' : Reach g j k) : Reach g i k := by
  induction h with
  | one h => exact .via h h'
  | via h _ ih => exact .via h (ih h')
/-- in a full order a task's needs stand before it -/
theorem Reach.before {g : List T} {i j : Nat} (h : Reach g i j) : ∀ p (hp : p < (top g).length), (top g)[p] = (i : Int) → ∃ q, ∃ hq : q < (top g).length, q < p ∧ (top g)[q] = (j : Int) := by
  have step : ∀ (a b : Nat), (b : Int) ∈ need g a → ∀ p (hp : p < (top g).length), (top g)[p] = (a : Int) → ∃ q, ∃ hq : q < (top g).length, q < p ∧ (top g)[q] = (b : Int) := by
    intro a b hb p hp e
    have h1 := top_behind g p hp (b : Int) (by rw [e]; simpa using hb)
    obtain ⟨q, hq, e2⟩ := List.mem_iff_getElem.1 h1
    rw [List.length_take] at hq
    rw [List.getElem_take] at e2
    exact ⟨q, by omega, by omega, e2⟩
  induction h with
  | one h => exact step _ _ h
  | via h _ ih =>
    intro p hp e
    obtain ⟨q, hq, hqp, e2⟩ := step _ _ h p hp e
    obtain ⟨r, hr, hrq, e3⟩ := ih q hq e2
    exact ⟨r, hr, by omega, e3⟩
theorem Reach.irrefl {g : List T} (hf : Full g) {i : Nat} (h : Reach g i i) : False := by
  obtain ⟨p, hp, e⟩ := hf.pos h.src
  obtain ⟨q, hq, hqp, e2⟩ := h.before p hp e
  have := top_inj hq hp (e2.trans e.symm)
  omega

open Classical in
/-- AllNeeds as a list -/
noncomputable def needsL (g : List T) (i : Nat) : List Int := ((List.range g.length).filter fun j => decide (Reach g i j)).map fun j => ((j : Nat) : Int)
open Classical in
noncomputable def usersL (g : List T) (i : Nat) : List Int := ((List.range g.length).filter fun j => decide (Reach g j i)).map fun j => ((j : Nat) : Int)

/-- the numbers 0..n-1 that a test takes, as a list; built from the left -/
def pick (n : Nat) (p : Nat → Bool) : List Int := ((List.range n).filter p).map fun j => ((j : Nat) : Int)
theorem pick_zero (p : Nat → Bool) : pick 0 p = [] := rfl
theorem pick_succ (n : Nat) (p : Nat → Bool) : pick (n + 1) p = if p n then pick n p ++ [(n : Int)] else pick n p := by
  unfold pick
  rw [List.range_succ, List.filter_append, List.map_append]
  by_cases h : p n <;> simp [h]
theorem pick_congr (n : Nat) (p q : Nat → Bool) (h : ∀ i, i < n → p i = q i) : pick n p = pick n q := by
  unfold pick
  rw [List.filter_congr]
  intro x hx
  exact h x (by simpa using hx)
theorem pick_len (n : Nat) (p : Nat → Bool) : (pick n p).length ≤ n := by
  unfold pick
  rw [List.length_map]
  have := List.length_filter_le p (List.range n)
  simpa using this
theorem mem_pick (n : Nat) (p : Nat → Bool) (x : Int) : x ∈ pick n p ↔ ∃ j : Nat, j < n ∧ p j = true ∧ x = j := by
  unfold pick
  simp only [List.mem_map, List.mem_filter, List.mem_range]
  constructor
  · rintro ⟨j, ⟨h1, h2⟩, rfl⟩; exact ⟨j, h1, h2, rfl⟩
  · rintro ⟨j, h1, h2, rfl⟩; exact ⟨j, ⟨h1, h2⟩, rfl⟩
theorem mem_pick_nat (n : Nat) (p : Nat → Bool) (i : Nat) : (i : Int) ∈ pick n p ↔ i < n ∧ p i = true := by
  rw [mem_pick]
  constructor
  · rintro ⟨j, h1, h2, h3⟩
    have : i = j := by omega
    subst this
    exact ⟨h1, h2⟩
  · rintro ⟨h1, h2⟩; exact ⟨i, h1, h2, rfl⟩

/-- BFS of the model: seen numbers, of which the first k have been looked at -/
structure Bfs (g : List T) (at_ : Nat) (seen : List Int) (k : Nat) : Prop where
  dist : Dist g.length seen
  here : (at_ : Int) ∈ seen
  only : ∀ x ∈ seen, x = (at_ : Int) ∨ Reach g at_ x.toNat
  done : ∀ i (h : i < seen.length), i < k → ∀ x ∈ need g seen[i].toNat, x ∈ seen
theorem Bfs.start {g : List T} {at_ : Nat} (h : at_ < g.length) : Bfs g at_ [(at_ : Int)] 0 :=
  ⟨⟨by simp, by intro x hx; simp at hx; subst hx; omega⟩, by simp, by intro x hx; simp at hx; exact .inl hx, by intro i _ h; omega⟩
theorem Bfs.all {g : List T} {at_ : Nat} {seen : List Int} {k : Nat} (h : Bfs g at_ seen k) (hk : seen.length ≤ k) (j : Nat) (hr : Reach g at_ j) : (j : Int) ∈ seen := by
  have key : ∀ i j, Reach g i j → (i : Int) ∈ seen → (j : Int) ∈ seen := by
    intro i j hr
    induction hr with
    | @one i j hn =>
      intro hi
      obtain ⟨p, hp, e⟩ := List.mem_iff_getElem.1 hi
      exact h.done p hp (by omega) _ (by rw [e]; simpa using hn)
    | @via i k j hn _ ih =>
      intro hi
      obtain ⟨p, hp, e⟩ := List.mem_iff_getElem.1 hi
      exact ih (h.done p hp (by omega) _ (by rw [e]; simpa using hn))
  exact key _ _ hr h.here
theorem Bfs.iff {g : List T} {at_ : Nat} {seen : List Int} {k : Nat} (h : Bfs g at_ seen k) (hg : Full g) (hk : seen.length ≤ k) (j : Nat) : (j ≠ at_ ∧ (j : Int) ∈ seen) ↔ Reach g at_ j := by
  constructor
  · rintro ⟨h1, h2⟩
    rcases h.only _ h2 with e | e
    · omega
    · simpa using e
  · intro hr
    refine ⟨?_, h.all hk j hr⟩
    rintro rfl
    exact hr.irrefl hg

def gi (l : List Int) (i : Nat) : Int := l.getD i 0
theorem gi_set (l : List Int) (a i : Nat) (v : Int) (h : a < l.length) : gi (l.set a v) i = if i = a then v else gi l i := by
  unfold gi
  simp only [List.getD_eq_getElem?_getD, List.getElem?_set]
  by_cases e : a = i
  · subst e; simp [h]
  · simp [e, Ne.symm e]
theorem gi_zero (n i : Nat) : gi (List.replicate n 0) i = 0 := by
  unfold gi
  simp only [List.getD_eq_getElem?_getD, List.getElem?_replicate]
  split <;> rfl

theorem maxL_snoc (l : List Int) (x : Int) : maxL (l ++ [x]) = max (maxL l) x := by simp [maxL, List.foldl_append]
theorem maxL_eq {l : List Int} {m : Int} (h0 : 0 ≤ m) (hle : ∀ x ∈ l, x ≤ m) (hmem : m = 0 ∨ m ∈ l) : maxL l = m := by
  have h1 := maxL_le h0 hle
  rcases hmem with e | e
  · have := maxL_nonneg l; omega
  · have := le_maxL e; omega

/-- one step of the heads: task a, all of whose needs are done -/
def headAt (g : List T) (h : List Int) (a p : Nat) : Int := maxL (((need g a).take p).map fun x => gi h x.toNat + timeOf g x.toNat)
structure HeadMid (g : List T) (k : Nat) (h : List Int) : Prop where
  len : h.length = g.length
  old : ∀ i, i < g.length → (i : Int) ∈ (top g).take k → gi h i = maxL ((need g i).map fun x => gi h x.toNat + timeOf g x.toNat)
  new : ∀ i, i < g.length → (i : Int) ∉ (top g).take k → gi h i = 0
  lo : ∀ i, i < g.length → 0 ≤ gi h i
  hi : ∀ i, i < g.length → gi h i ≤ 20 * k
theorem HeadMid.start (g : List T) : HeadMid g 0 (List.replicate g.length 0) :=
  ⟨by simp, by intro i _ h; simp at h, fun i _ _ => gi_zero _ _, fun i _ => by rw [gi_zero]; omega, fun i _ => by rw [gi_zero]; omega⟩
theorem take_succ_mem {l : List Int} {k : Nat} (hk : k < l.length) (x : Int) : x ∈ l.take (k + 1) ↔ x ∈ l.take k ∨ x = l[k] := by
  rw [List.take_succ_eq_append_getElem hk]; simp only [List.mem_append, List.mem_singleton]
theorem top_take_not {g : List T} {k : Nat} (hk : k < (top g).length) : (top g)[k] ∉ (top g).take k := by
  intro h
  obtain ⟨q, hq, e⟩ := List.mem_iff_getElem.1 h
  rw [List.length_take] at hq
  rw [List.getElem_take] at e
  have := top_inj (g := g) (by omega) hk e
  omega
theorem HeadMid.notSelf {g : List T} {k : Nat} (hk : k < (top g).length) : ∀ x ∈ need g (top g)[k].toNat, x.toNat ≠ (top g)[k].toNat := by
  intro x hx e
  have hb := top_behind g k hk x hx
  have h1 := top_range hk
  have h2 : 0 ≤ x := by
    obtain ⟨q, hq, e⟩ := List.mem_iff_getElem.1 hb
    rw [List.length_take] at hq
    rw [List.getElem_take] at e
    have := top_range (g := g) (k := q) (by omega)
    omega
  have : x = (top g)[k] := by omega
  subst this
  exact top_take_not hk hb
theorem HeadMid.step {g : List T} {k : Nat} {h : List Int} (hf : fine g = true) (hm : HeadMid g k h) (hk : k < (top g).length) :
    HeadMid g (k + 1) (h.set (top g)[k].toNat (headAt g h (top g)[k].toNat (need g (top g)[k].toNat).length)) := by
  have hr := top_range hk
  have hn := HeadMid.notSelf hk
  have hnot := top_take_not hk
  have hb := top_behind g k hk
  generalize ha : (top g)[k].toNat = a at *
  have haI : (top g)[k] = (a : Int) := by omega
  have hal : a < h.length := by rw [hm.len]; omega
  have hset := fun i v => gi_set h a i v hal
  have hkeep : ∀ x ∈ need g a, gi (h.set a (headAt g h a (need g a).length)) x.toNat = gi h x.toNat := by
    intro x hx; rw [hset, if_neg (hn x hx)]
  have hself : headAt g h a (need g a).length = maxL ((need g a).map fun x => gi h x.toNat + timeOf g x.toNat) := by
    unfold headAt; rw [List.take_length]
  refine ⟨by simp [hm.len], ?_, ?_, ?_, ?_⟩
  · intro i hi hmem
    rw [take_succ_mem hk] at hmem
    by_cases e : i = a
    · subst e
      rw [hset, if_pos rfl, hself]
      refine maxL_congr _ _ _ ?_
      intro x hx
      rw [← hself, hkeep x hx]
    · have hmem' : (i : Int) ∈ (top g).take k := by
        rcases hmem with h1 | h1
        · exact h1
        · omega
      rw [hset, if_neg e, hm.old i hi hmem']
      refine maxL_congr _ _ _ ?_
      intro x hx
      have hx2 : x.toNat ≠ a := by
        intro e2
        obtain ⟨q, hq, e3⟩ := List.mem_iff_getElem.1 hmem'
        rw [List.length_take] at hq
        rw [List.getElem_take] at e3
        have hb2 := top_behind g q (by omega) x (by rw [e3]; simpa using hx)
        have hx3 : 0 ≤ x := (fine_need hf hx).1
        have : x = (top g)[k] := by omega
        rw [this] at hb2
        obtain ⟨r, hr2, e4⟩ := List.mem_iff_getElem.1 hb2
        rw [List.length_take] at hr2
        rw [List.getElem_take] at e4
        have := top_inj (g := g) (by omega) hk e4
        omega
      rw [hset, if_neg hx2]
  · intro i hi hmem
    rw [take_succ_mem hk] at hmem
    have e : i ≠ a := by
      rintro rfl
      exact hmem (.inr haI.symm)
    rw [hset, if_neg e]
    exact hm.new i hi (fun h1 => hmem (.inl h1))
  · intro i hi
    rw [hset]
    split
    · rw [hself]; exact maxL_nonneg _
    · exact hm.lo i hi
  · intro i hi
    rw [hset]
    split
    · rw [hself]
      refine maxL_le (by omega) ?_
      intro y hy
      rw [List.mem_map] at hy
      obtain ⟨x, hx, rfl⟩ := hy
      have h1 := fine_need hf hx
      have h2 := hm.hi x.toNat (by omega)
      have h3 := fine_time hf (i := x.toNat) (by omega)
      omega
    · have := hm.hi i hi; omega
theorem HeadMid.isHead {g : List T} {h : List Int} (hg : Full g) (hm : HeadMid g (top g).length h) : IsHead g (gi h) := by
  intro i hi
  exact hm.old i hi (by rw [List.take_length]; exact hg.mem hi)

/-- users among the first p tasks, and the tails -/
def most (g : List T) (t : List Int) (a p : Nat) : Int := maxL (((List.range p).filter fun k => (need g k).contains (a : Int)).map (gi t))
theorem most_zero (g : List T) (t : List Int) (a : Nat) : most g t a 0 = 0 := rfl
theorem most_succ (g : List T) (t : List Int) (a p : Nat) : most g t a (p + 1) = if (need g p).contains (a : Int) then max (most g t a p) (gi t p) else most g t a p := by
  unfold most
  rw [List.range_succ, List.filter_append, List.map_append]
  by_cases h : (need g p).contains (a : Int) = true
  · rw [if_pos h]; simp only [List.filter_cons, h, if_true, List.filter_nil, List.map_cons, List.map_nil]; exact maxL_snoc _ _
  · rw [if_neg h]; simp only [Bool.not_eq_true] at h; simp only [List.filter_cons, h, Bool.false_eq_true, if_false, List.filter_nil, List.map_nil, List.append_nil]
theorem most_nonneg (g : List T) (t : List Int) (a p : Nat) : 0 ≤ most g t a p := maxL_nonneg _

/-- how far the tails are: the last ones of the order, from k on, are done -/
structure TailMid (g : List T) (k : Nat) (t : List Int) : Prop where
  len : t.length = g.length
  old : ∀ i, i < g.length → (i : Int) ∉ (top g).take k → gi t i = timeOf g i + most g t i g.length
  lo : ∀ i, i < g.length → 0 ≤ gi t i
  hi : ∀ i, i < g.length → gi t i ≤ 20 * ((top g).length - k)
/-- the model's way: what is not done yet is 0 -/
structure TailSpec (g : List T) (k : Nat) (t : List Int) : Prop extends TailMid g k t where
  new : ∀ i, i < g.length → (i : Int) ∈ (top g).take k → gi t i = 0
/-- the program's way: what is not done yet holds the greatest tail of its users -/
structure TailImpl (g : List T) (k : Nat) (t : List Int) : Prop extends TailMid g k t where
  new : ∀ i, i < g.length → (i : Int) ∈ (top g).take k → gi t i = maxL (((List.range g.length).filter fun u => (need g u).contains (i : Int) && !((top g).take k).contains (u : Int)).map (gi t))

theorem TailSpec.start {g : List T} (hg : Full g) : TailSpec g (top g).length (List.replicate g.length 0) :=
  ⟨⟨by simp, fun i hi h => absurd (by rw [List.take_length]; exact hg.mem hi) h, fun i _ => by rw [gi_zero]; omega, fun i _ => by rw [gi_zero]; omega⟩, fun i _ _ => gi_zero _ _⟩
theorem TailImpl.start {g : List T} (hg : Full g) : TailImpl g (top g).length (List.replicate g.length 0) := by
  refine ⟨TailSpec.start hg |>.toTailMid, ?_⟩
  intro i _ _
  rw [gi_zero]
  symm
  refine maxL_eq (by omega) ?_ (.inl rfl)
  intro x hx
  rw [List.mem_map] at hx
  obtain ⟨u, _, rfl⟩ := hx
  rw [gi_zero]
  omega
theorem most_full (g : List T) (t : List Int) (i : Nat) : most g t i g.length = maxL ((usersOf g i).map (gi t)) := rfl
theorem TailMid.isTail {g : List T} {t : List Int} (hm : TailMid g 0 t) : IsTail g (gi t) := by
  intro i hi
  rw [← most_full]
  exact hm.old i hi (by simp)
theorem most_congr {g : List T} {t t' : List Int} {i p : Nat} (h : ∀ u, u < p → (i : Int) ∈ need g u → gi t u = gi t' u) : most g t i p = most g t' i p := by
  unfold most
  refine maxL_congr _ _ _ ?_
  intro u hu
  simp only [List.mem_filter, List.mem_range, List.contains_iff_mem] at hu
  exact h u hu.1 hu.2
/-- users of the task at place k - 1 are behind it -/
theorem user_behind {g : List T} {k : Nat} (hk : k < (top g).length) {u : Nat} (hn : (top g)[k] ∈ need g u) : (u : Int) ∉ (top g).take (k + 1) := by
  intro hm
  obtain ⟨q, hq, e⟩ := List.mem_iff_getElem.1 hm
  rw [List.length_take] at hq
  rw [List.getElem_take] at e
  have hb := top_behind g q (by omega) (top g)[k] (by rw [e]; simpa using hn)
  obtain ⟨r, hr, e2⟩ := List.mem_iff_getElem.1 hb
  rw [List.length_take] at hr
  rw [List.getElem_take] at e2
  have := top_inj (g := g) (by omega) hk e2
  omega
theorem notUser {g : List T} {k : Nat} (hk : k < (top g).length) : (top g)[k] ∉ need g (top g)[k].toNat := by
  intro h
  exact HeadMid.notSelf hk _ h rfl

theorem TailSpec.step {g : List T} {k : Nat} {t : List Int} (hf : fine g = true) (hg : Full g) (hm : TailSpec g (k + 1) t) (hk : k < (top g).length) :
    TailSpec g k (t.set (top g)[k].toNat (most g t (top g)[k].toNat g.length + timeOf g (top g)[k].toNat)) := by
  have hr := top_range hk
  have hub := fun {u : Nat} (hn : (top g)[k] ∈ need g u) => user_behind hk hn
  have hnu := notUser hk
  have hnot := top_take_not hk
  have htk := fun x => take_succ_mem hk x
  generalize ha : (top g)[k].toNat = a at *
  have haI : (top g)[k] = (a : Int) := by omega
  rw [haI] at hub hnu hnot htk
  have hal : a < t.length := by rw [hm.len]; omega
  have hset := fun i v => gi_set t a i v hal
  have ht := fine_time hf (i := a) (by omega)
  have hmost : ∀ v i, i < g.length → ((i : Int) ∉ (top g).take k) → most g (t.set a v) i g.length = most g t i g.length := by
    intro v i hi hni
    refine most_congr ?_
    intro u hu hn
    rw [hset, if_neg]
    rintro rfl
    -- a user that is a: then i stands before a
    obtain ⟨q, hq, e⟩ := hg.pos hi
    have hb := top_behind g k hk (i : Int) (by rw [haI]; simpa using hn)
    exact hni hb
  refine ⟨⟨by simp [hm.len], ?_, ?_, ?_⟩, ?_⟩
  · intro i hi hni
    rw [hmost _ i hi hni]
    rw [hset]
    split
    · subst i; omega
    · refine hm.old i hi ?_
      rw [htk]
      rintro (h1 | h1)
      · exact hni h1
      · omega
  · intro i hi
    rw [hset]
    split
    · have := most_nonneg g t a g.length; omega
    · exact hm.lo i hi
  · intro i hi
    rw [hset]
    split
    · have : most g t a g.length ≤ 20 * ((top g).length - (k + 1)) := by
        refine maxL_le (by omega) ?_
        intro y hy
        rw [List.mem_map] at hy
        obtain ⟨u, hu, rfl⟩ := hy
        simp only [List.mem_filter, List.mem_range] at hu
        exact_mod_cast hm.hi u hu.1
      omega
    · have := hm.hi i hi; omega
  · intro i hi hmem
    rw [hset, if_neg]
    · exact hm.new i hi ((htk _).2 (.inl hmem))
    · rintro rfl
      exact hnot hmem

/-- the program's round at task a: first its own tail, then its needs' -/
def pushed (g : List T) (t : List Int) (a p : Nat) (t' : List Int) : Prop :=
  t'.length = t.length ∧ ∀ i, i < g.length → gi t' i = if (i : Int) ∈ (need g a).take p then max (gi t i) (gi t a + timeOf g a) else if i = a then gi t a + timeOf g a else gi t i
theorem TailImpl.step {g : List T} {k : Nat} {t t' : List Int} (hf : fine g = true) (hg : Full g) (hm : TailImpl g (k + 1) t) (hk : k < (top g).length)
    (hp : pushed g t (top g)[k].toNat (need g (top g)[k].toNat).length t') : TailImpl g k t' := by
  have hr := top_range hk
  have hub := fun {u : Nat} (hn : (top g)[k] ∈ need g u) => user_behind hk hn
  have hnu := notUser hk
  have hnot := top_take_not hk
  have htk := fun x => take_succ_mem hk x
  have hb := top_behind g k hk
  generalize ha : (top g)[k].toNat = a at *
  have haI : (top g)[k] = (a : Int) := by omega
  rw [haI] at hub hnu hnot htk
  obtain ⟨hl, hp⟩ := hp
  rw [List.take_length] at hp
  have ht := fine_time hf (i := a) (by omega)
  -- what is done, and a, are not needs of a
  have hdone : ∀ i, i < g.length → (i : Int) ∉ (top g).take k → (i : Int) ∉ need g a := fun i _ h1 h2 => h1 (hb _ h2)
  have hga : gi t' a = gi t a + timeOf g a := by rw [hp a (by omega), if_neg hnu, if_pos rfl]
  have hgd : ∀ i, i < g.length → (i : Int) ∉ (top g).take k → i ≠ a → gi t' i = gi t i := by
    intro i hi h1 h2
    rw [hp i hi, if_neg (hdone i hi h1), if_neg h2]
  have hall : ∀ i, i < g.length → (i : Int) ∉ (top g).take k → ∀ u, u < g.length → (i : Int) ∈ need g u → (u : Int) ∉ (top g).take k ∧ u ≠ a := by
    intro i hi hni u hu hn
    obtain ⟨q, hq, e⟩ := hg.pos hi
    have h1 := user_behind hq (by rw [e]; exact hn)
    have hqk : k ≤ q := by
      rcases Nat.lt_or_ge q k with h2 | h2
      · exfalso
        apply hni
        rw [← e]
        exact List.mem_iff_getElem.2 ⟨q, by rw [List.length_take]; omega, by rw [List.getElem_take]⟩
      · exact h2
    refine ⟨?_, ?_⟩
    · intro h2
      apply h1
      obtain ⟨r, hr2, e2⟩ := List.mem_iff_getElem.1 h2
      rw [List.length_take] at hr2
      rw [List.getElem_take] at e2
      rw [← e2]
      exact List.mem_iff_getElem.2 ⟨r, by rw [List.length_take]; omega, by rw [List.getElem_take]⟩
    · rintro rfl
      apply h1
      rw [← haI]
      exact List.mem_iff_getElem.2 ⟨k, by rw [List.length_take]; omega, by rw [List.getElem_take]⟩
  -- a's value is that of its users
  have hnewa := hm.new a (by omega) ((htk _).2 (.inr rfl))
  have hfa : maxL (((List.range g.length).filter fun u => (need g u).contains (a : Int) && !((top g).take (k + 1)).contains (u : Int)).map (gi t)) = most g t a g.length := by
    unfold most
    congr 2
    apply List.filter_congr
    intro u hu
    rw [Bool.eq_iff_iff]
    simp only [Bool.and_eq_true, List.contains_iff_mem, Bool.not_eq_true', Bool.eq_false_iff, ne_eq]
    constructor
    · exact fun h => h.1
    · intro h
      exact ⟨h, fun h2 => hub h h2⟩
  rw [hfa] at hnewa
  refine ⟨⟨hl.trans hm.len, ?_, ?_, ?_⟩, ?_⟩
  · intro i hi hni
    have hmost : most g t' i g.length = most g t i g.length := by
      refine most_congr ?_
      intro u hu hn
      obtain ⟨h1, h2⟩ := hall i hi hni u hu hn
      exact hgd u hu h1 h2
    rw [hmost]
    by_cases e : i = a
    · subst e; rw [hga, hnewa]; omega
    · rw [hgd i hi hni e]
      refine hm.old i hi ?_
      rw [htk]
      rintro (h1 | h1)
      · exact hni h1
      · omega
  · intro i hi
    have h1 := hm.lo i hi
    have h2 := hm.lo a (by omega)
    rw [hp i hi]
    split
    · omega
    · split <;> omega
  · intro i hi
    have h1 := hm.hi i hi
    have h2 := hm.hi a (by omega)
    rw [hp i hi]
    split
    · omega
    · split <;> omega
  · intro i hi hmem
    have h1 := hm.new i hi ((htk _).2 (.inl hmem))
    have hia : i ≠ a := by rintro rfl; exact hnot hmem
    -- users among the done ones, a among them
    have key : ∀ u, u < g.length → (i : Int) ∈ need g u → (u : Int) ∉ (top g).take (k + 1) → gi t' u = gi t u := by
      intro u hu hn h2
      rw [htk] at h2
      exact hgd u hu (fun h3 => h2 (.inl h3)) (fun e => h2 (.inr (by rw [e])))
    symm
    rw [hp i hi]
    by_cases hna : (i : Int) ∈ need g a
    · rw [if_pos hna]
      refine maxL_eq ?_ ?_ ?_
      · have := hm.lo i hi; omega
      · intro x hx
        rw [List.mem_map] at hx
        obtain ⟨u, hu, rfl⟩ := hx
        simp only [List.mem_filter, List.mem_range, Bool.and_eq_true, List.contains_iff_mem, Bool.not_eq_true', Bool.eq_false_iff, ne_eq] at hu
        obtain ⟨hu1, hu2, hu3⟩ := hu
        by_cases e : u = a
        · subst e; rw [hga]; omega
        · rw [hgd u hu1 hu3 e]
          have : gi t u ≤ gi t i := by
            rw [h1]
            refine le_maxL ?_
            rw [List.mem_map]
            refine ⟨u, ?_, rfl⟩
            simp only [List.mem_filter, List.mem_range, Bool.and_eq_true, List.contains_iff_mem, Bool.not_eq_true', Bool.eq_false_iff, ne_eq]
            refine ⟨hu1, hu2, ?_⟩
            rw [htk]
            rintro (h3 | h3)
            · exact hu3 h3
            · omega
          omega
      · by_cases hle : gi t i ≤ gi t a + timeOf g a
        · right
          rw [Int.max_eq_right hle, ← hga, List.mem_map]
          refine ⟨a, ?_, rfl⟩
          simp only [List.mem_filter, List.mem_range, Bool.and_eq_true, List.contains_iff_mem, Bool.not_eq_true', Bool.eq_false_iff, ne_eq]
          exact ⟨by omega, hna, hnot⟩
        · rw [Int.max_eq_left (by omega)]
          have h2 := maxL_mem (((List.range g.length).filter fun u => (need g u).contains (i : Int) && !((top g).take (k + 1)).contains (u : Int)).map (gi t))
          rw [← h1] at h2
          rcases h2 with h2 | h2
          · exact .inl h2
          · right
            rw [List.mem_map] at h2 ⊢
            obtain ⟨u, hu, e⟩ := h2
            simp only [List.mem_filter, List.mem_range, Bool.and_eq_true, List.contains_iff_mem, Bool.not_eq_true', Bool.eq_false_iff, ne_eq] at hu
            obtain ⟨hu1, hu2, hu3⟩ := hu
            refine ⟨u, ?_, ?_⟩
            · simp only [List.mem_filter, List.mem_range, Bool.and_eq_true, List.contains_iff_mem, Bool.not_eq_true', Bool.eq_false_iff, ne_eq]
              exact ⟨hu1, hu2, fun h3 => hu3 ((htk _).2 (.inl h3))⟩
            · rw [key u hu1 hu2 hu3, e]
    · rw [if_neg hna, if_neg hia, h1]
      have hfl : ((List.range g.length).filter fun u => (need g u).contains (i : Int) && !((top g).take k).contains (u : Int)) = ((List.range g.length).filter fun u => (need g u).contains (i : Int) && !((top g).take (k + 1)).contains (u : Int)) := by
        apply List.filter_congr
        intro u hu
        rw [Bool.eq_iff_iff]
        simp only [Bool.and_eq_true, List.contains_iff_mem, Bool.not_eq_true', Bool.eq_false_iff, ne_eq]
        constructor
        · rintro ⟨h2, h3⟩
          refine ⟨h2, ?_⟩
          rw [htk]
          rintro (h4 | h4)
          · exact h3 h4
          · have : u = a := by omega
            subst this
            exact hna h2
        · rintro ⟨h2, h3⟩
          exact ⟨h2, fun h4 => h3 ((htk _).2 (.inl h4))⟩
      rw [hfl]
      refine maxL_congr _ _ _ ?_
      intro u hu
      simp only [List.mem_filter, List.mem_range, Bool.and_eq_true, List.contains_iff_mem, Bool.not_eq_true', Bool.eq_false_iff, ne_eq] at hu
      exact key u hu.1 hu.2.1 hu.2.2
/-- the search for the next task: the first k tasks are no use, or the last of them is the next -/
def Look (g : List T) (out : List Int) (k : Nat) (nx : Int) : Prop :=
  (nx = -1 ∧ ∀ j, j < k → okNext g out j = false) ∨ ∃ m, k = m + 1 ∧ nx = (m : Int) ∧ nxt g out = some m
theorem Look.start (g : List T) (out : List Int) : Look g out 0 (-1) := .inl ⟨rfl, by intro j h; omega⟩
theorem find_first {n : Nat} {p : Nat → Bool} {k : Nat} (hk : k < n) (h : ∀ j, j < k → p j = false) (hp : p k = true) : (List.range n).find? p = some k := by
  rw [List.find?_eq_some_iff_getElem]
  exact ⟨hp, k, by simpa using hk, by simp, by intro j hj; simp [h j hj]⟩
theorem Look.no {g : List T} {out : List Int} {k : Nat} (h : Look g out k (-1)) (hn : okNext g out k = false) : Look g out (k + 1) (-1) := by
  rcases h with ⟨_, h⟩ | ⟨m, _, h, _⟩
  · refine .inl ⟨rfl, ?_⟩
    intro j hj
    by_cases e : j < k
    · exact h j e
    · have : j = k := by omega
      subst this
      exact hn
  · omega
theorem Look.yes {g : List T} {out : List Int} {k : Nat} (h : Look g out k (-1)) (hk : k < g.length) (hn : okNext g out k = true) : Look g out (k + 1) (k : Int) := by
  rcases h with ⟨_, h⟩ | ⟨m, _, h, _⟩
  · exact .inr ⟨k, rfl, rfl, find_first hk h hn⟩
  · omega
theorem Look.none_ {g : List T} {out : List Int} {k : Nat} {nx : Int} (h : Look g out k nx) (hk : g.length ≤ k) (hx : nx < 0) : nxt g out = none := by
  rcases h with ⟨_, h⟩ | ⟨m, _, h, _⟩
  · unfold nxt
    rw [List.find?_eq_none]
    intro j hj
    rw [h j (by have := List.mem_range.1 hj; omega)]
    simp
  · omega
theorem Look.some_ {g : List T} {out : List Int} {k : Nat} {nx : Int} (h : Look g out k nx) (hx : 0 ≤ nx) : nxt g out = some nx.toNat := by
  rcases h with ⟨h, _⟩ | ⟨m, _, h, h'⟩
  · omega
  · rw [h', h]; simp
theorem need_eq {g : List T} {k : Nat} (hk : k < g.length) : need g k = g[k].needs := by unfold need; rw [List.getElem?_eq_getElem hk]
theorem timeOf_eq {g : List T} {k : Nat} (hk : k < g.length) : timeOf g k = g[k].time := by unfold timeOf; rw [List.getElem?_eq_getElem hk]
theorem okNext_eq {g : List T} {out : List Int} {k : Nat} (hk : k < g.length) : okNext g out k = (!out.contains (k : Int) && g[k].needs.all fun x => out.contains x) := by
  unfold okNext; rw [need_eq hk]
def nxtI (g : List T) (out : List Int) : Int := match nxt g out with | none => -1 | some i => (i : Int)
def topL (g : List T) : List Int := if valid g then top g else []
def stuckL (g : List T) : List Int := if fine g then pick g.length (fun i => !(top g).contains (i : Int)) else []
theorem andNot_zero (s d : Nat) (hs : s < 256) (hd : d < 256) : (s &&& (18446744073709551615 - d) = 0) ↔ ∀ i, i < 8 → s.testBit i = true → d.testBit i = true := by
  have hb : ∀ i, (18446744073709551615 - d).testBit i = (decide (i < 64) && !d.testBit i) := by
    intro i
    have := Nat.testBit_two_pow_sub_succ (n := 64) (x := d) (by omega) i
    rw [← this]
    congr 1
    omega
  constructor
  · intro h i hi h1
    have h2 : (s &&& (18446744073709551615 - d)).testBit i = false := by rw [h]; simp
    rw [Nat.testBit_and, h1, hb] at h2
    simp only [Bool.true_and, Bool.and_eq_false_iff, Bool.not_eq_false', decide_eq_false_iff_not] at h2
    rcases h2 with h2 | h2
    · omega
    · exact h2
  · intro h
    apply Nat.eq_of_testBit_eq
    intro i
    rw [Nat.testBit_and, hb, Nat.zero_testBit]
    by_cases hi : i < 8
    · cases h1 : s.testBit i
      · rfl
      · rw [h i hi h1]; simp
    · have : s.testBit i = false := Nat.testBit_lt_two_pow (Nat.lt_of_lt_of_le hs (by have := Nat.pow_le_pow_right (n := 2) (by omega) (show 8 ≤ i by omega); omega))
      rw [this]
      rfl
theorem bits_sub (l d : List Int) (hl : ∀ x ∈ l, 0 ≤ x ∧ x < 8) (hd : ∀ x ∈ d, 0 ≤ x ∧ x < 8) : (bits l &&& (18446744073709551615 - bits d) = 0) ↔ (l.all fun x => d.contains x) = true := by
  rw [andNot_zero _ _ (bits_lt l hl) (bits_lt d hd), List.all_eq_true]
  constructor
  · intro h x hx
    have hx8 := hl x hx
    have := h x.toNat (by omega) (by rw [bits_test l (fun y hy => (hl y hy).1), List.contains_iff_mem, show ((x.toNat : Nat) : Int) = x from by omega]; exact hx)
    rw [bits_test d (fun y hy => (hd y hy).1), show ((x.toNat : Nat) : Int) = x from by omega] at this
    exact this
  · intro h i hi h1
    rw [bits_test l (fun y hy => (hl y hy).1), List.contains_iff_mem] at h1
    rw [bits_test d (fun y hy => (hd y hy).1)]
    exact h _ h1
theorem Dist.eight {n : Nat} {out : List Int} (h : Dist n out) (hn : n ≤ 8) : ∀ x ∈ out, 0 ≤ x ∧ x < 8 := fun x hx => by have := h.2 x hx; omega
theorem Look.neg {g : List T} {out : List Int} {k : Nat} {q : Int} (h : Look g out k q) (hq : q < 0) : q = -1 := by rcases h with ⟨e, _⟩ | ⟨m, _, e, _⟩ <;> omega
theorem Look.ans {g : List T} {out : List Int} {k : Nat} (h : Look g out k (-1)) (hk : g.length ≤ k) : nxtI g out = -1 := by
  unfold Bs.nxtI; rw [h.none_ hk (by omega)]
theorem Look.ans_yes {g : List T} {out : List Int} {k : Nat} (h : Look g out k (-1)) (hk : k < g.length) (hn : okNext g out k = true) : nxtI g out = k := by
  have := (h.yes hk hn).some_ (by omega)
  unfold Bs.nxtI; rw [this]; simp
theorem need_eight {g : List T} (hf : fine g = true) {k : Nat} (hk : k < g.length) : ∀ x ∈ g[k].needs, 0 ≤ x ∧ x < 8 := by
  intro x hx
  have h1 := fine_need hf (i := k) (x := x) (by rw [need_eq hk]; exact hx)
  have h2 := fine_len hf
  omega
theorem pick_snoc (n : Nat) (p : Nat → Bool) (h : p n = true) : pick (n + 1) p = pick n p ++ [(n : Int)] := by rw [pick_succ, if_pos h]
theorem pick_skip (n : Nat) (p : Nat → Bool) (h : p n = false) : pick (n + 1) p = pick n p := by rw [pick_succ, h]; rfl
end Go.Proofs.Ytihgakbopkaemaa.Bs
namespace Go.Proofs.Ytihgakbopkaemaa
open Go.RowKit

theorem block_of_add (a : Addr) (n : Nat) : (a.add n).block = a.block := by unfold Addr.add; split <;> rfl
theorem add_of_add (a : Addr) (i j : Nat) : (a.add i).add j = a.add (i + j) := by
  unfold Addr.add
  by_cases hi : i = 0 <;> by_cases hj : j = 0 <;> simp [hi, hj, Nat.add_assoc]

/-- slice address A reads as the list l, its blocks in lo..hi-1 -/
def RI (w : World) (lo hi : Nat) (A : Option Addr) (l : List Int) : Prop :=
  ∀ k (hk : k < l.length), ∃ b o, A = some ⟨b, o, none⟩ ∧ lo ≤ b ∧ b < hi ∧ w.cell? ⟨b, o + k, none⟩ = some (.int .i64 l[k])
theorem RI.at_ {w : World} {lo hi : Nat} {A : Option Addr} {l : List Int} (h : RI w lo hi A l) {k : Nat} (hk : k < l.length) :
    ∃ b o, A = some ⟨b, o, none⟩ ∧ lo ≤ b ∧ b < hi ∧ w.cell? ⟨b, o + k, none⟩ = some (.int .i64 l[k]) := h k hk
theorem RI.nil {w : World} {lo hi : Nat} {A : Option Addr} : RI w lo hi A [] := fun k hk => absurd hk (by simp)
theorem RI.keep {w w' : World} {lo hi : Nat} {A : Option Addr} {l : List Int} (h : RI w lo hi A l) (hk : ∀ p : Addr, lo ≤ p.block → p.block < hi → w'.cell? p = w.cell? p) : RI w' lo hi A l := by
  intro k hl
  obtain ⟨b, o, e, h1, h2, hc⟩ := h k hl
  exact ⟨b, o, e, h1, h2, (hk ⟨b, o + k, none⟩ h1 h2).trans hc⟩
theorem RI.more {w : World} {lo hi lo' hi' : Nat} {A : Option Addr} {l : List Int} (h : RI w lo hi A l) (h1 : lo' ≤ lo) (h2 : hi ≤ hi') : RI w lo' hi' A l := by
  intro k hl
  obtain ⟨b, o, e, g1, g2, hc⟩ := h k hl
  exact ⟨b, o, e, by omega, by omega, hc⟩
theorem RI.below {w w' : World} {lo hi : Nat} {A : Option Addr} {l : List Int} {B : Nat} (h : RI w lo hi A l) (hb : Below B w w') (hB : hi ≤ B) : RI w' lo hi A l :=
  h.keep fun _ _ hp => hb.cell (by omega)

/-- a slice of tasks -/
def RG (w : World) (lo hi : Nat) (A : Option Addr) (g : List Bs.T) : Prop :=
  ∀ k (hk : k < g.length), ∃ b o N c, A = some ⟨b, o, none⟩ ∧ lo ≤ b ∧ b < hi ∧
    w.cell? ⟨b, o + k * 4, none⟩ = some (.int .i64 g[k].time) ∧ w.cell? ⟨b, o + k * 4 + 1, none⟩ = some (.slice N g[k].needs.length c) ∧
    w.cell? ⟨b, o + k * 4 + 2, none⟩ = some (.int .i64 g[k].pool) ∧ w.cell? ⟨b, o + k * 4 + 3, none⟩ = some (.int .i64 g[k].units) ∧
    g[k].needs.length ≤ c ∧ c ≤ 9223372036854775807 ∧ RI w lo hi N g[k].needs
theorem RG.nil {w : World} {lo hi : Nat} {A : Option Addr} : RG w lo hi A [] := fun k hk => absurd hk (by simp)
theorem RG.keep {w w' : World} {lo hi : Nat} {A : Option Addr} {g : List Bs.T} (h : RG w lo hi A g) (hk : ∀ p : Addr, lo ≤ p.block → p.block < hi → w'.cell? p = w.cell? p) : RG w' lo hi A g := by
  intro k hl
  obtain ⟨b, o, N, c, e, h1, h2, c0, c1, c2, c3, hl', hc, hn⟩ := h k hl
  have hk' := fun j => hk ⟨b, j, none⟩ h1 h2
  exact ⟨b, o, N, c, e, h1, h2, (hk' _).trans c0, (hk' _).trans c1, (hk' _).trans c2, (hk' _).trans c3, hl', hc, hn.keep hk⟩
theorem RG.more {w : World} {lo hi lo' hi' : Nat} {A : Option Addr} {g : List Bs.T} (h : RG w lo hi A g) (h1 : lo' ≤ lo) (h2 : hi ≤ hi') : RG w lo' hi' A g := by
  intro k hl
  obtain ⟨b, o, N, c, e, g1, g2, c0, c1, c2, c3, hl', hc, hn⟩ := h k hl
  exact ⟨b, o, N, c, e, by omega, by omega, c0, c1, c2, c3, hl', hc, hn.more h1 h2⟩
theorem RG.below {w w' : World} {lo hi : Nat} {A : Option Addr} {g : List Bs.T} {B : Nat} (h : RG w lo hi A g) (hb : Below B w w') (hB : hi ≤ B) : RG w' lo hi A g :=
  h.keep fun _ _ hp => hb.cell (by omega)
theorem _root_.Go.RowKit.Below.drewN {B : Nat} {a w : World} (h : Below B a w) (n : Nat) : Below B a (w.drewN n) := ⟨h.os, h.tape, h.output, h.size, h.block⟩
theorem ret_bool {a b : Bool} (h : a = b) : Ending.returned (.bool a) = .returned (.bool b) := by rw [h]
theorem ret_int {k : IntKind} {a b : Int} (h : a = b) : Ending.returned (.int k a) = .returned (.int k b) := by rw [h]
theorem Try.info3 : (Try.prog.info? 3).map (fun i => (i.zero, i.size, i.bytes)) = some (some (.int .i64 0), 1, 8) := by kernel_rfl
/-- a row of the call's own, of integers -/
def OI (w : World) (B : Nat) (A : Option Addr) (c : Nat) (l : List Int) : Prop := w.ownsRow B 3 1 (.slice A l.length c) l.length (l.map (Value.int .i64))
theorem OI.ri {w : World} {B : Nat} {A : Option Addr} {c : Nat} {l : List Int} (h : OI w B A c l) : RI w B w.heap.size A l := by
  intro k hk
  rcases h.2 with ⟨hv, hn⟩ | ⟨b, cap, cur, hv, hb, hg, hnc, hcm, hcs, ht⟩
  · omega
  · injection hv with hA hn hc
    subst hA
    refine ⟨b, 0, rfl, hb, (Array.getElem?_eq_some_iff.1 hg).1, ?_⟩
    have h1 := h.cells (g := b) (by simp [Value.ownBlock]) k (.int .i64 l[k]) (by simp [hk])
    rw [Addr.add_lit] at h1
    exact h1
theorem OI.nil (w : World) (B : Nat) : OI w B none 0 [] := World.ownsRow_nil w B 3 1
theorem OI.new (w : World) (B : Nat) (hB : B ≤ w.heap.size) : OI (w.alloc (.cells #[] 3)) B (some ⟨w.heap.size, 0, none⟩) 0 [] :=
  World.ownsRow_made w #[] 0 hB (Nat.zero_le _) (by simp)
theorem OI.cap {w : World} {B : Nat} {A : Option Addr} {c : Nat} {l : List Int} (h : OI w B A c l) : l.length ≤ c ∧ c ≤ maxLen := by
  rcases h.2 with ⟨hv, hn⟩ | ⟨b, cap, cur, hv, hb, hg, hnc, hcm, hcs, ht⟩
  · injection hv with hA hn hc
    subst hc
    exact ⟨by omega, Nat.zero_le _⟩
  · injection hv with hA hn hc
    subst hc
    exact ⟨hnc, hcm⟩
theorem OI.form {w : World} {B : Nat} {v : Value} {l : List Int} (h : w.ownsRow B 3 1 v l.length (l.map (Value.int .i64))) : ∃ A c, v = .slice A l.length c ∧ OI w B A c l := by
  rcases h.2 with ⟨hv, hn⟩ | ⟨b, cap, cur, hv, hb, hg, hnc, hcm, hcs, ht⟩
  · refine ⟨none, 0, by rw [hv, hn], ?_⟩
    unfold OI
    rw [hn] at h ⊢
    rw [hv] at h
    exact h
  · refine ⟨_, cap, hv, ?_⟩
    unfold OI
    rw [hv] at h
    exact h
/-- how long a slice is -/
def lenOf : Value → Nat | .slice _ n _ => n | _ => 0
theorem OI.alloc {w : World} {B : Nat} {A : Option Addr} {c : Nat} {l : List Int} (h : OI w B A c l) (o : Obj) : OI (w.alloc o) B A c l := World.ownsRow.alloc h o
theorem OI.kept {w w' : World} {B : Nat} {A : Option Addr} {c : Nat} {l : List Int} {row : Option Nat} (h : OI w B A c l) (hg : w.grownBy w' row) (hne : (Value.slice A l.length c).ownBlock = none ∨ (Value.slice A l.length c).ownBlock ≠ row) : OI w' B A c l := World.ownsRow.kept h hg hne
theorem OI.below {w w' : World} {B B' : Nat} {A : Option Addr} {c : Nat} {l : List Int} (h : OI w B A c l) (hb : Below B' w w') (hB : w.heap.size ≤ B') : OI w' B A c l := by
  refine ⟨h.1, ?_⟩
  rcases h.2 with hn | ⟨g, cap, cur, hv, h1, hg, rest⟩
  · exact .inl hn
  · exact .inr ⟨g, cap, cur, hv, h1, by rw [hb.block g (by have := (Array.getElem?_eq_some_iff.1 hg).1; omega)]; exact hg, rest⟩
theorem OI.drewN {w : World} {B : Nat} {A : Option Addr} {c : Nat} {l : List Int} (h : OI w B A c l) (n : Nat) : OI (w.drewN n) B A c l := h
/-- 'out = append(out, q)' -/
theorem push_int {ops : Array Oper} {rest : List Oper} {o : Oper} {a : Act} {Q : Exit → Act → World → Prop} {w : World} (hgd : o.guard = none) (s x : Operand)
    (ho : o.op = .call { callee := .builtin .append, args := #[s, x], argTypes := #[24, 24] })
    (B : Nat) (A : Option Addr) (c : Nat) (l : List Int) (q : Int) (hs : a.eval s = .slice A l.length c) (hown : OI w B A c l)
    (g cc : Nat) (hx : a.eval x = .slice (some ⟨g, 0, none⟩) 1 cc) (hc : w.cell? ⟨g, 0, none⟩ = some (.int .i64 q)) (hlen : l.length ≤ 1000000000) (hB : B ≤ w.heap.size)
    (h : ∀ A' c' w', OI w' B A' c' (l ++ [q]) → Below B w w' → w.grownBy w' (Value.slice A l.length c).ownBlock → wpList Try.prog ops Q rest (a.put o.dst (.slice A' (l.length + 1) c')) w') : wpList Try.prog ops Q (o :: rest) a w := by
  obtain ⟨i0, hi0, hz0, hz1, hz2⟩ := info_parts Try.info3
  refine wpList_append_own w hgd s x 24 ho B 3 i0 (.int .i64 0) 1 8 Try.underlying24 hi0 hz0 hz1 hz2 rfl (by decide) _ _ _ hs hown ⟨g, 0, none⟩ 1 cc [.int .i64 q] hx rfl ?_ ?_ ?_ ?_ hB ?_
  · intro j u hj
    cases j with
    | zero =>
      simp only [List.getElem?_cons_zero, Option.some.injEq] at hj
      subst hj
      rw [Addr.add_lit]
      exact hc
    | succ j => simp at hj
  · intro u hu
    simp only [List.mem_singleton] at hu
    subst hu
    rfl
  · unfold maxLen; omega
  · omega
  · intro v' w' hown' hg _
    have h1 : w'.ownsRow B 3 1 v' (l ++ [q]).length ((l ++ [q]).map (Value.int .i64)) := by
      rw [List.length_append, List.map_append]
      exact hown'
    obtain ⟨A', c', hv, ho'⟩ := OI.form h1
    rw [hv, List.length_append]
    refine h A' c' w' ho' ?_ hg
    refine (Below.refl B w).grown hg hB ?_
    intro k hk
    exact (hown.lt k hk).1
end Go.Proofs.Ytihgakbopkaemaa
namespace Go.Proofs.Ytihgakbopkaemaa
open Go.RowKit

theorem inRange_any (n lo hi : Int) (w : World) : Calls Try.prog 72 #[.int .i64 n, .int .i64 lo, .int .i64 hi] w fun e w' => e = .returned (.bool (decide (lo ≤ n ∧ n ≤ hi))) ∧ w = w' := by
  go_enter Try.func72, Try.ntmps72
  go_wp2
  all_goals go_ret
  all_goals exact ⟨ret_bool (by simp; try omega), rfl⟩

theorem isIn_any (A : Option Addr) (c : Nat) (l : List Int) (n : Int) (lo hi : Nat) (w : World) (h : RI w lo hi A l) (hl : l.length ≤ 9223372036854775807) :
    Calls Try.prog 101 #[.slice A l.length c, .int .i64 n] w fun e w' => e = .returned (.bool (l.contains n)) ∧ w = w' := by
  go_enter Try.func101, Try.ntmps101
  go_wp2
  go_loop [5] (fun i => ∃ k : Nat, k ≤ l.length ∧ i = .int .i64 k ∧ n ∉ l.take k) (fun i => l.length - (intOf i).toNat)
  case atStart => exact ⟨0, Nat.zero_le _, rfl, by simp⟩
  case round =>
    obtain ⟨k, hk, rfl, hn⟩ := hrel
    by_cases hlt : k < l.length
    · obtain ⟨b, o, rfl, _, _, hc⟩ := h.at_ hlt
      have hs : l.take (k + 1) = l.take k ++ [l[k]] := List.take_succ_eq_append_getElem hlt
      have HS := Lib.hid hs
      clear hs
      have Hn := Lib.hid hn
      clear hn
      by_cases he : l[k] = n
      · have hb : (l[k] == n) = true := by simp [he]
        have HE := Lib.hid he
        clear he
        go_wp2
        go_ret
        exact ⟨ret_bool (by rw [← HE.out]; simp), rfl⟩
      · have hb : (l[k] == n) = false := by simp [he]
        have HE := Lib.hid he
        clear he
        go_wp2
        go_round
        case rel => exact ⟨k + 1, by omega, by go_num, by rw [HS.out]; simp only [List.mem_append, List.mem_singleton, not_or]; exact ⟨Hn.out, fun h => HE.out h.symm⟩⟩
        case measure => simp [intOf]; omega
    · have e : l.take k = l := List.take_of_length_le (by omega)
      rw [e] at hn
      have Hn := Lib.hid hn
      clear hn e
      go_wp2
      go_ret
      exact ⟨ret_bool (by simp [Hn.out]), rfl⟩

theorem drewN_zero (w : World) : w.drewN 0 = w := rfl

theorem allDone_any (A : Option Addr) (c : Nat) (l : List Int) (A' : Option Addr) (c' : Nat) (d : List Int) (lo hi lo' hi' : Nat) (w : World) (h : RI w lo hi A l) (h' : RI w lo' hi' A' d) (hl : l.length ≤ 9223372036854775807) (hd : d.length ≤ 9223372036854775807) :
    Calls Try.prog 102 #[.slice A l.length c, .slice A' d.length c'] w fun e w' => e = .returned (.bool (l.all fun x => d.contains x)) ∧ w = w' := by
  go_enter Try.func102, Try.ntmps102
  go_wp2
  go_loop [5] (fun i => ∃ k : Nat, k ≤ l.length ∧ i = .int .i64 k ∧ ((l.take k).all fun x => d.contains x) = true) (fun i => l.length - (intOf i).toNat)
  case atStart => exact ⟨0, Nat.zero_le _, rfl, by simp⟩
  case round =>
    obtain ⟨k, hk, rfl, hn⟩ := hrel
    have Hn := Lib.hid hn
    clear hn
    by_cases hlt : k < l.length
    · obtain ⟨b, o, rfl, _, _, hc⟩ := h.at_ hlt
      have HS := Lib.hid (show l.take (k + 1) = l.take k ++ [l[k]] from List.take_succ_eq_append_getElem hlt)
      cases he : d.contains l[k]
      · have HE := Lib.hid he
        have hc1 := isIn_any A' c' d l[k] lo' hi' w h' hd
        rw [he] at hc1
        have HC := Lib.hid hc1
        clear he hc1
        go_wp2_with (go_at_call 101; refine (HC.out).mono ?_; rintro e w' ⟨rfl, rfl⟩)
        go_ret
        exact ⟨ret_bool (by
          symm
          rw [Bool.eq_false_iff]
          intro hx
          rw [List.all_eq_true] at hx
          exact absurd (hx _ (List.getElem_mem hlt)) (by rw [HE.out]; simp)), rfl⟩
      · have HE := Lib.hid he
        have hc1 := isIn_any A' c' d l[k] lo' hi' w h' hd
        rw [he] at hc1
        have HC := Lib.hid hc1
        clear he hc1
        go_wp2_with (go_at_call 101; refine (HC.out).mono ?_; rintro e w' ⟨rfl, rfl⟩)
        go_round
        case rel => exact ⟨k + 1, by omega, by go_num, by rw [HS.out, List.all_append, Hn.out]; simp only [List.all_cons, HE.out, List.all_nil]; rfl⟩
        case measure => simp [intOf]; omega
    · have e : l.take k = l := List.take_of_length_le (by omega)
      have He := Lib.hid e
      clear e
      go_wp2
      go_ret
      exact ⟨ret_bool (by have := Hn.out; rw [He.out] at this; simpa using this.symm), rfl⟩

theorem allIn_any (A : Option Addr) (c : Nat) (l : List Int) (a b : Int) (lo hi : Nat) (w : World) (h : RI w lo hi A l) (hl : l.length ≤ 9223372036854775807) :
    Calls Try.prog 73 #[.slice A l.length c, .int .i64 a, .int .i64 b] w fun e w' => e = .returned (.bool (Bs.allInB l a b)) ∧ w = w' := by
  go_enter Try.func73, Try.ntmps73
  go_wp2
  go_loop [7] (fun i => ∃ k : Nat, k ≤ l.length ∧ i = .int .i64 k ∧ Bs.allInB (l.take k) a b = true) (fun i => l.length - (intOf i).toNat)
  case atStart => exact ⟨0, Nat.zero_le _, rfl, by simp [Bs.allInB]⟩
  case round =>
    obtain ⟨k, hk, rfl, hn⟩ := hrel
    have Hn := Lib.hid hn
    clear hn
    by_cases hlt : k < l.length
    · obtain ⟨bk, o, rfl, _, _, hc⟩ := h.at_ hlt
      have HS := Lib.hid (show l.take (k + 1) = l.take k ++ [l[k]] from List.take_succ_eq_append_getElem hlt)
      cases he : decide (a ≤ l[k] ∧ l[k] ≤ b)
      · have HE := Lib.hid he
        have hc1 := inRange_any l[k] a b w
        rw [he] at hc1
        have HC := Lib.hid hc1
        clear he hc1
        go_wp2_with (go_at_call 72; refine (HC.out).mono ?_; rintro e w' ⟨rfl, rfl⟩)
        go_ret
        exact ⟨ret_bool (by
          symm
          rw [Bool.eq_false_iff]
          intro hx
          unfold Bs.allInB at hx
          rw [List.all_eq_true] at hx
          exact absurd (hx _ (List.getElem_mem hlt)) (by rw [HE.out]; simp)), rfl⟩
      · have HE := Lib.hid he
        have hc1 := inRange_any l[k] a b w
        rw [he] at hc1
        have HC := Lib.hid hc1
        clear he hc1
        go_wp2_with (go_at_call 72; refine (HC.out).mono ?_; rintro e w' ⟨rfl, rfl⟩)
        go_round
        case rel => exact ⟨k + 1, by omega, by go_num, by have := Hn.out; unfold Bs.allInB at this ⊢; rw [HS.out, List.all_append, this]; simp only [List.all_cons, HE.out, List.all_nil]; rfl⟩
        case measure => simp [intOf]; omega
    · have He := Lib.hid (show l.take k = l from List.take_of_length_le (by omega))
      go_wp2
      go_ret
      exact ⟨ret_bool (by have := Hn.out; rw [He.out] at this; exact this.symm), rfl⟩

theorem ascends_any (A : Option Addr) (c : Nat) (l : List Int) (lo hi : Nat) (w : World) (h : RI w lo hi A l) (hl : l.length ≤ 9223372036854775807) :
    Calls Try.prog 97 #[.slice A l.length c] w fun e w' => e = .returned (.bool (Bs.asc l)) ∧ ∃ n, w' = w.drewN n := by
  go_enter Try.func97, Try.ntmps97
  go_wp2
  go_loopw [3] (fun i wr => ∃ k : Nat, 1 ≤ k ∧ (k ≤ l.length ∨ k = 1) ∧ i = .int .i64 k ∧ (∀ j (hj : j + 1 < l.length), j + 1 < k → l[j] < l[j + 1]) ∧ ∃ n, wr = w.drewN n) (fun i _ => l.length - (intOf i).toNat)
  case atStart => exact ⟨1, by omega, by omega, rfl, by intro j _ h; omega, 0, rfl⟩
  case round =>
    obtain ⟨k, hk1, hk, rfl, hn, n, rfl⟩ := hrel
    have Hn := Lib.hid hn
    clear hn
    by_cases hlt : k < l.length
    · obtain ⟨b, o, rfl, _, _, hc⟩ := h.at_ hlt
      obtain ⟨b', o', e', _, _, hc'⟩ := h.at_ (k := k - 1) (by omega)
      cases e'
      by_cases hle : l[k] ≤ l[k - 1]
      · have hd : decide (l[k] ≤ l[k - 1]) = true := by simpa using hle
        have HL := Lib.hid hle
        clear hle
        go_wp2
        go_quiet (fail)
        go_wp2
        go_ret
        refine ⟨ret_bool ?_, _, by first | rfl | rw [World.drewN_drewN]⟩
        symm
        rw [Bool.eq_false_iff]
        intro hx
        have h1 := (Bs.asc_iff l).1 hx (k - 1) (by omega)
        have h2 := HL.out
        have h3 : k - 1 + 1 = k := by omega
        simp only [h3] at h1
        omega
      · have hd : decide (l[k] ≤ l[k - 1]) = false := by simpa using hle
        have HL := Lib.hid hle
        clear hle
        go_wp2
        go_quiet (fail)
        go_wp2
        go_roundw
        case rel =>
          refine ⟨k + 1, by omega, by omega, by go_num, ?_, _, by first | rfl | rw [World.drewN_drewN]⟩
          intro j hj hjk
          by_cases e : j + 1 < k
          · exact Hn.out j hj e
          · have h2 := HL.out
            have h3 : j = k - 1 := by omega
            subst h3
            have h4 : k - 1 + 1 = k := by omega
            simp only [h4]
            omega
        case measure => simp [intOf]; omega
    · go_wp2
      go_ret
      refine ⟨ret_bool ?_, _, rfl⟩
      symm
      rw [Bs.asc_iff]
      intro j hj
      exact Hn.out j hj (by omega)

theorem isTask_any (A : Option Addr) (n c : Nat) (a : Int) (w : World) (_hn : n ≤ 9223372036854775807) :
    Calls Try.prog 75 #[.slice A n c, .int .i64 a] w fun e w' => e = .returned (.bool (decide (0 ≤ a ∧ a < n))) ∧ w = w' := by
  go_enter Try.func75, Try.ntmps75
  go_wp2
  all_goals go_ret
  all_goals exact ⟨ret_bool (by simp; try omega), rfl⟩

theorem u64_pow (a : Nat) (ha : a < 8) : IntKind.u64.wrap (2 ^ a) = ((2 ^ a : Nat) : Int) := by
  rw [IntKind.wrap_u64]
  have h : a = 0 ∨ a = 1 ∨ a = 2 ∨ a = 3 ∨ a = 4 ∨ a = 5 ∨ a = 6 ∨ a = 7 := by omega
  rcases h with rfl | rfl | rfl | rfl | rfl | rfl | rfl | rfl <;> rfl
theorem pow_lt8 {a : Nat} (ha : a < 8) : 2 ^ a < 256 := by
  have h : a = 0 ∨ a = 1 ∨ a = 2 ∨ a = 3 ∨ a = 4 ∨ a = 5 ∨ a = 6 ∨ a = 7 := by omega
  rcases h with rfl | rfl | rfl | rfl | rfl | rfl | rfl | rfl <;> decide
theorem or_pow (s a : Nat) (hs : s < 256) (ha : a < 8) : bits .or .u64 (s : Int) (IntKind.u64.wrap (2 ^ a)) = ((s ||| (1 <<< a) : Nat) : Int) := by
  rw [u64_pow a ha, bits_or_u64_nat s (2 ^ a) (by omega) (by have := pow_lt8 ha; omega), Nat.one_shiftLeft]
theorem and_pow (s a : Nat) (hs : s < 256) (ha : a < 8) : (bits .and .u64 (s : Int) (IntKind.u64.wrap (2 ^ a)) != 0) = s.testBit a := by
  rw [u64_pow a ha, bits_and_u64_nat s (2 ^ a) (by omega) (by have := pow_lt8 ha; omega), Nat.testBit_eq_decide_div_mod_eq]
  have h2 := Nat.two_pow_pos a
  have h3 : s &&& 2 ^ a = s / 2 ^ a % 2 * 2 ^ a := nat_bit a s
  rw [h3]
  rcases Nat.mod_two_eq_zero_or_one (s / 2 ^ a) with h4 | h4
  · rw [h4]; simp
  · rw [h4, Nat.one_mul]
    simp only [decide_true, bne_iff_ne, ne_eq]
    omega

theorem hasTask_any (s a : Nat) (w : World) (hs : s < 256) (ha : a < 8) :
    Calls Try.prog 80 #[.int .u64 s, .int .i64 a] w fun e w' => e = .returned (.bool (s.testBit a)) ∧ w = w' := by
  go_enter Try.func80, Try.ntmps80
  go_wp2
  go_ret
  exact ⟨ret_bool (and_pow s a hs ha), rfl⟩

theorem setOf_any (A : Option Addr) (c : Nat) (l : List Int) (lo hi : Nat) (w : World) (h : RI w lo hi A l) (hl : l.length ≤ 9223372036854775807) (h8 : ∀ x ∈ l, 0 ≤ x ∧ x < 8) :
    Calls Try.prog 48 #[.slice A l.length c] w fun e w' => e = .returned (.int .u64 (Bs.bits l : Nat)) ∧ w = w' := by
  go_enter Try.func48, Try.ntmps48
  go_wp2
  go_loop [3, 8] (fun s i => ∃ k : Nat, k ≤ l.length ∧ i = .int .i64 k ∧ s = .int .u64 (Bs.bits (l.take k) : Nat)) (fun _ i => l.length - (intOf i).toNat)
  case atStart => exact ⟨0, Nat.zero_le _, rfl, rfl⟩
  case round =>
    obtain ⟨k, hk, rfl, rfl⟩ := hrel
    have H8 := Lib.hid h8
    clear h8
    by_cases hlt : k < l.length
    · obtain ⟨b, o, rfl, _, _, hc⟩ := h.at_ hlt
      have hx := H8.out _ (List.getElem_mem hlt)
      obtain ⟨a, ha⟩ : ∃ a : Nat, l[k] = (a : Int) := ⟨l[k].toNat, by omega⟩
      rw [ha] at hc hx
      have ha8 : a < 8 := by omega
      clear hx
      have hs := Bs.bits_lt (l.take k) (fun x hx => H8.out x (List.mem_of_mem_take hx))
      have HS := Lib.hid (show Bs.bits (l.take (k + 1)) = Bs.bits (l.take k) ||| (1 <<< a) from by
        rw [show l.take (k + 1) = l.take k ++ [l[k]] from List.take_succ_eq_append_getElem hlt, Bs.bits_snoc, ha, Int.toNat_natCast])
      have HA := Lib.hid ha
      clear ha
      generalize Bs.bits (l.take k) = s at *
      go_wp2
      go_round
      case rel => exact ⟨k + 1, by omega, by go_num, by rw [HS.out, or_pow s a hs ha8]⟩
      case measure => simp [intOf]; omega
    · have He := Lib.hid (show l.take k = l from List.take_of_length_le (by omega))
      go_wp2
      go_ret
      exact ⟨ret_int (by rw [He.out]), rfl⟩

theorem ascendingTasks_any (A : Option Addr) (n c : Nat) (A' : Option Addr) (c' : Nat) (l : List Int) (lo hi : Nat) (w : World) (hn : n ≤ 9223372036854775807) (h : RI w lo hi A' l) (hl : l.length ≤ 9223372036854775807) :
    Calls Try.prog 46 #[.slice A n c, .slice A' l.length c'] w fun e w' => e = .returned (.bool (Bs.allInB l 0 (n - 1) && Bs.asc l)) ∧ w = w' := by
  go_enter Try.func46, Try.ntmps46
  go_wp2
  go_loop [5, 10] (fun s i => ∃ k : Nat, ∃ q : Int, k ≤ l.length ∧ i = .int .i64 k ∧ s = .int .i64 q ∧ -1 ≤ q ∧ (∀ h : 0 < k, ∃ h' : k - 1 < l.length, q = l[k - 1]) ∧ (∀ j (hj : j < l.length), j < k → 0 ≤ l[j] ∧ l[j] < n) ∧ (∀ j (hj : j + 1 < l.length), j + 1 < k → l[j] < l[j + 1]) ∧ (k = 0 → q = -1)) (fun _ i => l.length - (intOf i).toNat)
  case atStart => exact ⟨0, -1, Nat.zero_le _, rfl, rfl, by omega, by intro h; omega, by intro j _ h; omega, by intro j _ h; omega, fun _ => rfl⟩
  case round =>
    obtain ⟨k, q, hk, rfl, rfl, hq, h1, h2, h3, h4⟩ := hrel
    have H1 := Lib.hid h1
    have H2 := Lib.hid h2
    have H3 := Lib.hid h3
    have H4 := Lib.hid h4
    clear h1 h2 h3 h4
    by_cases hlt : k < l.length
    · obtain ⟨b, o, rfl, _, _, hc⟩ := h.at_ hlt
      by_cases hle : l[k] ≤ q
      · have hd : decide (l[k] ≤ q) = true := by simpa using hle
        have HL := Lib.hid hle
        clear hle
        go_wp2_with (go_at_call 75; refine (isTask_any _ _ _ _ _ hn).mono ?_; rintro e w' ⟨rfl, rfl⟩)
        go_ret
        refine ⟨ret_bool ?_, rfl⟩
        symm
        rw [Bool.eq_false_iff]
        intro hx
        rw [Bool.and_eq_true] at hx
        obtain ⟨hx1, hx2⟩ := hx
        unfold Bs.allInB at hx1
        rw [List.all_eq_true] at hx1
        have h5 := hx1 _ (List.getElem_mem hlt)
        rw [decide_eq_true_eq] at h5
        have h6 := HL.out
        by_cases e : k = 0
        · have := H4.out e; omega
        · obtain ⟨h7, h8⟩ := H1.out (by omega)
          have h9 := (Bs.asc_iff l).1 hx2 (k - 1) (by omega)
          have h10 : k - 1 + 1 = k := by omega
          simp only [h10] at h9
          omega
      · have hd : decide (l[k] ≤ q) = false := by simpa using hle
        have HL := Lib.hid hle
        clear hle
        cases he : decide (0 ≤ l[k] ∧ l[k] < n)
        · have hc1 := isTask_any A n c l[k] w hn
          rw [he] at hc1
          have HC := Lib.hid hc1
          have HE := Lib.hid he
          clear he hc1
          go_wp2_with (go_at_call 75; refine (HC.out).mono ?_; rintro e w' ⟨rfl, rfl⟩)
          go_ret
          refine ⟨ret_bool ?_, rfl⟩
          symm
          rw [Bool.eq_false_iff]
          intro hx
          rw [Bool.and_eq_true] at hx
          obtain ⟨hx1, hx2⟩ := hx
          unfold Bs.allInB at hx1
          rw [List.all_eq_true] at hx1
          have h5 := hx1 _ (List.getElem_mem hlt)
          rw [decide_eq_true_eq] at h5
          have h6 := HE.out
          rw [decide_eq_false_iff_not] at h6
          omega
        · have hc1 := isTask_any A n c l[k] w hn
          rw [he] at hc1
          have HC := Lib.hid hc1
          have HE := Lib.hid (of_decide_eq_true he)
          clear he hc1
          go_wp2_with (go_at_call 75; refine (HC.out).mono ?_; rintro e w' ⟨rfl, rfl⟩)
          go_round
          case rel =>
            have h6 := HE.out
            have h7 := HL.out
            refine ⟨k + 1, l[k], by omega, by go_num, rfl, by omega, fun _ => ⟨by omega, rfl⟩, ?_, ?_, by omega⟩
            · intro j hj hjk
              by_cases e : j < k
              · exact H2.out j hj e
              · have : j = k := by omega
                subst this
                exact h6
            · intro j hj hjk
              by_cases e : j + 1 < k
              · exact H3.out j hj e
              · have : j + 1 = k := by omega
                obtain ⟨h8, h9⟩ := H1.out (by omega)
                subst this
                simp only [Nat.add_sub_cancel] at h9
                omega
          case measure => simp [intOf]; omega
    · go_wp2
      go_ret
      refine ⟨ret_bool ?_, rfl⟩
      symm
      rw [Bool.and_eq_true]
      refine ⟨?_, ?_⟩
      · unfold Bs.allInB
        rw [List.all_eq_true]
        intro x hx
        obtain ⟨j, hj, rfl⟩ := List.mem_iff_getElem.1 hx
        have := H2.out j hj (by omega)
        rw [decide_eq_true_eq]
        omega
      · rw [Bs.asc_iff]
        intro j hj
        exact H3.out j hj (by omega)
end Go.Proofs.Ytihgakbopkaemaa
namespace Go.Proofs.Ytihgakbopkaemaa
open Go.RowKit

theorem validTaskS_any (t : Bs.T) (N : Option Addr) (c : Nat) (n : Int) (lo hi : Nat) (w : World) (h : RI w lo hi N t.needs) (hh : hi ≤ w.heap.size) (hl : t.needs.length ≤ 9223372036854775807) (hn : 0 ≤ n) (hn' : n ≤ 9223372036854775807) :
    Calls Try.prog 112 #[.agg #[.int .i64 t.time, .slice N t.needs.length c, .int .i64 t.pool, .int .i64 t.units], .int .i64 n] w fun e w' => e = .returned (.bool (Bs.validT n t)) ∧ Below w.heap.size w w' := by
  have hA : ∀ o, RI (w.alloc o) lo hi N t.needs := fun o => h.keep fun p _ hp => World.cell?_alloc_lt w o p (by omega)
  go_enter Try.func112, Try.ntmps112
  have c1 := fun w => inRange_any t.time 1 20 w
  generalize hb1 : decide (1 ≤ t.time ∧ t.time ≤ 20) = b1 at c1
  have c2 := fun w => inRange_any t.pool 0 2 w
  generalize hb2 : decide (0 ≤ t.pool ∧ t.pool ≤ 2) = b2 at c2
  have c3 := fun w => inRange_any t.units 1 4 w
  generalize hb3 : decide (1 ≤ t.units ∧ t.units ≤ 4) = b3 at c3
  have c4 := fun o => allIn_any N c t.needs 0 (n - 1) lo hi (w.alloc o) (hA o) hl
  generalize hb4 : Bs.allInB t.needs 0 (n - 1) = b4 at c4
  have c5 := fun o => ascends_any N c t.needs lo hi (w.alloc o) (hA o) hl
  generalize hb5 : Bs.asc t.needs = b5 at c5
  have B1 := Lib.hid hb1
  have B2 := Lib.hid hb2
  have B3 := Lib.hid hb3
  have B4 := Lib.hid hb4
  have B5 := Lib.hid hb5
  have C1 := Lib.hid c1
  have C2 := Lib.hid c2
  have C3 := Lib.hid c3
  have C4 := Lib.hid c4
  have C5 := Lib.hid c5
  clear hb1 hb2 hb3 hb4 hb5 c1 c2 c3 c4 c5
  have hv : Bs.validT n t = (b1 && b2 && b3 && b4 && b5) := by unfold Bs.validT; rw [B1.out, B2.out, B3.out, B4.out, B5.out]
  have HV := Lib.hid hv
  clear hv
  go_wp2_with fail
  refine (C1.out _).mono ?_; rintro e w' ⟨rfl, rfl⟩
  go_wp2_with fail
  · refine (C2.out _).mono ?_; rintro e w' ⟨rfl, rfl⟩
    go_wp2_with fail
    · refine (C3.out _).mono ?_; rintro e w' ⟨rfl, rfl⟩
      go_wp2_with fail
      · refine (C4.out _).mono ?_; rintro e w' ⟨rfl, rfl⟩
        go_wp2_with fail
        · refine (C5.out _).mono ?_; rintro e w' ⟨rfl, n, rfl⟩
          go_wp2_with fail
          go_ret
          exact ⟨ret_bool (by rw [HV.out]; simp [*]), by exact ((Below.refl _ _).alloc (Nat.le_refl _) _).drewN _⟩
        · go_ret
          exact ⟨ret_bool (by rw [HV.out]; simp [*]), by exact (Below.refl _ _).alloc (Nat.le_refl _) _⟩
      · go_ret
        exact ⟨ret_bool (by rw [HV.out]; simp [*]), by exact (Below.refl _ _).alloc (Nat.le_refl _) _⟩
    · go_ret
      exact ⟨ret_bool (by rw [HV.out]; simp [*]), by exact (Below.refl _ _).alloc (Nat.le_refl _) _⟩
  · go_ret
    exact ⟨ret_bool (by rw [HV.out]; simp [*]), by exact (Below.refl _ _).alloc (Nat.le_refl _) _⟩

theorem validTaskI_any (A0 : Option Addr) (n c0 : Nat) (t : Bs.T) (N : Option Addr) (c : Nat) (lo hi : Nat) (w : World) (h : RI w lo hi N t.needs) (hh : hi ≤ w.heap.size) (hl : t.needs.length ≤ 9223372036854775807) (hn' : n ≤ 9223372036854775807) :
    Calls Try.prog 86 #[.slice A0 n c0, .agg #[.int .i64 t.time, .slice N t.needs.length c, .int .i64 t.pool, .int .i64 t.units]] w fun e w' => e = .returned (.bool (Bs.validT n t)) ∧ Below w.heap.size w w' := by
  have hA : ∀ o, RI (w.alloc o) lo hi N t.needs := fun o => h.keep fun p _ hp => World.cell?_alloc_lt w o p (by omega)
  have c4 := fun o => ascendingTasks_any A0 n c0 N c t.needs lo hi (w.alloc o) hn' (hA o) hl
  generalize hb4 : (Bs.allInB t.needs 0 (n - 1) && Bs.asc t.needs) = b4 at c4
  have C4 := Lib.hid c4
  have HV := Lib.hid (Bs.validT_iff n t)
  rw [hb4] at HV
  clear c4 hb4
  go_enter Try.func86, Try.ntmps86
  go_wp2_with (go_at_call 46; refine (C4.out _).mono ?_; rintro e w' ⟨rfl, rfl⟩)
  all_goals go_ret
  all_goals refine ⟨ret_bool ?_, by exact (Below.refl _ _).alloc (Nat.le_refl _) _⟩
  all_goals
    have HW := HV.out
    clear HV C4 hA
    cases hv : Bs.validT n t
    · first
      | rfl
      | (rw [hv] at HW
         cases b4
         · rfl
         · exfalso
           have := HW.2 ⟨by omega, by omega, by omega, by omega, by omega, by omega, rfl⟩
           simp at this)
    · have := HW.1 hv
      first
      | omega
      | exact this.2.2.2.2.2.2.symm
      | exact this.2.2.2.2.2.2


theorem tasksFine_any (A : Option Addr) (c : Nat) (g : List Bs.T) (lo hi : Nat) (w : World) (h : RG w lo hi A g) (hh : hi ≤ w.heap.size) (hl : g.length ≤ 9223372036854775807) :
    Calls Try.prog 95 #[.slice A g.length c] w fun e w' => e = .returned (.bool (Bs.fine g)) ∧ Below w.heap.size w w' := by
  go_enter Try.func95, Try.ntmps95
  go_wp2
  go_loopw [3] (fun i wr => ∃ k : Nat, k ≤ g.length ∧ i = .int .i64 k ∧ (∀ j (hj : j < g.length), j < k → Bs.validT g.length g[j] = true) ∧ Below w.heap.size w wr) (fun i _ => g.length - (intOf i).toNat)
  case atStart => exact ⟨0, Nat.zero_le _, rfl, by intro j _ h; omega, Below.refl _ _⟩
  case round =>
    obtain ⟨k, hk, rfl, hn, hb⟩ := hrel
    have Hn := Lib.hid hn
    clear hn
    have hsz := hb.size
    by_cases hlt : k < g.length
    · have hr := h.below hb hh
      obtain ⟨b, o, N, cN, rfl, h1, h2, q0, q1, q2, q3, hlN, hcN, hN⟩ := hr k hlt
      clear hr
      have c1 := validTaskS_any g[k] N cN g.length lo hi wr hN (by omega) (by omega) (by omega) (by omega)
      generalize hv : Bs.validT g.length g[k] = bv at c1
      have HV := Lib.hid hv
      have C1 := Lib.hid c1
      clear hv c1
      cases bv
      · go_wp2_with (go_at_call 112; refine (C1.out).mono ?_; rintro e w' ⟨rfl, hb'⟩)
        go_ret
        refine ⟨ret_bool ?_, by exact hb.trans (hb'.mono (by omega))⟩
        symm
        rw [Bool.eq_false_iff]
        intro hx
        simp only [Bs.fine, Bool.and_eq_true, List.all_eq_true] at hx
        have := hx.1 _ (List.getElem_mem hlt)
        rw [HV.out] at this
        exact absurd this (by simp)
      · go_wp2_with (go_at_call 112; refine (C1.out).mono ?_; rintro e w' ⟨rfl, hb'⟩)
        go_roundw
        case rel =>
          refine ⟨k + 1, by omega, by go_num, ?_, hb.trans (hb'.mono (by omega))⟩
          intro j hj hjk
          by_cases e : j < k
          · exact Hn.out j hj e
          · have : j = k := by omega
            subst this
            exact HV.out
        case measure => simp [intOf]; omega
    · go_wp2
      go_ret
      refine ⟨ret_bool ?_, by exact hb⟩
      have hall : (g.all (Bs.validT g.length)) = true := by
        rw [List.all_eq_true]
        intro x hx
        obtain ⟨j, hj, rfl⟩ := List.mem_iff_getElem.1 hx
        exact Hn.out j hj (by omega)
      unfold Bs.fine
      rw [hall]
      simp
      omega

theorem validTasks_any (A : Option Addr) (c : Nat) (g : List Bs.T) (lo hi : Nat) (w : World) (h : RG w lo hi A g) (hh : hi ≤ w.heap.size) (hl : g.length ≤ 9223372036854775807) :
    Calls Try.prog 62 #[.slice A g.length c] w fun e w' => e = .returned (.bool (Bs.fine g)) ∧ Below w.heap.size w w' := by
  by_cases h8 : 8 < g.length
  · go_enter Try.func62, Try.ntmps62
    go_wp2
    go_ret
    refine ⟨ret_bool ?_, Below.refl _ _⟩
    unfold Bs.fine
    rw [show decide (g.length ≤ 8) = false from by simpa using h8]
    simp
  · go_enter Try.func62, Try.ntmps62
    go_wp2
    go_loopw [10] (fun i wr => ∃ k : Nat, k ≤ g.length ∧ i = .int .i64 k ∧ (∀ j (hj : j < g.length), j < k → Bs.validT g.length g[j] = true) ∧ Below w.heap.size w wr) (fun i _ => g.length - (intOf i).toNat)
    case atStart => exact ⟨0, Nat.zero_le _, rfl, by intro j _ h; omega, Below.refl _ _⟩
    case round =>
      obtain ⟨k, hk, rfl, hn, hb⟩ := hrel
      have Hn := Lib.hid hn
      clear hn
      have hsz := hb.size
      by_cases hlt : k < g.length
      · have hr := h.below hb hh
        obtain ⟨b, o, N, cN, rfl, h1, h2, q0, q1, q2, q3, hlN, hcN, hN⟩ := hr k hlt
        clear hr
        have hA : ∀ ob, RI (wr.alloc ob) lo hi N g[k].needs := fun ob => hN.keep fun p _ hp => World.cell?_alloc_lt wr ob p (by omega)
        have c1 := fun ob => validTaskI_any (some ⟨b, o, none⟩) g.length c g[k] N cN lo hi (wr.alloc ob) (hA ob) (by simp; omega) (by omega) (by omega)
        generalize hv : Bs.validT g.length g[k] = bv at c1
        have HV := Lib.hid hv
        have C1 := Lib.hid c1
        clear hv c1 hA
        cases bv
        · go_wp2_with (go_at_call 86; refine (C1.out _).mono ?_; rintro e w' ⟨rfl, hb'⟩)
          go_ret
          refine ⟨ret_bool ?_, by exact (hb.alloc hsz _).trans (hb'.mono (by simp; omega))⟩
          symm
          rw [Bool.eq_false_iff]
          intro hx
          simp only [Bs.fine, Bool.and_eq_true, List.all_eq_true] at hx
          have := hx.1 _ (List.getElem_mem hlt)
          rw [HV.out] at this
          exact absurd this (by simp)
        · go_wp2_with (go_at_call 86; refine (C1.out _).mono ?_; rintro e w' ⟨rfl, hb'⟩)
          go_roundw
          case rel =>
            refine ⟨k + 1, by omega, by go_num, ?_, (hb.alloc hsz _).trans (hb'.mono (by simp; omega))⟩
            intro j hj hjk
            by_cases e : j < k
            · exact Hn.out j hj e
            · have : j = k := by omega
              subst this
              exact HV.out
          case measure => simp [intOf]; omega
      · go_wp2
        go_ret
        refine ⟨ret_bool ?_, by exact hb⟩
        have hall : (g.all (Bs.validT g.length)) = true := by
          rw [List.all_eq_true]
          intro x hx
          obtain ⟨j, hj, rfl⟩ := List.mem_iff_getElem.1 hx
          exact Hn.out j hj (by omega)
        unfold Bs.fine
        rw [hall]
        simp
        omega
end Go.Proofs.Ytihgakbopkaemaa
namespace Go.Proofs.Ytihgakbopkaemaa
open Go.RowKit

set_option maxHeartbeats 800000 in
theorem topOrder_any (A : Option Addr) (c : Nat) (g : List Bs.T) (lo hi : Nat) (w : World) (h : RG w lo hi A g) (hh : hi ≤ w.heap.size) (hl : g.length ≤ 8) :
    Calls Try.prog 96 #[.slice A g.length c] w fun e w' => (∃ A' c', e = .returned (.slice A' (Bs.top g).length c') ∧ OI w' w.heap.size A' c' (Bs.top g)) ∧ Below w.heap.size w w' := by
  obtain ⟨i0, hi0, hz0, hz1, hz2⟩ := info_parts Try.info3
  go_enter Try.func96, Try.ntmps96
  go_wp2
  go_loopw [3] (fun v wr => ∃ A' c' out, v = .slice A' (List.length out) c' ∧ OI wr w.heap.size A' c' out ∧ Bs.Mid g out ∧ Below w.heap.size w wr) (fun v _ => g.length - lenOf v)
  case atStart => exact ⟨_, _, [], rfl, OI.new w _ (Nat.le_refl _), Bs.Mid.start g, (Below.refl _ _).alloc (Nat.le_refl _) _⟩
  case round =>
    obtain ⟨A', c', out, rfl, ho, hm, hb⟩ := hrel
    have hro := ho.ri
    have hol := hm.1.le
    have hr := h.below hb hh
    have hsz := hb.size
    go_wp2
    go_loop [4, 5] (fun nx i => ∃ (k : Nat) (q : Int), k ≤ g.length ∧ i = .int .i64 k ∧ nx = .int .i64 q ∧ Bs.Look g out k q) (fun _ i => g.length - (intOf i).toNat)
    case atStart => exact ⟨0, -1, Nat.zero_le _, rfl, rfl, Bs.Look.start _ _⟩
    case round =>
      obtain ⟨k, q, hk, rfl, rfl, hlook⟩ := hrel
      by_cases hq : q < 0
      · have hq1 : q = -1 := by rcases hlook with ⟨e, _⟩ | ⟨m, _, e, _⟩ <;> omega
        subst hq1
        have HL := Lib.hid hlook
        clear hlook hq
        by_cases hlt : k < g.length
        · obtain ⟨b, o, N, cN, rfl, h1, h2, q0, q1, q2, q3, hlN, hcN, hN⟩ := hr k hlt
          have c1 := isIn_any A' c' out (k : Int) w.heap.size wr.heap.size wr hro (by omega)
          generalize hv1 : out.contains (k : Int) = b1 at c1
          have c2 := allDone_any N cN g[k].needs A' c' out lo hi w.heap.size wr.heap.size wr hN hro (by omega) (by omega)
          generalize hv2 : (g[k].needs.all fun x => out.contains x) = b2 at c2
          have HV := Lib.hid (show Bs.okNext g out k = (!b1 && b2) from by rw [Bs.okNext_eq hlt, hv1, hv2])
          have C1 := Lib.hid c1
          have C2 := Lib.hid c2
          clear c1 c2 hv1 hv2
          cases b1
          · cases b2
            · go_wp2_with (first | (go_at_call 101; refine (C1.out).mono ?_; rintro e w' ⟨rfl, rfl⟩) | (go_at_call 102; refine (C2.out).mono ?_; rintro e w' ⟨rfl, rfl⟩))
              go_round
              case rel => exact ⟨k + 1, -1, by omega, by go_num, rfl, HL.out.no HV.out⟩
              case measure => simp [intOf]; omega
            · go_wp2_with (first | (go_at_call 101; refine (C1.out).mono ?_; rintro e w' ⟨rfl, rfl⟩) | (go_at_call 102; refine (C2.out).mono ?_; rintro e w' ⟨rfl, rfl⟩))
              go_round
              case rel => exact ⟨k + 1, k, by omega, by go_num, rfl, HL.out.yes hlt HV.out⟩
              case measure => simp [intOf]; omega
          · go_wp2_with (first | (go_at_call 101; refine (C1.out).mono ?_; rintro e w' ⟨rfl, rfl⟩) | (go_at_call 102; refine (C2.out).mono ?_; rintro e w' ⟨rfl, rfl⟩))
            go_round
            case rel => exact ⟨k + 1, -1, by omega, by go_num, rfl, HL.out.no (by rw [HV.out]; rfl)⟩
            case measure => simp [intOf]; omega
        · have hnone := HL.out.none_ (by omega) (by omega)
          have HN := Lib.hid hnone
          clear hnone
          go_wp2
          go_ret
          have he := hm.stop HN.out
          subst he
          exact ⟨⟨A', c', rfl, ho⟩, hb⟩
      · have hsome := hlook.some_ (by omega)
        have hst := hm.step hsome
        have hlt := Bs.nxt_lt hm.1 hsome
        have HS := Lib.hid hsome
        have HT := Lib.hid hst
        clear hsome hst hlook
        by_cases hlt2 : k < g.length
        all_goals
          go_wp2_with (at_builtin; refine push_int rfl _ _ rfl w.heap.size A' c' out q rfl (ho.alloc _) wr.heap.size 1 rfl (by simp [go_sem]) (by omega) (by simp; omega) ?_; intro A2 c2 w2 ho2 hb2 _)
          have hsz2 := hb2.size
          go_wp2
          go_roundw
          case rel => exact ⟨A2, c2, out ++ [q], by simp, ho2, by have := HT.out; rw [show ((q.toNat : Nat) : Int) = q from by omega] at this; exact this, (hb.alloc hsz _).trans hb2⟩
          case measure => simp [lenOf]; omega
end Go.Proofs.Ytihgakbopkaemaa
namespace Go.Proofs.Ytihgakbopkaemaa
open Go.RowKit
set_option maxHeartbeats 800000 in
theorem nextTask_any (A : Option Addr) (c : Nat) (g : List Bs.T) (out : List Int) (lo hi : Nat) (w : World) (h : RG w lo hi A g) (hh : hi ≤ w.heap.size) (hf : Bs.fine g = true) (hd : Bs.Dist g.length out) :
    Calls Try.prog 87 #[.slice A g.length c, .int .u64 (Bs.bits out : Nat)] w fun e w' => e = .returned (.int .i64 (Bs.nxtI g out)) ∧ Below w.heap.size w w' := by
  have hl := Bs.fine_len hf
  have hout := hd.eight hl
  have hd8 := Bs.bits_lt out hout
  have hneed := fun (k : Nat) (hk : k < g.length) => Bs.need_eight hf hk
  have HF := Lib.hid hf
  have HO := Lib.hid hout
  have HD := Lib.hid hneed
  clear hf hout hneed
  have ht : ∀ k : Nat, (Bs.bits out).testBit k = out.contains (k : Int) := Bs.bits_test out (fun x hx => (HO.out x hx).1)
  have hbs : ∀ l : List Int, (∀ x ∈ l, 0 ≤ x ∧ x < 8) → (bits .andNot .u64 ((Bs.bits l : Nat) : Int) ((Bs.bits out : Nat) : Int) == 0) = (l.all fun x => out.contains x) := by
    intro l hl8
    have h1 := Bs.bits_lt l hl8
    rw [u64_andNot_nat _ _ (by omega) (by omega), Bool.eq_iff_iff, ← Bs.bits_sub l out hl8 HO.out]
    simp only [beq_iff_eq]
    omega
  generalize Bs.bits out = d at *
  have HT := Lib.hid ht
  have HB := Lib.hid hbs
  clear ht hbs
  go_enter Try.func87, Try.ntmps87
  go_wp2
  go_loopw [9] (fun i wr => ∃ k : Nat, k ≤ g.length ∧ i = .int .i64 k ∧ Bs.Look g out k (-1) ∧ Below w.heap.size w wr) (fun i _ => g.length - (intOf i).toNat)
  case atStart => exact ⟨0, Nat.zero_le _, rfl, Bs.Look.start _ _, Below.refl _ _⟩
  case round =>
    obtain ⟨k, hk, rfl, hlook, hb⟩ := hrel
    have hsz := hb.size
    have HL := Lib.hid hlook
    clear hlook
    by_cases hlt : k < g.length
    · have hr := h.below hb hh
      obtain ⟨b, o, N, cN, rfl, h1, h2, q0, q1, q2, q3, hlN, hcN, hN⟩ := hr k hlt
      clear hr
      have hA : ∀ ob, RI (wr.alloc ob) lo hi N g[k].needs := fun ob => hN.keep fun p _ hp => World.cell?_alloc_lt wr ob p (by omega)
      have c1 := fun w' => hasTask_any d k w' hd8 (by omega)
      rw [HT.out k] at c1
      generalize hv1 : out.contains (k : Int) = b1 at c1
      have c2 := fun ob => setOf_any N cN g[k].needs lo hi (wr.alloc ob) (hA ob) (by omega) (HD.out k hlt)
      have hz := HB.out g[k].needs (HD.out k hlt)
      generalize hv2 : (g[k].needs.all fun x => out.contains x) = b2 at hz
      generalize Bs.bits g[k].needs = s at hz c2
      have HV := Lib.hid (show Bs.okNext g out k = (!b1 && b2) from by rw [Bs.okNext_eq hlt, hv1, hv2])
      have C1 := Lib.hid c1
      have C2 := Lib.hid c2
      clear c1 c2 hv1 hv2 hA
      cases b1
      · cases b2
        · go_wp2_with (first | (go_at_call 80; refine (C1.out _).mono ?_; rintro e w' ⟨rfl, rfl⟩) | (go_at_call 48; refine (C2.out _).mono ?_; rintro e w' ⟨rfl, rfl⟩))
          go_roundw
          case rel => exact ⟨k + 1, by omega, by go_num, HL.out.no HV.out, hb.alloc hsz _⟩
          case measure => simp [intOf]; omega
        · go_wp2_with (first | (go_at_call 80; refine (C1.out _).mono ?_; rintro e w' ⟨rfl, rfl⟩) | (go_at_call 48; refine (C2.out _).mono ?_; rintro e w' ⟨rfl, rfl⟩))
          go_ret
          exact ⟨ret_int (HL.out.ans_yes hlt HV.out).symm, by exact hb.alloc hsz _⟩
      · go_wp2_with (first | (go_at_call 80; refine (C1.out _).mono ?_; rintro e w' ⟨rfl, rfl⟩) | (go_at_call 48; refine (C2.out _).mono ?_; rintro e w' ⟨rfl, rfl⟩))
        go_roundw
        case rel => exact ⟨k + 1, by omega, by go_num, HL.out.no (by rw [HV.out]; rfl), hb.alloc hsz _⟩
        case measure => simp [intOf]; omega
    · go_wp2
      go_ret
      exact ⟨ret_int (HL.out.ans (by omega)).symm, hb⟩

set_option maxHeartbeats 800000 in
theorem possibleOrder_any (A : Option Addr) (c : Nat) (g : List Bs.T) (lo hi : Nat) (w : World) (h : RG w lo hi A g) (hh : hi ≤ w.heap.size) (hf : Bs.fine g = true) :
    Calls Try.prog 63 #[.slice A g.length c] w fun e w' => (∃ A' c', e = .returned (.slice A' (Bs.top g).length c') ∧ OI w' w.heap.size A' c' (Bs.top g)) ∧ Below w.heap.size w w' := by
  have hl := Bs.fine_len hf
  have HF := Lib.hid hf
  clear hf
  go_enter Try.func63, Try.ntmps63
  go_wp2
  go_loopw [3, 4] (fun v s wr => ∃ A' c' out, v = .slice A' (List.length out) c' ∧ s = .int .u64 (Bs.bits out : Nat) ∧ OI wr w.heap.size A' c' out ∧ Bs.Mid g out ∧ Below w.heap.size w wr) (fun v _ _ => g.length - lenOf v)
  case atStart => exact ⟨_, _, [], rfl, rfl, OI.new w _ (Nat.le_refl _), Bs.Mid.start g, (Below.refl _ _).alloc (Nat.le_refl _) _⟩
  case round =>
    obtain ⟨A', c', out, rfl, rfl, ho, hm, hb⟩ := hrel
    have hol := hm.1.le
    have hr := h.below hb hh
    have hsz := hb.size
    by_cases hfull : out.length < g.length
    · have hout := Bs.bits_lt out (hm.1.eight hl)
      have c1 := nextTask_any A c g out lo hi wr hr (by omega) HF.out hm.1
      cases hn : Bs.nxt g out with
      | none =>
        have hx : Bs.nxtI g out = -1 := by unfold Bs.nxtI; rw [hn]
        rw [hx] at c1
        have C1 := Lib.hid c1
        have HN := Lib.hid (hm.stop hn)
        clear c1 hx hn
        go_wp2_with (go_at_call 87; refine (C1.out).mono ?_; rintro e w' ⟨rfl, hb'⟩)
        go_ret
        have he := HN.out
        subst he
        exact ⟨⟨A', c', rfl, ho.below hb' (Nat.le_refl _)⟩, hb.trans (hb'.mono hsz)⟩
      | some i =>
        have hx : Bs.nxtI g out = i := by unfold Bs.nxtI; rw [hn]
        rw [hx] at c1
        have hi8 : i < 8 := by have := (Bs.okNext_some hn).1; omega
        have C1 := Lib.hid c1
        have HT := Lib.hid (hm.step hn)
        have HS := Lib.hid (Bs.bits_snoc out (i : Int))
        clear c1 hx hn
        generalize Bs.bits out = d at *
        go_wp2_with (first | (go_at_call 87; refine (C1.out).mono ?_; rintro e w' ⟨rfl, hb'⟩; have hsz' := hb'.size; have ho' := ho.below hb' (Nat.le_refl _)) | (at_builtin; refine push_int rfl _ _ rfl w.heap.size A' c' out (i : Int) rfl (ho'.alloc _) w'.heap.size 1 rfl (by simp [go_sem]) (by omega) (by simp; omega) ?_; intro A2 c2 w2 ho2 hb2 _))
        have hsz2 := hb2.size
        go_wp2
        go_roundw
        case rel => exact ⟨A2, c2, out ++ [(i : Int)], by simp, by rw [HS.out, or_pow d i hout hi8, Int.toNat_natCast], ho2, HT.out, ((hb.trans (hb'.mono hsz)).alloc (by omega) _).trans hb2⟩
        case measure => simp [lenOf]; omega
    · go_wp2
      go_ret
      have he := hm.full (by omega)
      subst he
      exact ⟨⟨A', c', rfl, ho⟩, hb⟩
end Go.Proofs.Ytihgakbopkaemaa
namespace Go.Proofs.Ytihgakbopkaemaa
open Go.RowKit
/-- what is said of a list that a call hands back in memory of its own -/
def RetI (w : World) (L : List Int) (e : Ending) (w' : World) : Prop := (∃ A c, e = .returned (.slice A L.length c) ∧ OI w' w.heap.size A c L) ∧ Below w.heap.size w w'

theorem valid_false {g : List Bs.T} (h : Bs.fine g = false) : Bs.valid g = false := by unfold Bs.valid; rw [h]; rfl
theorem valid_true {g : List Bs.T} (h : Bs.fine g = true) : Bs.valid g = decide ((Bs.top g).length = g.length) := by unfold Bs.valid; rw [h]; rfl
theorem len_beq (a b : Nat) : ((a : Int) == (b : Int)) = decide (a = b) := by rw [Bool.eq_iff_iff]; simp only [beq_iff_eq, decide_eq_true_eq]; omega

theorem validGraphS_any (A : Option Addr) (c : Nat) (g : List Bs.T) (lo hi : Nat) (w : World) (h : RG w lo hi A g) (hh : hi ≤ w.heap.size) (hl : g.length ≤ 9223372036854775807) :
    Calls Try.prog 70 #[.slice A g.length c] w fun e w' => e = .returned (.bool (Bs.valid g)) ∧ Below w.heap.size w w' := by
  have c1 := tasksFine_any A c g lo hi w h hh hl
  cases hf : Bs.fine g
  · rw [hf] at c1
    have C1 := Lib.hid c1
    have HV := Lib.hid (valid_false hf)
    clear c1 hf
    go_enter Try.func70, Try.ntmps70
    go_wp2_with (go_at_call 95; refine (C1.out).mono ?_; rintro e w' ⟨rfl, hb⟩)
    go_ret
    exact ⟨ret_bool HV.out.symm, by exact hb⟩
  · rw [hf] at c1
    have C1 := Lib.hid c1
    have HV := Lib.hid (valid_true hf)
    have h8 := Bs.fine_len hf
    have c2 := fun w' (hb : Below w.heap.size w w') => topOrder_any A c g lo hi w' (h.below hb hh) (by have := hb.size; omega) h8
    have C2 := Lib.hid c2
    clear c1 c2 hf
    go_enter Try.func70, Try.ntmps70
    go_wp2_with (first | (go_at_call 95; refine (C1.out).mono ?_; rintro e w' ⟨rfl, hb⟩) | (go_at_call 96; refine (C2.out _ hb).mono ?_; rintro e w2 ⟨⟨A', c', rfl, _⟩, hb2⟩))
    go_ret
    exact ⟨ret_bool (by rw [HV.out, len_beq]), by exact hb.trans (hb2.mono hb.size)⟩
theorem ValidGraph_any (A : Option Addr) (c : Nat) (g : List Bs.T) (lo hi : Nat) (w : World) (h : RG w lo hi A g) (hh : hi ≤ w.heap.size) (hl : g.length ≤ 9223372036854775807) :
    Calls Try.prog 31 #[.slice A g.length c] w fun e w' => e = .returned (.bool (Bs.valid g)) ∧ Below w.heap.size w w' := by
  have c1 := validTasks_any A c g lo hi w h hh hl
  cases hf : Bs.fine g
  · rw [hf] at c1
    have C1 := Lib.hid c1
    have HV := Lib.hid (valid_false hf)
    clear c1 hf
    go_enter Try.func31, Try.ntmps31
    go_wp2_with (go_at_call 62; refine (C1.out).mono ?_; rintro e w' ⟨rfl, hb⟩)
    go_ret
    exact ⟨ret_bool HV.out.symm, by exact hb⟩
  · have c2 := fun w' (hb : Below w.heap.size w w') => possibleOrder_any A c g lo hi w' (h.below hb hh) (by have := hb.size; omega) hf
    rw [hf] at c1
    have C1 := Lib.hid c1
    have HV := Lib.hid (valid_true hf)
    have C2 := Lib.hid c2
    clear c1 c2 hf
    go_enter Try.func31, Try.ntmps31
    go_wp2_with (first | (go_at_call 62; refine (C1.out).mono ?_; rintro e w' ⟨rfl, hb⟩) | (go_at_call 63; refine (C2.out _ hb).mono ?_; rintro e w2 ⟨⟨A', c', rfl, _⟩, hb2⟩))
    go_ret
    exact ⟨ret_bool (by rw [HV.out, len_beq]), by exact hb.trans (hb2.mono hb.size)⟩

theorem topL_no {g : List Bs.T} (h : Bs.valid g = false) : Bs.topL g = [] := by unfold Bs.topL; rw [h]; rfl
theorem topL_yes {g : List Bs.T} (h : Bs.valid g = true) : Bs.topL g = Bs.top g := by unfold Bs.topL; rw [h]; rfl
theorem RetI.nil {w w' : World} (hb : Below w.heap.size w w') {L : List Int} (h : L = []) : RetI w L (.returned (.slice none 0 0)) w' := by
  subst h
  exact ⟨⟨none, 0, rfl, OI.nil _ _⟩, hb⟩
theorem RetI.after {w w1 w' : World} {L L' : List Int} {e : Ending} (hb : Below w.heap.size w w1) (h : RetI w1 L e w') (hL : L = L') : RetI w L' e w' := by
  subst hL
  obtain ⟨⟨A, c, he, ho⟩, hb'⟩ := h
  refine ⟨⟨A, c, he, ?_⟩, hb.trans (hb'.mono hb.size)⟩
  refine ⟨ho.1, ?_⟩
  rcases ho.2 with hn | ⟨g, cap, cur, hv, h1, rest⟩
  · exact .inl hn
  · exact .inr ⟨g, cap, cur, hv, Nat.le_trans hb.size h1, rest⟩
theorem possibleOrder_ret (A : Option Addr) (c : Nat) (g : List Bs.T) (lo hi : Nat) (w : World) (h : RG w lo hi A g) (hh : hi ≤ w.heap.size) (hf : Bs.fine g = true) :
    Calls Try.prog 63 #[.slice A g.length c] w (RetI w (Bs.top g)) := (possibleOrder_any A c g lo hi w h hh hf).mono fun _ _ h => h
theorem topOrder_ret (A : Option Addr) (c : Nat) (g : List Bs.T) (lo hi : Nat) (w : World) (h : RG w lo hi A g) (hh : hi ≤ w.heap.size) (hl : g.length ≤ 8) :
    Calls Try.prog 96 #[.slice A g.length c] w (RetI w (Bs.top g)) := (topOrder_any A c g lo hi w h hh hl).mono fun _ _ h => h
theorem valid_fine {g : List Bs.T} (h : Bs.valid g = true) : Bs.fine g = true := ((Bs.valid_iff g).1 h).1
theorem valid_full {g : List Bs.T} (h : Bs.valid g = true) : Bs.Full g := ((Bs.valid_iff g).1 h).2

theorem TopOrder_any (A : Option Addr) (c : Nat) (g : List Bs.T) (lo hi : Nat) (w : World) (h : RG w lo hi A g) (hh : hi ≤ w.heap.size) (hl : g.length ≤ 9223372036854775807) :
    Calls Try.prog 113 #[.slice A g.length c] w (RetI w (Bs.topL g)) := by
  have c1 := ValidGraph_any A c g lo hi w h hh hl
  cases hf : Bs.valid g
  · rw [hf] at c1
    have C1 := Lib.hid c1
    have HV := Lib.hid (topL_no hf)
    clear c1 hf
    go_enter Try.func113, Try.ntmps113
    go_wp2_with (go_at_call 31; refine (C1.out).mono ?_; rintro e w' ⟨rfl, hb⟩)
    go_ret
    exact RetI.nil hb HV.out
  · have c2 := fun w' (hb : Below w.heap.size w w') => possibleOrder_ret A c g lo hi w' (h.below hb hh) (by have := hb.size; omega) (valid_fine hf)
    rw [hf] at c1
    have C1 := Lib.hid c1
    have HV := Lib.hid (topL_yes hf)
    have C2 := Lib.hid c2
    clear c1 c2 hf
    go_enter Try.func113, Try.ntmps113
    go_wp2_with (first | (go_at_call 31; refine (C1.out).mono ?_; rintro e w' ⟨rfl, hb⟩) | (go_at_call 63; refine (C2.out _ hb).mono ?_; rintro e w2 ⟨⟨A', c', rfl, ho⟩, hb2⟩))
    go_ret
    exact RetI.after hb ⟨⟨A', c', rfl, ho⟩, hb2⟩ HV.out.symm
end Go.Proofs.Ytihgakbopkaemaa
namespace Go.Proofs.Ytihgakbopkaemaa
open Go.RowKit
/-- a row of integers from block B on, or an empty slice without room -/
def OZ (w : World) (B : Nat) (A : Option Addr) (c : Nat) (l : List Int) : Prop := (l = [] ∧ c = 0) ∨ OI w B A c l
theorem OI.base {w : World} {B B' : Nat} {A : Option Addr} {c : Nat} {l : List Int} (h : OI w B A c l) (hB : B' ≤ B) : OI w B' A c l := by
  refine ⟨h.1, ?_⟩
  rcases h.2 with hn | ⟨g, cap, cur, hv, h1, rest⟩
  · exact .inl hn
  · exact .inr ⟨g, cap, cur, hv, Nat.le_trans hB h1, rest⟩
theorem OZ.ri {w : World} {B : Nat} {A : Option Addr} {c : Nat} {l : List Int} (h : OZ w B A c l) : RI w B w.heap.size A l := by
  rcases h with ⟨rfl, _⟩ | h
  · exact RI.nil
  · exact h.ri
theorem OZ.alloc {w : World} {B : Nat} {A : Option Addr} {c : Nat} {l : List Int} (h : OZ w B A c l) (o : Obj) : OZ (w.alloc o) B A c l := h.imp id (fun h => h.alloc o)
theorem OZ.drewN {w : World} {B : Nat} {A : Option Addr} {c : Nat} {l : List Int} (h : OZ w B A c l) (n : Nat) : OZ (w.drewN n) B A c l := h
theorem OZ.below {w w' : World} {B B' : Nat} {A : Option Addr} {c : Nat} {l : List Int} (h : OZ w B A c l) (hb : Below B' w w') (hB : w.heap.size ≤ B') : OZ w' B A c l := h.imp id (fun h => h.below hb hB)
/-- an empty slice with no room, handed back as it lies -/
theorem OZ.ret {w0 w : World} {B : Nat} {A : Option Addr} {c : Nat} {l : List Int} (h : OZ w B A c l) (h0 : OI w w0.heap.size A c []) (hB : w0.heap.size ≤ B) : OI w w0.heap.size A c l := by
  rcases h with ⟨rfl, rfl⟩ | h
  · exact h0
  · exact h.base hB
theorem push_z {ops : Array Oper} {rest : List Oper} {o : Oper} {a : Act} {Q : Exit → Act → World → Prop} {w : World} (hgd : o.guard = none) (s x : Operand)
    (ho : o.op = .call { callee := .builtin .append, args := #[s, x], argTypes := #[24, 24] })
    (B : Nat) (A : Option Addr) (c : Nat) (l : List Int) (q : Int) (hs : a.eval s = .slice A l.length c) (hown : OZ w B A c l)
    (g cc : Nat) (hx : a.eval x = .slice (some ⟨g, 0, none⟩) 1 cc) (hc : w.cell? ⟨g, 0, none⟩ = some (.int .i64 q)) (hlen : l.length ≤ 1000000000) (hB : B ≤ w.heap.size)
    (h : ∀ A' c' w', OI w' B A' c' (l ++ [q]) → Below B w w' → wpList Try.prog ops Q rest (a.put o.dst (.slice A' (l.length + 1) c')) w') : wpList Try.prog ops Q (o :: rest) a w := by
  rcases hown with ⟨rfl, rfl⟩ | hown
  · obtain ⟨i0, hi0, hz0, hz1, hz2⟩ := info_parts Try.info3
    refine wpList_append_grows w hgd s x 24 ho 3 i0 (.int .i64 0) 1 8 Try.underlying24 hi0 hz0 hz1 hz2 rfl (by decide) A 0 0 [] hs (fun _ => ⟨rfl, rfl⟩) rfl (fun _ _ j u hu => by simp at hu) ⟨g, 0, none⟩ 1 cc [.int .i64 q] hx rfl ?_ ?_ (by omega) (by unfold maxLen; omega) (by omega) ?_
    · intro j u hj
      cases j with
      | zero =>
        simp only [List.getElem?_cons_zero, Option.some.injEq] at hj
        subst hj
        rw [Addr.add_lit]
        exact hc
      | succ j => simp at hj
    · intro u hu
      simp only [List.mem_singleton] at hu
      subst hu
      rfl
    · intro v' w' hown' hg
      have h1 : w'.ownsRow w.heap.size 3 1 v' ([] ++ [q] : List Int).length (([] ++ [q] : List Int).map (Value.int .i64)) := hown'
      obtain ⟨A', c', hv, ho'⟩ := OI.form h1
      rw [hv]
      exact h A' c' w' (ho'.base hB) ((Below.refl B w).grown hg hB (fun k hk => by cases hk))
  · exact push_int hgd s x ho B A c l q hs hown g cc hx hc hlen hB (fun A' c' w' h1 h2 _ => h A' c' w' h1 h2)
end Go.Proofs.Ytihgakbopkaemaa
namespace Go.Proofs.Ytihgakbopkaemaa
open Go.RowKit
/-- no cell of the blocks from B on is frozen -/
def UFrom (B : Nat) (w : World) : Prop := ∀ p : Addr, B ≤ p.block → w.frozen? p = false
theorem UFrom.start (w : World) : UFrom w.heap.size w := by
  intro p hp
  unfold World.frozen?
  rw [Array.getElem?_eq_none hp]
theorem UFrom.alloc {B : Nat} {w : World} (h : UFrom B w) (cs : Array Value) (t : TypeId) : UFrom B (w.alloc (.cells cs t)) := by
  intro p hp
  by_cases e : p.block < w.heap.size
  · have := h p hp
    unfold World.frozen? at this ⊢
    rw [Below.heap_alloc w _ _ e]
    exact this
  · by_cases e2 : p.block = w.heap.size
    · unfold World.frozen?
      rw [e2, heap_alloc_new]
      simp
    · unfold World.frozen?
      rw [Array.getElem?_eq_none (by simp; omega)]
theorem frozen_setCell (w : World) (a p : Addr) (v : Value) : (w.setCell a v).frozen? p = w.frozen? p := by
  unfold World.frozen? World.setCell
  simp only [Array.getElem?_modify]
  by_cases e : a.block = p.block
  · rw [if_pos e]
    cases w.heap[p.block]? with
    | none => rfl
    | some o => cases o <;> rfl
  · rw [if_neg e]
theorem UFrom.setCell {B : Nat} {w : World} (h : UFrom B w) (a : Addr) (v : Value) : UFrom B (w.setCell a v) := fun p hp => (frozen_setCell w a p v).trans (h p hp)
theorem UFrom.drewN {B : Nat} {w : World} (h : UFrom B w) (n : Nat) : UFrom B (w.drewN n) := h
theorem UFrom.mono {B B' : Nat} {w : World} (h : UFrom B w) (hB : B ≤ B') : UFrom B' w := fun p hp => h p (by omega)
theorem UFrom.after {B : Nat} {w w' : World} (h : UFrom B w) (hb : Below w.heap.size w w') (h' : UFrom w.heap.size w') : UFrom B w' := by
  intro p hp
  by_cases e : p.block < w.heap.size
  · rw [hb.frozen e]; exact h p hp
  · exact h' p (by omega)
/-- a block that is known whole -/
def Blk (w : World) (g : Nat) (t : TypeId) (cs : Array Value) : Prop := w.heap[g]? = some (.cells cs t (0, 0))
theorem Blk.lt {w : World} {g : Nat} {t : TypeId} {cs : Array Value} (h : Blk w g t cs) : g < w.heap.size := by
  rcases Nat.lt_or_ge g w.heap.size with hlt | hge
  · exact hlt
  · unfold Blk at h; rw [Array.getElem?_eq_none hge] at h; cases h
theorem Blk.cell {w : World} {g : Nat} {t : TypeId} {cs : Array Value} (h : Blk w g t cs) (i : Nat) : w.cell? ⟨g, i, none⟩ = cs[i]? := cell_of_row w g i cs t (0, 0) h
theorem Blk.frozen {w : World} {g : Nat} {t : TypeId} {cs : Array Value} (h : Blk w g t cs) (i : Nat) : w.frozen? ⟨g, i, none⟩ = false := by
  unfold Blk at h
  simp [World.frozen?, h]
theorem Blk.new (w : World) (t : TypeId) (cs : Array Value) : Blk (w.alloc (.cells cs t)) w.heap.size t cs := heap_alloc_new w _
theorem Blk.alloc {w : World} {g : Nat} {t : TypeId} {cs : Array Value} (h : Blk w g t cs) (o : Obj) : Blk (w.alloc o) g t cs := (Below.heap_alloc w o g h.lt).trans h
theorem Blk.set_ {w : World} {g : Nat} {t : TypeId} {cs : Array Value} (h : Blk w g t cs) (i : Nat) (u : Value) : Blk (w.setCell ⟨g, i, none⟩ u) g t (cs.setIfInBounds i u) := by
  unfold Blk at h ⊢
  simp [World.setCell, Array.getElem?_modify, h]
theorem Blk.below {w w' : World} {g : Nat} {t : TypeId} {cs : Array Value} {B : Nat} (h : Blk w g t cs) (hb : Below B w w') (hg : g < B) : Blk w' g t cs := (hb.block g hg).trans h
theorem Blk.drewN {w : World} {g : Nat} {t : TypeId} {cs : Array Value} (h : Blk w g t cs) (n : Nat) : Blk (w.drewN n) g t cs := h
theorem RI.set_far {w : World} {lo hi : Nat} {A : Option Addr} {l : List Int} (h : RI w lo hi A l) {p : Addr} (hp : p.block < lo ∨ hi ≤ p.block) (u : Value) : RI (w.setCell p u) lo hi A l :=
  h.keep fun q h1 h2 => World.cell?_setCell_other w p q u (fun e => by subst e; omega)

end Go.Proofs.Ytihgakbopkaemaa
