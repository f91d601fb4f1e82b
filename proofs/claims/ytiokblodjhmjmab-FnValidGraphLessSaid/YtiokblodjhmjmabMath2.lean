/-
  PLAIN MATHEMATICS: needs by way of others, found step by step. No program, no condition.
-/
import Derived.Test.YtiokblodjhmjmabMath
namespace Go.Proofs.Ytiokblodjhmjmab.Bs
open Classical in
noncomputable def reachB (g : List T) (i j : Nat) : Bool := decide (Reach g i j)
theorem reachB_iff {g : List T} {i j : Nat} : reachB g i j = true ↔ Reach g i j := by unfold reachB; simp
noncomputable def needs2 (g : List T) (z : Nat) : List Int := pick g.length (reachB g z)
noncomputable def users2 (g : List T) (z : Nat) : List Int := pick g.length (fun j => reachB g j z)
open Classical in
noncomputable def needsA (g : List T) (z : Int) : List Int := if valid g = true ∧ 0 ≤ z ∧ z < g.length then needs2 g z.toNat else []
open Classical in
noncomputable def usersA (g : List T) (z : Int) : List Int := if valid g = true ∧ 0 ≤ z ∧ z < g.length then users2 g z.toNat else []

/-- the model looks at the needs of the number at place i; p of them are done -/
structure BfsIn (g : List T) (z : Nat) (seen : List Int) (i : Nat) (v : Nat) (p : Nat) : Prop where
  bfs : Bfs g z seen i
  at_ : seen[i]? = some (v : Int)
  took : ∀ x ∈ (need g v).take p, x ∈ seen
theorem BfsIn.start {g : List T} {z : Nat} {seen : List Int} {i v : Nat} (h : Bfs g z seen i) (hv : seen[i]? = some (v : Int)) : BfsIn g z seen i v 0 := ⟨h, hv, by simp⟩
theorem BfsIn.skip {g : List T} {z : Nat} {seen : List Int} {i v p : Nat} (h : BfsIn g z seen i v p) (hp : p < (need g v).length) (hx : (need g v)[p] ∈ seen) : BfsIn g z seen i v (p + 1) :=
  ⟨h.bfs, h.at_, fun x hxm => by
    rw [take_succ_mem hp] at hxm
    rcases hxm with h1 | h1
    · exact h.took x h1
    · rw [h1]; exact hx⟩
theorem BfsIn.push {g : List T} {z : Nat} {seen : List Int} {i v p : Nat} (hf : fine g = true) (h : BfsIn g z seen i v p) (hp : p < (need g v).length) (hx : (need g v)[p] ∉ seen) : BfsIn g z (seen ++ [(need g v)[p]]) i v (p + 1) := by
  have hr := fine_need hf (List.getElem_mem hp)
  have hil : i < seen.length := (List.getElem?_eq_some_iff.1 h.at_).1
  have hvm : (v : Int) ∈ seen := by
    obtain ⟨h1, h2⟩ := List.getElem?_eq_some_iff.1 h.at_
    rw [← h2]
    exact List.getElem_mem h1
  refine ⟨⟨⟨?_, ?_⟩, ?_, ?_, ?_⟩, ?_, ?_⟩
  · rw [List.nodup_append]
    refine ⟨h.bfs.dist.1, by simp, ?_⟩
    intro a ha b hb
    simp only [List.mem_singleton] at hb
    subst hb
    rintro rfl
    exact hx ha
  · intro x hxm
    rw [List.mem_append] at hxm
    rcases hxm with h1 | h1
    · exact h.bfs.dist.2 x h1
    · simp only [List.mem_singleton] at h1
      subst h1
      exact hr
  · rw [List.mem_append]; exact .inl h.bfs.here
  · intro x hxm
    rw [List.mem_append] at hxm
    rcases hxm with h1 | h1
    · exact h.bfs.only x h1
    · simp only [List.mem_singleton] at h1
      right
      have hvx : Reach g v x.toNat := .one (by rw [h1, show (((need g v)[p].toNat : Nat) : Int) = (need g v)[p] from by omega]; exact List.getElem_mem hp)
      rcases h.bfs.only _ hvm with e | e
      · have : v = z := by omega
        subst this
        exact hvx
      · exact Reach.trans (by simpa using e) hvx
  · intro j hj hji x hxm
    rw [List.getElem_append_left (by omega)] at hxm
    rw [List.mem_append]
    exact .inl (h.bfs.done j (by omega) hji x hxm)
  · rw [List.getElem?_append_left hil]; exact h.at_
  · intro x hxm
    rw [take_succ_mem hp] at hxm
    rw [List.mem_append]
    rcases hxm with h1 | h1
    · exact .inl (h.took x h1)
    · exact .inr (by simp [h1])
theorem BfsIn.stop {g : List T} {z : Nat} {seen : List Int} {i v p : Nat} (h : BfsIn g z seen i v p) (hp : (need g v).length ≤ p) : Bfs g z seen (i + 1) := by
  refine ⟨h.bfs.dist, h.bfs.here, h.bfs.only, ?_⟩
  intro j hj hji x hxm
  by_cases e : j < i
  · exact h.bfs.done j hj e x hxm
  · have : j = i := by omega
    subst this
    have h2 := h.at_
    rw [List.getElem?_eq_getElem hj] at h2
    injection h2 with h2
    rw [h2] at hxm
    exact h.took x (by rw [List.take_of_length_le hp]; simpa using hxm)
/-- what the model takes at the end -/
theorem Bfs.test {g : List T} {z : Nat} {seen : List Int} {k : Nat} (h : Bfs g z seen k) (hg : Full g) (hk : seen.length ≤ k) (j : Nat) : (decide ((j : Int) ≠ (z : Int)) && seen.contains (j : Int)) = reachB g z j := by
  rw [Bool.eq_iff_iff, reachB_iff, ← h.iff hg hk j]
  simp only [Bool.and_eq_true, decide_eq_true_eq, List.contains_iff_mem]
  constructor
  · rintro ⟨h1, h2⟩; exact ⟨by omega, h2⟩
  · rintro ⟨h1, h2⟩; exact ⟨by omega, h2⟩

/-- the program: the sets of the tasks of the first k places of the order are whole -/
structure SetsMid (g : List T) (k : Nat) (ss : List Nat) : Prop where
  len : ss.length = g.length
  lt : ∀ i, i < g.length → ss.getD i 0 < 256
  old : ∀ i, i < g.length → (i : Int) ∈ (top g).take k → ∀ j, (ss.getD i 0).testBit j = reachB g i j
  new : ∀ i, i < g.length → (i : Int) ∉ (top g).take k → ss.getD i 0 = 0
theorem SetsMid.start (g : List T) : SetsMid g 0 (List.replicate g.length 0) := by
  have hz : ∀ i, (List.replicate g.length 0).getD i 0 = 0 := by
    intro i
    simp only [List.getD_eq_getElem?_getD, List.getElem?_replicate]
    split <;> rfl
  exact ⟨by simp, fun i _ => by rw [hz]; omega, by intro i _ h; simp at h, fun i _ _ => hz i⟩
/-- the set that is made for task a: its needs, and the sets of the first p of them -/
def joined (g : List T) (ss : List Nat) (a p : Nat) : Nat := ((need g a).take p).foldl (fun s x => s ||| ss.getD x.toNat 0) (bits (need g a))
theorem joined_zero (g : List T) (ss : List Nat) (a : Nat) : joined g ss a 0 = bits (need g a) := rfl
theorem joined_succ (g : List T) (ss : List Nat) (a p : Nat) (hp : p < (need g a).length) : joined g ss a (p + 1) = joined g ss a p ||| ss.getD (need g a)[p].toNat 0 := by
  unfold joined
  rw [List.take_succ_eq_append_getElem hp, List.foldl_append]
  rfl
theorem foldl_or_test (ss : List Nat) (l : List Int) : ∀ s j, (l.foldl (fun s x => s ||| ss.getD x.toNat 0) s).testBit j = true ↔ s.testBit j = true ∨ ∃ x ∈ l, (ss.getD x.toNat 0).testBit j = true := by
  induction l with
  | nil => intro s j; simp
  | cons y r ih =>
    intro s j
    rw [List.foldl_cons, ih]
    simp only [Nat.testBit_or, Bool.or_eq_true, List.mem_cons]
    constructor
    · rintro ((h | h) | ⟨x, hx, h⟩)
      · exact .inl h
      · exact .inr ⟨y, .inl rfl, h⟩
      · exact .inr ⟨x, .inr hx, h⟩
    · rintro (h | ⟨x, rfl | hx, h⟩)
      · exact .inl (.inl h)
      · exact .inl (.inr h)
      · exact .inr ⟨x, hx, h⟩
theorem joined_lt {g : List T} {ss : List Nat} {a : Nat} (hf : fine g = true) (hs : ∀ i, i < g.length → ss.getD i 0 < 256) : ∀ p, joined g ss a p < 256 := by
  intro p
  have h8 := fine_len hf
  have hb : bits (need g a) < 256 := bits_lt _ (fun x hx => by have := fine_need hf hx; omega)
  have key : ∀ (l : List Int) (s : Nat), s < 2 ^ 8 → (∀ x ∈ l, ss.getD x.toNat 0 < 2 ^ 8) → l.foldl (fun s x => s ||| ss.getD x.toNat 0) s < 2 ^ 8 := by
    intro l
    induction l with
    | nil => intro s h _; exact h
    | cons y r ih =>
      intro s h hl
      rw [List.foldl_cons]
      exact ih _ (Nat.or_lt_two_pow h (hl y (by simp))) (fun x hx => hl x (by simp [hx]))
  refine key _ _ hb ?_
  intro x hx
  have := fine_need hf (List.mem_of_mem_take hx)
  exact hs x.toNat (by omega)
theorem Reach_iff {g : List T} {i j : Nat} : Reach g i j ↔ (j : Int) ∈ need g i ∨ ∃ k : Nat, (k : Int) ∈ need g i ∧ Reach g k j := by
  constructor
  · intro h
    cases h with
    | one h => exact .inl h
    | via h h' => exact .inr ⟨_, h, h'⟩
  · rintro (h | ⟨k, h, h'⟩)
    · exact .one h
    · exact .via h h'
theorem SetsMid.step {g : List T} {k : Nat} {ss : List Nat} (hf : fine g = true) (hm : SetsMid g k ss) (hk : k < (top g).length) :
    SetsMid g (k + 1) (ss.set (top g)[k].toNat (joined g ss (top g)[k].toNat (need g (top g)[k].toNat).length)) := by
  have hr := top_range hk
  have hb := top_behind g k hk
  have hnot := top_take_not hk
  have htk := fun x => take_succ_mem hk x
  generalize ha : (top g)[k].toNat = a at *
  have haI : (top g)[k] = (a : Int) := by omega
  rw [haI] at hnot htk
  have hal : a < ss.length := by rw [hm.len]; omega
  have hset : ∀ i v, (ss.set a v).getD i 0 = if i = a then v else ss.getD i 0 := by
    intro i v
    simp only [List.getD_eq_getElem?_getD, List.getElem?_set]
    by_cases e : a = i
    · subst e; simp [hal]
    · simp [e, Ne.symm e]
  refine ⟨by simp [hm.len], ?_, ?_, ?_⟩
  · intro i hi
    rw [hset]
    split
    · exact joined_lt hf hm.lt _
    · exact hm.lt i hi
  · intro i hi hmem j
    rw [hset]
    by_cases e : i = a
    · rw [if_pos e]
      subst e
      rw [Bool.eq_iff_iff, reachB_iff, Reach_iff]
      unfold joined
      rw [List.take_length, foldl_or_test, bits_test _ (fun x hx => (fine_need hf hx).1), List.contains_iff_mem]
      constructor
      · rintro (h | ⟨x, hx, h⟩)
        · exact .inl h
        · have h1 := fine_need hf hx
          rw [hm.old x.toNat (by omega) (by rw [show ((x.toNat : Nat) : Int) = x from by omega]; exact hb x hx) j, reachB_iff] at h
          exact .inr ⟨x.toNat, by rw [show ((x.toNat : Nat) : Int) = x from by omega]; exact hx, h⟩
      · rintro (h | ⟨x, hx, h⟩)
        · exact .inl h
        · refine .inr ⟨(x : Int), hx, ?_⟩
          rw [Int.toNat_natCast, hm.old x h.src (hb _ hx) j, reachB_iff]
          exact h
    · rw [if_neg e]
      refine hm.old i hi ?_ j
      rcases (htk _).1 hmem with h | h
      · exact h
      · omega
  · intro i hi hmem
    rw [htk] at hmem
    rw [hset, if_neg (by rintro rfl; exact hmem (.inr rfl))]
    exact hm.new i hi (fun h => hmem (.inl h))
theorem SetsMid.all {g : List T} {ss : List Nat} (hg : Full g) (hm : SetsMid g (top g).length ss) (i : Nat) (hi : i < g.length) (j : Nat) : (ss.getD i 0).testBit j = reachB g i j :=
  hm.old i hi (by rw [List.take_length]; exact hg.mem hi) j
theorem pick_reach (g : List T) (hf : fine g = true) (z : Nat) (s : Nat) (hs : ∀ j, s.testBit j = reachB g z j) : pick 8 (fun j => s.testBit j) = needs2 g z := by
  unfold needs2
  have h8 := fine_len hf
  have key : ∀ m, pick (g.length + m) (fun j => s.testBit j) = pick g.length (reachB g z) := by
    intro m
    induction m with
    | zero => exact pick_congr _ _ _ (fun i _ => hs i)
    | succ m ih =>
      rw [← Nat.add_assoc, pick_skip, ih]
      show s.testBit (g.length + m) = false
      rw [hs, Bool.eq_false_iff]
      intro h
      have := (reachB_iff.1 h).lt hf
      omega
  have := key (8 - g.length)
  rw [show g.length + (8 - g.length) = 8 from by omega] at this
  exact this
theorem needs2_len (g : List T) (z : Nat) : (needs2 g z).length ≤ g.length := pick_len _ _
theorem users2_len (g : List T) (z : Nat) : (users2 g z).length ≤ g.length := pick_len _ _
end Go.Proofs.Ytiokblodjhmjmab.Bs
