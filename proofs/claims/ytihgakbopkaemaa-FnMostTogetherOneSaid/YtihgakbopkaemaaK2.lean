/-
  MERGED TEXTS: Math2 Math3 Math4 Len Math6 Math8 Math9 Math20 Math21 Math22 Math23 Math24.
-/
import Derived.Test.YtihgakbopkaemaaK1
namespace Go.Proofs.Ytihgakbopkaemaa.Bs
open Classical in
noncomputable def reachB (g : List T) (i j : Nat) : Bool := decide (Reach g i j)
theorem reachB_iff {g : List T} {i j : Nat} : reachB g i j = true ↔ Reach g i j := by unfold reachB; simp
noncomputable def needs2 (g : List T) (z : Nat) : List Int := pick g.length (reachB g z)
noncomputable def users2 (g : List T) (z : Nat) : List Int := pick g.length (fun j => reachB g j z)
open Classical in
noncomputable def needsA (g : List T) (z : Int) : List Int := if valid g = true ∧ 0 ≤ z ∧ z < g.length then needs2 g z.toNat else []
open Classical in
noncomputable def usersA (g : List T) (z : Int) : List Int := if valid g = true ∧ 0 ≤ z ∧ z < g.length then users2 g z.toNat else []

/-- the model looks at the needs of the number at place i; p of them are done -/
structure BfsIn (g : List T) (z : Nat) (seen : List Int) (i : Nat) (v : Nat) (p : Nat) : Prop where
  bfs : Bfs g z seen i
  at_ : seen[i]? = some (v : Int)
  took : ∀ x ∈ (need g v).take p, x ∈ seen
theorem BfsIn.start {g : List T} {z : Nat} {seen : List Int} {i v : Nat} (h : Bfs g z seen i) (hv : seen[i]? = some (v : Int)) : BfsIn g z seen i v 0 := ⟨h, hv, by simp⟩
theorem BfsIn.skip {g : List T} {z : Nat} {seen : List Int} {i v p : Nat} (h : BfsIn g z seen i v p) (hp : p < (need g v).length) (hx : (need g v)[p] ∈ seen) : BfsIn g z seen i v (p + 1) :=
  ⟨h.bfs, h.at_, fun x hxm => by
    rw [take_succ_mem hp] at hxm
    rcases hxm with h1 | h1
    · exact h.took x h1
    · rw [h1]; exact hx⟩
theorem BfsIn.push {g : List T} {z : Nat} {seen : List Int} {i v p : Nat} (hf : fine g = true) (h : BfsIn g z seen i v p) (hp : p < (need g v).length) (hx : (need g v)[p] ∉ seen) : BfsIn g z (seen ++ [(need g v)[p]]) i v (p + 1) := by
  have hr := fine_need hf (List.getElem_mem hp)
  have hil : i < seen.length := (List.getElem?_eq_some_iff.1 h.at_).1
  have hvm : (v : Int) ∈ seen := by
    obtain ⟨h1, h2⟩ := List.getElem?_eq_some_iff.1 h.at_
    rw [← h2]
    exact List.getElem_mem h1
  refine ⟨⟨⟨?_, ?_⟩, ?_, ?_, ?_⟩, ?_, ?_⟩
  · rw [List.nodup_append]
    refine ⟨h.bfs.dist.1, by simp, ?_⟩
    intro a ha b hb
    simp only [List.mem_singleton] at hb
    subst hb
    rintro rfl
    exact hx ha
  · intro x hxm
    rw [List.mem_append] at hxm
    rcases hxm with h1 | h1
    · exact h.bfs.dist.2 x h1
    · simp only [List.mem_singleton] at h1
      subst h1
      exact hr
  · rw [List.mem_append]; exact .inl h.bfs.here
  · intro x hxm
    rw [List.mem_append] at hxm
    rcases hxm with h1 | h1
    · exact h.bfs.only x h1
    · simp only [List.mem_singleton] at h1
      right
      have hvx : Reach g v x.toNat := .one (by rw [h1, show (((need g v)[p].toNat : Nat) : Int) = (need g v)[p] from by omega]; exact List.getElem_mem hp)
      rcases h.bfs.only _ hvm with e | e
      · have : v = z := by omega
        subst this
        exact hvx
      · exact Reach.trans (by simpa using e) hvx
  · intro j hj hji x hxm
    rw [List.getElem_append_left (by omega)] at hxm
    rw [List.mem_append]
    exact .inl (h.bfs.done j (by omega) hji x hxm)
  · rw [List.getElem?_append_left hil]; exact h.at_
  · intro x hxm
    rw [take_succ_mem hp] at hxm
    rw [List.mem_append]
    rcases hxm with h1 | h1
    · exact .inl (h.took x h1)
    · exact .inr (by simp [h1])
theorem BfsIn.stop {g : List T} {z : Nat} {seen : List Int} {i v p : Nat} (h : BfsIn g z seen i v p) (hp : (need g v).length ≤ p) : Bfs g z seen (i + 1) := by
  refine ⟨h.bfs.dist, h.bfs.here, h.bfs.only, ?_⟩
  intro j hj hji x hxm
  by_cases e : j < i
  · exact h.bfs.done j hj e x hxm
  · have : j = i := by omega
    subst this
    have h2 := h.at_
    rw [List.getElem?_eq_getElem hj] at h2
    injection h2 with h2
    rw [h2] at hxm
    exact h.took x (by rw [List.take_of_length_le hp]; simpa using hxm)
/-- what the model takes at the end -/
theorem Bfs.test {g : List T} {z : Nat} {seen : List Int} {k : Nat} (h : Bfs g z seen k) (hg : Full g) (hk : seen.length ≤ k) (j : Nat) : (decide ((j : Int) ≠ (z : Int)) && seen.contains (j : Int)) = reachB g z j := by
  rw [Bool.eq_iff_iff, reachB_iff, ← h.iff hg hk j]
  simp only [Bool.and_eq_true, decide_eq_true_eq, List.contains_iff_mem]
  constructor
  · rintro ⟨h1, h2⟩; exact ⟨by omega, h2⟩
  · rintro ⟨h1, h2⟩; exact ⟨by omega, h2⟩

/-- the program: the sets of the tasks of the first k places of the order are whole -/
structure SetsMid (g : List T) (k : Nat) (ss : List Nat) : Prop where
  len : ss.length = g.length
  lt : ∀ i, i < g.length → ss.getD i 0 < 256
  old : ∀ i, i < g.length → (i : Int) ∈ (top g).take k → ∀ j, (ss.getD i 0).testBit j = reachB g i j
  new : ∀ i, i < g.length → (i : Int) ∉ (top g).take k → ss.getD i 0 = 0
theorem SetsMid.start (g : List T) : SetsMid g 0 (List.replicate g.length 0) := by
  have hz : ∀ i, (List.replicate g.length 0).getD i 0 = 0 := by
    intro i
    simp only [List.getD_eq_getElem?_getD, List.getElem?_replicate]
    split <;> rfl
  exact ⟨by simp, fun i _ => by rw [hz]; omega, by intro i _ h; simp at h, fun i _ _ => hz i⟩
/-- the set that is made for task a: its needs, and the sets of the first p of them -/
def joined (g : List T) (ss : List Nat) (a p : Nat) : Nat := ((need g a).take p).foldl (fun s x => s ||| ss.getD x.toNat 0) (bits (need g a))
theorem joined_zero (g : List T) (ss : List Nat) (a : Nat) : joined g ss a 0 = bits (need g a) := rfl
theorem joined_succ (g : List T) (ss : List Nat) (a p : Nat) (hp : p < (need g a).length) : joined g ss a (p + 1) = joined g ss a p ||| ss.getD (need g a)[p].toNat 0 := by
  unfold joined
  rw [List.take_succ_eq_append_getElem hp, List.foldl_append]
  rfl
theorem foldl_or_test (ss : List Nat) (l : List Int) : ∀ s j, (l.foldl (fun s x => s ||| ss.getD x.toNat 0) s).testBit j = true ↔ s.testBit j = true ∨ ∃ x ∈ l, (ss.getD x.toNat 0).testBit j = true := by
  induction l with
  | nil => intro s j; simp
  | cons y r ih =>
    intro s j
    rw [List.foldl_cons, ih]
    simp only [Nat.testBit_or, Bool.or_eq_true, List.mem_cons]
    constructor
    · rintro ((h | h) | ⟨x, hx, h⟩)
      · exact .inl h
      · exact .inr ⟨y, .inl rfl, h⟩
      · exact .inr ⟨x, .inr hx, h⟩
    · rintro (h | ⟨x, rfl | hx, h⟩)
      · exact .inl (.inl h)
      · exact .inl (.inr h)
      · exact .inr ⟨x, hx, h⟩
theorem joined_lt {g : List T} {ss : List Nat} {a : Nat} (hf : fine g = true) (hs : ∀ i, i < g.length → ss.getD i 0 < 256) : ∀ p, joined g ss a p < 256 := by
  intro p
  have h8 := fine_len hf
  have hb : bits (need g a) < 256 := bits_lt _ (fun x hx => by have := fine_need hf hx; omega)
  have key : ∀ (l : List Int) (s : Nat), s < 2 ^ 8 → (∀ x ∈ l, ss.getD x.toNat 0 < 2 ^ 8) → l.foldl (fun s x => s ||| ss.getD x.toNat 0) s < 2 ^ 8 := by
    intro l
    induction l with
    | nil => intro s h _; exact h
    | cons y r ih =>
      intro s h hl
      rw [List.foldl_cons]
      exact ih _ (Nat.or_lt_two_pow h (hl y (by simp))) (fun x hx => hl x (by simp [hx]))
  refine key _ _ hb ?_
  intro x hx
  have := fine_need hf (List.mem_of_mem_take hx)
  exact hs x.toNat (by omega)
theorem Reach_iff {g : List T} {i j : Nat} : Reach g i j ↔ (j : Int) ∈ need g i ∨ ∃ k : Nat, (k : Int) ∈ need g i ∧ Reach g k j := by
  constructor
  · intro h
    cases h with
    | one h => exact .inl h
    | via h h' => exact .inr ⟨_, h, h'⟩
  · rintro (h | ⟨k, h, h'⟩)
    · exact .one h
    · exact .via h h'
theorem SetsMid.step {g : List T} {k : Nat} {ss : List Nat} (hf : fine g = true) (hm : SetsMid g k ss) (hk : k < (top g).length) :
    SetsMid g (k + 1) (ss.set (top g)[k].toNat (joined g ss (top g)[k].toNat (need g (top g)[k].toNat).length)) := by
  have hr := top_range hk
  have hb := top_behind g k hk
  have hnot := top_take_not hk
  have htk := fun x => take_succ_mem hk x
  generalize ha : (top g)[k].toNat = a at *
  have haI : (top g)[k] = (a : Int) := by omega
  rw [haI] at hnot htk
  have hal : a < ss.length := by rw [hm.len]; omega
  have hset : ∀ i v, (ss.set a v).getD i 0 = if i = a then v else ss.getD i 0 := by
    intro i v
    simp only [List.getD_eq_getElem?_getD, List.getElem?_set]
    by_cases e : a = i
    · subst e; simp [hal]
    · simp [e, Ne.symm e]
  refine ⟨by simp [hm.len], ?_, ?_, ?_⟩
  · intro i hi
    rw [hset]
    split
    · exact joined_lt hf hm.lt _
    · exact hm.lt i hi
  · intro i hi hmem j
    rw [hset]
    by_cases e : i = a
    · rw [if_pos e]
      subst e
      rw [Bool.eq_iff_iff, reachB_iff, Reach_iff]
      unfold joined
      rw [List.take_length, foldl_or_test, bits_test _ (fun x hx => (fine_need hf hx).1), List.contains_iff_mem]
      constructor
      · rintro (h | ⟨x, hx, h⟩)
        · exact .inl h
        · have h1 := fine_need hf hx
          rw [hm.old x.toNat (by omega) (by rw [show ((x.toNat : Nat) : Int) = x from by omega]; exact hb x hx) j, reachB_iff] at h
          exact .inr ⟨x.toNat, by rw [show ((x.toNat : Nat) : Int) = x from by omega]; exact hx, h⟩
      · rintro (h | ⟨x, hx, h⟩)
        · exact .inl h
        · refine .inr ⟨(x : Int), hx, ?_⟩
          rw [Int.toNat_natCast, hm.old x h.src (hb _ hx) j, reachB_iff]
          exact h
    · rw [if_neg e]
      refine hm.old i hi ?_ j
      rcases (htk _).1 hmem with h | h
      · exact h
      · omega
  · intro i hi hmem
    rw [htk] at hmem
    rw [hset, if_neg (by rintro rfl; exact hmem (.inr rfl))]
    exact hm.new i hi (fun h => hmem (.inl h))
theorem SetsMid.all {g : List T} {ss : List Nat} (hg : Full g) (hm : SetsMid g (top g).length ss) (i : Nat) (hi : i < g.length) (j : Nat) : (ss.getD i 0).testBit j = reachB g i j :=
  hm.old i hi (by rw [List.take_length]; exact hg.mem hi) j
theorem pick_reach (g : List T) (hf : fine g = true) (z : Nat) (s : Nat) (hs : ∀ j, s.testBit j = reachB g z j) : pick 8 (fun j => s.testBit j) = needs2 g z := by
  unfold needs2
  have h8 := fine_len hf
  have key : ∀ m, pick (g.length + m) (fun j => s.testBit j) = pick g.length (reachB g z) := by
    intro m
    induction m with
    | zero => exact pick_congr _ _ _ (fun i _ => hs i)
    | succ m ih =>
      rw [← Nat.add_assoc, pick_skip, ih]
      show s.testBit (g.length + m) = false
      rw [hs, Bool.eq_false_iff]
      intro h
      have := (reachB_iff.1 h).lt hf
      omega
  have := key (8 - g.length)
  rw [show g.length + (8 - g.length) = 8 from by omega] at this
  exact this
theorem needs2_len (g : List T) (z : Nat) : (needs2 g z).length ≤ g.length := pick_len _ _
theorem users2_len (g : List T) (z : Nat) : (users2 g z).length ≤ g.length := pick_len _ _
end Go.Proofs.Ytihgakbopkaemaa.Bs
namespace Go.Proofs.Ytihgakbopkaemaa.Bs
theorem list_gi {l l' : List Int} (h : l.length = l'.length) (hg : ∀ i, i < l.length → gi l i = gi l' i) : l = l' := by
  refine List.ext_getElem h ?_
  intro i h1 h2
  have := hg i h1
  unfold gi at this
  rw [List.getD_eq_getElem?_getD, List.getD_eq_getElem?_getD, List.getElem?_eq_getElem h1, List.getElem?_eq_getElem h2] at this
  exact this
theorem set_same (l : List Int) (a : Nat) (v : Int) (ha : a < l.length) (h : gi l a = v) : l.set a v = l := by
  refine list_gi (by simp) ?_
  intro i hi
  rw [gi_set l a i v ha]
  split
  · rename_i e; subst e; exact h.symm
  · rfl
theorem set_set_ (l : List Int) (a : Nat) (u v : Int) : (l.set a u).set a v = l.set a v := by simp

def headStep (g : List T) (h : List Int) (x : Int) : List Int := h.set x.toNat (headAt g h x.toNat (need g x.toNat).length)
def headsK (g : List T) (k : Nat) : List Int := ((top g).take k).foldl (headStep g) (List.replicate g.length 0)
theorem headsK_zero (g : List T) : headsK g 0 = List.replicate g.length 0 := rfl
theorem headsK_succ (g : List T) (k : Nat) (hk : k < (top g).length) : headsK g (k + 1) = headStep g (headsK g k) (top g)[k] := by
  unfold headsK
  rw [List.take_succ_eq_append_getElem hk, List.foldl_append]
  rfl
theorem headsK_mid {g : List T} (hf : fine g = true) : ∀ k, k ≤ (top g).length → HeadMid g k (headsK g k) := by
  intro k
  induction k with
  | zero => intro _; exact HeadMid.start g
  | succ k ih =>
    intro hk
    rw [headsK_succ g k (by omega)]
    exact (ih (by omega)).step hf (by omega)
def headsC (g : List T) : List Int := headsK g (top g).length
theorem headAt_zero (g : List T) (h : List Int) (a : Nat) : headAt g h a 0 = 0 := rfl
theorem headAt_succ (g : List T) (h : List Int) (a p : Nat) (hp : p < (need g a).length) : headAt g h a (p + 1) = max (headAt g h a p) (gi h (need g a)[p].toNat + timeOf g (need g a)[p].toNat) := by
  unfold headAt
  rw [List.take_succ_eq_append_getElem hp, List.map_append]
  exact maxL_snoc _ _
theorem headAt_nonneg (g : List T) (h : List Int) (a p : Nat) : 0 ≤ headAt g h a p := maxL_nonneg _
theorem headAt_le {g : List T} {h : List Int} {k : Nat} (hf : fine g = true) (hm : HeadMid g k h) (a p : Nat) : headAt g h a p ≤ 20 * k + 20 := by
  refine maxL_le (by omega) ?_
  intro y hy
  rw [List.mem_map] at hy
  obtain ⟨x, hx, rfl⟩ := hy
  have h1 := fine_need hf (List.mem_of_mem_take hx)
  have h2 := hm.hi x.toNat (by omega)
  have h3 := fine_time hf (i := x.toNat) (by omega)
  omega

def tailStep (g : List T) (t : List Int) (x : Int) : List Int := t.set x.toNat (most g t x.toNat g.length + timeOf g x.toNat)
/-- the model's tails when the places from k on are done -/
def tailsK (g : List T) (k : Nat) : List Int := ((top g).drop k).foldr (fun x t => tailStep g t x) (List.replicate g.length 0)
theorem tailsK_full (g : List T) : tailsK g (top g).length = List.replicate g.length 0 := by unfold tailsK; rw [List.drop_length]; rfl
theorem tailsK_pred (g : List T) (k : Nat) (hk : k < (top g).length) : tailsK g k = tailStep g (tailsK g (k + 1)) (top g)[k] := by
  unfold tailsK
  rw [List.drop_eq_getElem_cons hk]
  rfl
theorem tailsK_spec {g : List T} (hf : fine g = true) (hg : Full g) : ∀ j k, k + j = (top g).length → TailSpec g k (tailsK g k) := by
  intro j
  induction j with
  | zero =>
    intro k hk
    have : k = (top g).length := by omega
    subst this
    rw [tailsK_full]
    exact TailSpec.start hg
  | succ j ih =>
    intro k hk
    rw [tailsK_pred g k (by omega)]
    exact (ih (k + 1) (by omega)).step hf hg (by omega)
def tailsC (g : List T) : List Int := tailsK g 0
theorem tailsC_spec {g : List T} (hf : fine g = true) (hg : Full g) : TailSpec g 0 (tailsC g) := tailsK_spec hf hg (top g).length 0 (by omega)
theorem tails_eq {g : List T} (hf : fine g = true) (hg : Full g) {t : List Int} (h : TailImpl g 0 t) : t = tailsC g := by
  have h' := tailsC_spec hf hg
  refine list_gi (h.len.trans h'.len.symm) ?_
  intro i hi
  rw [h.len] at hi
  exact tail_unique hg h.toTailMid.isTail h'.toTailMid.isTail i hi
/-- the program's round of pushing, p needs done -/
def PushIn (g : List T) (t : List Int) (a p : Nat) (t' : List Int) : Prop :=
  t'.length = t.length ∧ ∀ i, i < g.length → gi t' i = if (i : Int) ∈ (need g a).take p then max (gi t i) (gi t a + timeOf g a) else if i = a then gi t a + timeOf g a else gi t i
theorem PushIn.start {g : List T} {t : List Int} {a : Nat} (ha : a < t.length) : PushIn g t a 0 (t.set a (gi t a + timeOf g a)) := by
  refine ⟨by simp, ?_⟩
  intro i _
  rw [gi_set t a i _ ha]
  simp
theorem PushIn.step {g : List T} {t t' : List Int} {a p : Nat} (hf : fine g = true) (hl : t.length = g.length) (h : PushIn g t a p t') (hp : p < (need g a).length) (hna : (a : Int) ∉ need g a) (ha : a < g.length) (hnd : (need g a).Nodup) :
    PushIn g t a (p + 1) (if gi t' (need g a)[p].toNat < gi t' a then t'.set (need g a)[p].toNat (gi t' a) else t') := by
  have hr := fine_need hf (List.getElem_mem hp)
  have hxa : (need g a)[p].toNat ≠ a := by
    intro e
    apply hna
    rw [show (a : Int) = (need g a)[p] from by omega]
    exact List.getElem_mem hp
  have hga : gi t' a = gi t a + timeOf g a := by
    rw [h.2 a ha, if_neg (fun hm => hna (List.mem_of_mem_take hm)), if_pos rfl]
  have hxt : (((need g a)[p].toNat : Nat) : Int) ∉ (need g a).take p := by
    rw [show (((need g a)[p].toNat : Nat) : Int) = (need g a)[p] from by omega]
    intro hm
    obtain ⟨q, hq, e⟩ := List.mem_iff_getElem.1 hm
    rw [List.length_take] at hq
    rw [List.getElem_take] at e
    rw [List.nodup_iff_pairwise_ne, List.pairwise_iff_getElem] at hnd
    exact hnd q p (by omega) hp (by omega) e
  have hgx : gi t' (need g a)[p].toNat = gi t (need g a)[p].toNat := by
    rw [h.2 _ (by omega), if_neg hxt, if_neg hxa]
  refine ⟨by split <;> simp [h.1], ?_⟩
  intro i hi
  have htk : (i : Int) ∈ (need g a).take (p + 1) ↔ (i : Int) ∈ (need g a).take p ∨ i = (need g a)[p].toNat := by
    rw [take_succ_mem hp]
    constructor
    · rintro (h1 | h1)
      · exact .inl h1
      · exact .inr (by omega)
    · rintro (h1 | h1)
      · exact .inl h1
      · exact .inr (by omega)
  by_cases e : i = (need g a)[p].toNat
  · rw [if_pos (htk.2 (.inr e))]
    subst e
    rw [hgx, hga]
    split
    · rw [gi_set _ _ _ _ (by rw [h.1]; omega), if_pos rfl]; omega
    · rw [hgx]; omega
  · have hs : gi (if gi t' (need g a)[p].toNat < gi t' a then t'.set (need g a)[p].toNat (gi t' a) else t') i = gi t' i := by
      split
      · rw [gi_set _ _ _ _ (by rw [h.1]; omega), if_neg e]
      · rfl
    rw [hs, h.2 i hi]
    by_cases e2 : (i : Int) ∈ (need g a).take p
    · rw [if_pos e2, if_pos (htk.2 (.inl e2))]
    · have h5 : (i : Int) ∉ (need g a).take (p + 1) := fun h3 => by
        rcases htk.1 h3 with h4 | h4
        · exact e2 h4
        · exact e h4
      simp only [if_neg e2, if_neg h5]
theorem PushIn.done {g : List T} {t t' : List Int} {a : Nat} (h : PushIn g t a (need g a).length t') : pushed g t a (need g a).length t' := h
theorem asc_nodup {l : List Int} (h : asc l = true) : l.Nodup := by
  rw [List.nodup_iff_pairwise_ne, List.pairwise_iff_getElem]
  rw [asc_iff] at h
  have key : ∀ d i (h1 : i + d + 1 < l.length), l[i] < l[i + d + 1] := by
    intro d
    induction d with
    | zero => intro i h1; exact h i h1
    | succ d ih =>
      intro i h1
      have a := ih i (by omega)
      have b := h (i + d + 1) (by omega)
      show l[i] < l[i + d + 1 + 1]
      exact Int.lt_trans a b
  intro i j h1 h2 hij
  have := key (j - i - 1) i (by omega)
  have e : i + (j - i - 1) + 1 = j := by omega
  simp only [e] at this
  omega
theorem fine_nodup {g : List T} (h : fine g = true) {i : Nat} (hi : i < g.length) : (need g i).Nodup := by
  rw [need_eq hi]
  simp only [fine, Bool.and_eq_true, List.all_eq_true] at h
  have h1 := h.1 g[i] (List.getElem_mem hi)
  simp only [validT, Bool.and_eq_true] at h1
  exact asc_nodup h1.2
end Go.Proofs.Ytihgakbopkaemaa.Bs
namespace Go.Proofs.Ytihgakbopkaemaa.Bs
theorem find_least {n : Nat} {p : Nat → Bool} {i : Nat} (h : (List.range n).find? p = some i) : ∀ j, j < i → p j = false := by
  rw [List.find?_range_eq_some] at h
  intro j hj
  have := h.2.2 j hj
  simpa using this
/-- each number is the next one behind those before it -/
def Step (g : List T) (out : List Int) : Prop := ∀ k (h : k < out.length), nxt g (out.take k) = some out[k].toNat
theorem Step.snoc {g : List T} {out : List Int} {i : Nat} (h : Step g out) (hn : nxt g out = some i) : Step g (out ++ [(i : Int)]) := by
  intro k hk
  by_cases e : k < out.length
  · rw [List.getElem_append_left e, List.take_append_of_le_length (by omega)]
    exact h k e
  · have : k = out.length := by simp at hk; omega
    subst this
    simp [hn]
theorem ord_step (g : List T) : ∀ k out, Step g out → Step g (ord g k out) := by
  intro k
  induction k with
  | zero => intro out h; exact h
  | succ k ih =>
    intro out h
    unfold ord
    cases hn : nxt g out with
    | none => exact h
    | some i => exact ih _ (h.snoc hn)
theorem top_step (g : List T) : Step g (top g) := ord_step g _ _ (by intro k h; simp at h)
theorem top_least {g : List T} {k : Nat} (hk : k + 1 < (top g).length) (h : (top g)[k + 1] < (top g)[k]) : (top g)[k] ∈ need g (top g)[k + 1].toNat := by
  have h0 := top_step g k (by omega)
  have h1 := top_step g (k + 1) hk
  have r0 := top_range (g := g) (k := k) (by omega)
  have r1 := top_range (g := g) hk
  obtain ⟨_, n1, m1⟩ := okNext_some h1
  have hl := find_least h0 (top g)[k + 1].toNat (by omega)
  have hts : (top g).take (k + 1) = (top g).take k ++ [(top g)[k]] := List.take_succ_eq_append_getElem (by omega)
  rw [hts] at n1 m1
  unfold okNext at hl
  have hnot : ((top g).take k).contains (((top g)[k + 1].toNat : Nat) : Int) = false := by
    rw [Bool.eq_false_iff]
    intro hc
    exact n1 (List.mem_append.2 (.inl (by simpa using hc)))
  rw [hnot] at hl
  simp only [Bool.not_false, Bool.true_and, List.all_eq_false] at hl
  obtain ⟨x, hx, hxn⟩ := hl
  have := m1 x hx
  rw [List.mem_append] at this
  rcases this with h2 | h2
  · exact absurd h2 (by simpa using hxn)
  · simp only [List.mem_singleton] at h2
    rwa [h2] at hx
theorem top_prefix {g : List T} {k : Nat} (hk : k < (top g).length) : (top g)[k] ∉ (top g).take k := by
  intro h
  obtain ⟨j, hj, e⟩ := List.mem_iff_getElem.1 h
  rw [List.length_take] at hj
  rw [List.getElem_take] at e
  have := top_inj (g := g) (by omega) hk e
  omega
end Go.Proofs.Ytihgakbopkaemaa.Bs
namespace Go.Proofs.Ytihgakbopkaemaa
theorem topL_range (g : List Bs.T) (L : List Int) (h : L = Bs.topL g) : ∀ k (hk : k < L.length), 0 ≤ L[k] ∧ L[k] < g.length := by
  subst h
  cases hv : Bs.valid g
  · rw [topL_no hv]; intro k hk; simp at hk
  · rw [topL_yes hv]; intro k hk; exact Bs.top_range hk
theorem topL_least (g : List Bs.T) (L : List Int) (h : L = Bs.topL g) : ∀ k (hk : k + 1 < L.length), L[k + 1] < L[k] → L[k] ∈ Bs.need g L[k + 1].toNat := by
  cases hv : Bs.valid g
  · rw [topL_no hv] at h
    subst h
    intro k hk
    simp at hk
  · rw [topL_yes hv] at h
    subst h
    intro k hk
    exact Bs.top_least hk
theorem top_law {g : List Bs.T} (hv : Bs.valid g = true) (L : List Int) (h : L = Bs.top g) : L.length = g.length ∧ ∀ k (hk : k < L.length), 0 ≤ L[k] ∧ L[k] < g.length ∧ L[k] ∉ L.take k ∧ ∀ x ∈ Bs.need g L[k].toNat, x ∈ L.take k := by
  subst h
  exact ⟨valid_full hv, fun k hk => ⟨(Bs.top_range hk).1, (Bs.top_range hk).2, Bs.top_prefix hk, Bs.top_behind g k hk⟩⟩
theorem any_take {α : Type} (l : List α) (p : α → Bool) (j : Nat) (hj : j < l.length) : (l.take (j + 1)).any p = ((l.take j).any p || p l[j]) := by
  rw [List.take_succ_eq_append_getElem hj, List.any_append, List.any_cons, List.any_nil, Bool.or_false]
theorem need_at {g : List Bs.T} {k : Nat} (hk : k < g.length) : Bs.need g k = g[k].needs := by unfold Bs.need; rw [List.getElem?_eq_getElem hk]
end Go.Proofs.Ytihgakbopkaemaa
namespace Go.Proofs.Ytihgakbopkaemaa
theorem TopOrder_len (g : List Bs.T) : (Bs.topL g).length ≤ 1000 := by
  unfold Bs.topL
  split
  · rename_i h
    have h1 := Bs.fine_len (valid_fine h)
    have h2 := (Bs.top_dist g).le
    omega
  · simp
theorem StuckTasks_len (g : List Bs.T) : (Bs.stuckL g).length ≤ 1000 := by
  unfold Bs.stuckL
  split
  · rename_i h
    have h1 := Bs.fine_len h
    have h2 := Bs.pick_len g.length (fun i => !(Bs.top g).contains (i : Int))
    omega
  · simp
end Go.Proofs.Ytihgakbopkaemaa
namespace Go.Proofs.Ytihgakbopkaemaa.Bs
theorem ord_stop (g : List T) : ∀ k out, Dist g.length out → g.length ≤ out.length + k → nxt g (ord g k out) = none := by
  intro k
  induction k with
  | zero =>
    intro out h hl
    have := h.le
    have e : out.length = g.length := by omega
    exact nxt_full h e
  | succ k ih =>
    intro out h hl
    unfold ord
    cases hn : nxt g out with
    | none => exact hn
    | some i => exact ih _ (h.snoc hn) (by simp; omega)
theorem top_stop (g : List T) : nxt g (top g) = none := ord_stop g _ _ (Dist.nil _) (by simp)
theorem stuck_iff {g : List T} {i : Nat} (hi : i < g.length) : (i : Int) ∉ top g ↔ ∃ x ∈ need g i, x ∉ top g := by
  constructor
  · intro hn
    have h1 := top_stop g
    unfold nxt at h1
    rw [List.find?_eq_none] at h1
    have h2 := h1 i (by simpa using hi)
    have h3 : (top g).contains (i : Int) = false := by simpa using hn
    unfold okNext at h2
    rw [h3] at h2
    simpa using h2
  · rintro ⟨x, hx, hxn⟩ hm
    obtain ⟨k, hk, e⟩ := List.mem_iff_getElem.1 hm
    refine hxn (List.mem_of_mem_take (top_behind g k hk x ?_))
    rw [e]
    simpa using hx
end Go.Proofs.Ytihgakbopkaemaa.Bs
namespace Go.Proofs.Ytihgakbopkaemaa
open Bs
theorem stuck_valid {g : List T} {L : List Int} (h : L = stuckL g) (h0 : ¬ L.length = 0) : valid g = false := by
  rw [Bool.eq_false_iff]
  intro hv
  apply h0
  subst h
  unfold stuckL
  rw [valid_fine hv]
  simp only [if_true]
  cases hl : pick g.length (fun i => !(top g).contains (i : Int)) with
  | nil => rfl
  | cons y r =>
    exfalso
    have hy : y ∈ pick g.length (fun i => !(top g).contains (i : Int)) := by rw [hl]; simp
    obtain ⟨j, hj, hp, rfl⟩ := (mem_pick _ _ _).1 hy
    have := (top_dist g).full (valid_full hv) j hj
    simp [this] at hp
theorem stuck_fine {g : List T} {L : List Int} (h : L = stuckL g) (h0 : ¬ L.length = 0) : fine g = true ∧ L = pick g.length (fun i => !(top g).contains (i : Int)) := by
  subst h
  unfold stuckL at *
  cases hf : fine g
  · rw [hf] at h0; simp at h0
  · exact ⟨rfl, by simp⟩
theorem stuck_law {g : List T} {L : List Int} (h : L = stuckL g) (h0 : ¬ L.length = 0) : ∀ i (hi : i < g.length), g[i].needs.any (fun x => L.contains x) = L.contains (i : Int) := by
  obtain ⟨hF, rfl⟩ := stuck_fine h h0
  intro i hi
  have hs := stuck_iff hi
  have hn : ∀ x ∈ g[i].needs, (pick g.length (fun i => !(top g).contains (i : Int))).contains x = !(top g).contains x := by
    intro x hx
    rw [← need_at hi] at hx
    have hr := fine_need hF hx
    obtain ⟨v, rfl⟩ : ∃ v : Nat, x = (v : Int) := ⟨x.toNat, by omega⟩
    rw [Bool.eq_iff_iff]
    have := mem_pick_nat g.length (fun i => !(top g).contains (i : Int)) v
    simp only [List.contains_eq_mem, decide_eq_true_eq] at this ⊢
    rw [this]
    constructor
    · exact fun h => h.2
    · exact fun h => ⟨by omega, h⟩
  rw [Bool.eq_iff_iff, List.any_eq_true]
  have hi2 := mem_pick_nat g.length (fun i => !(top g).contains (i : Int)) i
  constructor
  · rintro ⟨x, hx, hc⟩
    rw [hn x hx] at hc
    have : (i : Int) ∉ top g := hs.2 ⟨x, by rw [need_at hi]; exact hx, by simpa using hc⟩
    simpa using hi2.2 ⟨hi, by simpa using this⟩
  · intro hc
    have h1 := (hi2.1 (by simpa using hc)).2
    obtain ⟨x, hx, hxn⟩ := hs.1 (by simpa using h1)
    rw [need_at hi] at hx
    exact ⟨x, hx, by rw [hn x hx]; simpa using hxn⟩
end Go.Proofs.Ytihgakbopkaemaa
namespace Go.Proofs.Ytihgakbopkaemaa.Bs
theorem pigeon : ∀ (n : Nat) (l : List Int), (∀ i : Nat, i < n → (i : Int) ∈ l) → n ≤ l.length := by
  intro n
  induction n with
  | zero => intro l _; exact Nat.zero_le _
  | succ n ih =>
    intro l h
    have h1 := ih (l.filter (fun x => decide (x ≠ (n : Int)))) (by
      intro i hi
      rw [List.mem_filter]
      refine ⟨h i (by omega), ?_⟩
      simp; omega)
    have h2 : (l.filter (fun x => decide (x ≠ (n : Int)))).length < l.length := by
      rw [List.length_filter_lt_length_iff_exists]
      exact ⟨(n : Int), h n (by omega), by simp⟩
    omega
def bare (t : T) : T := { t with needs := [] }
/-- a graph whose first task needs itself -/
def selfG : List T → List T
  | [] => []
  | t :: r => { t with needs := [0] } :: r
theorem bare_valid {g : List T} (h : valid g = true) : valid (g.map bare) = true := by
  have hF := valid_fine h
  have hF' : fine (g.map bare) = true := by
    unfold fine at hF ⊢
    simp only [Bool.and_eq_true, decide_eq_true_eq, List.length_map, List.all_eq_true, List.mem_map] at hF ⊢
    refine ⟨?_, hF.2⟩
    rintro _ ⟨t, ht, rfl⟩
    have := hF.1 t ht
    rw [validT_iff] at this ⊢
    obtain ⟨a, b, c, d, e, f, _⟩ := this
    exact ⟨a, b, c, d, e, f, rfl⟩
  have hall : ∀ i : Nat, i < g.length → (i : Int) ∈ top (g.map bare) := by
    intro i hi
    rcases Classical.em ((i : Int) ∈ top (g.map bare)) with h1 | h1
    · exact h1
    · exfalso
      obtain ⟨x, hx, _⟩ := (stuck_iff (g := g.map bare) (i := i) (by simpa using hi)).1 h1
      rw [need_at (by simpa using hi)] at hx
      simp [bare] at hx
  unfold valid
  rw [hF']
  have h1 := pigeon _ _ hall
  have h2 := (top_dist (g.map bare)).le
  simp only [List.length_map] at h2
  simp
  omega
theorem self_valid {g : List T} (h0 : 0 < g.length) : valid (selfG g) = false := by
  rw [Bool.eq_false_iff]
  intro hv
  cases g with
  | nil => simp at h0
  | cons t r =>
    have hl : 0 < (selfG (t :: r)).length := by simp [selfG]
    have hm := (top_dist _).full (valid_full hv) 0 hl
    obtain ⟨k, hk, e⟩ := List.mem_iff_getElem.1 hm
    have hb := top_behind (selfG (t :: r)) k hk 0 (by rw [e]; simp [need, selfG])
    obtain ⟨j, hj, he⟩ := List.mem_iff_getElem.1 hb
    rw [List.length_take] at hj
    rw [List.getElem_take] at he
    have := top_inj (g := selfG (t :: r)) (by omega) hk (he.trans e.symm)
    omega
end Go.Proofs.Ytihgakbopkaemaa.Bs
namespace Go.Proofs.Ytihgakbopkaemaa.Bs
theorem needsA_yes {g : List T} {z : Int} (hv : valid g = true) (h0 : 0 ≤ z) (h1 : z < g.length) : needsA g z = needs2 g z.toNat := by unfold needsA; rw [if_pos ⟨hv, h0, h1⟩]
theorem usersA_yes {g : List T} {z : Int} (hv : valid g = true) (h0 : 0 ≤ z) (h1 : z < g.length) : usersA g z = users2 g z.toNat := by unfold usersA; rw [if_pos ⟨hv, h0, h1⟩]
theorem needs2_iff {g : List T} {v i : Nat} (hi : i < g.length) : (needs2 g v).contains (i : Int) = reachB g v i := by
  rw [Bool.eq_iff_iff]
  have := mem_pick_nat g.length (reachB g v) i
  unfold needs2
  simp only [List.contains_eq_mem, decide_eq_true_eq, this]
  exact ⟨fun h => h.2, fun h => ⟨hi, h⟩⟩
theorem users2_iff {g : List T} {v i : Nat} (hi : i < g.length) : (users2 g v).contains (i : Int) = reachB g i v := by
  rw [Bool.eq_iff_iff]
  have := mem_pick_nat g.length (fun j => reachB g j v) i
  unfold users2
  simp only [List.contains_eq_mem, decide_eq_true_eq, this]
  exact ⟨fun h => h.2, fun h => ⟨hi, h⟩⟩
theorem reach_self {g : List T} (hv : valid g = true) (v : Nat) : reachB g v v = false := by
  rw [Bool.eq_false_iff]
  intro h
  exact (reachB_iff.1 h).irrefl (valid_full hv)
/-- what the law of needs wants -/
theorem needs_law {g : List T} {L : List Int} {v : Nat} (h : L = needsA g v) (hv : valid g = true) (hz : v < g.length) : L.contains (v : Int) = false ∧
    (∀ i : Nat, i < g.length → (g[v].needs.contains (i : Int) || g[v].needs.any (fun x => (needsA g x).contains (i : Int))) = L.contains (i : Int)) := by
  rw [needsA_yes hv (by omega) (by omega), Int.toNat_natCast] at h
  subst h
  have hF := valid_fine hv
  refine ⟨by rw [needs2_iff hz]; exact reach_self hv v, ?_⟩
  intro i hi
  rw [needs2_iff hi, Bool.eq_iff_iff, reachB_iff, Reach_iff, need_at hz]
  simp only [Bool.or_eq_true, List.any_eq_true, List.contains_eq_mem, decide_eq_true_eq]
  constructor
  · rintro (h | ⟨x, hx, h⟩)
    · exact .inl h
    · rw [← need_at hz] at hx
      have hr := fine_need hF hx
      rw [needsA_yes hv hr.1 hr.2] at h
      have h2 := needs2_iff (g := g) (v := x.toNat) hi
      simp only [List.contains_eq_mem, h, decide_true] at h2
      exact .inr ⟨x.toNat, by rw [← need_at hz, Int.toNat_of_nonneg hr.1]; exact hx, reachB_iff.1 h2.symm⟩
  · rintro (h | ⟨k, hk, h⟩)
    · exact .inl h
    · rw [← need_at hz] at hk
      have hr := fine_need hF hk
      refine .inr ⟨(k : Int), by rw [← need_at hz]; exact hk, ?_⟩
      rw [needsA_yes hv hr.1 hr.2, Int.toNat_natCast]
      have h2 := needs2_iff (g := g) (v := k) hi
      rw [reachB_iff.2 h] at h2
      simpa using h2
theorem users_law {g : List T} {L : List Int} {v : Nat} (h : L = usersA g v) (hv : valid g = true) (hz : v < g.length) : L.contains (v : Int) = false ∧
    (∀ i : Nat, i < g.length → L.contains (i : Int) = (needsA g i).contains (v : Int)) := by
  rw [usersA_yes hv (by omega) (by omega), Int.toNat_natCast] at h
  subst h
  refine ⟨by rw [users2_iff hz]; exact reach_self hv v, ?_⟩
  intro i hi
  rw [users2_iff hi, needsA_yes hv (by omega) (by omega), Int.toNat_natCast, needs2_iff hz]
/-- in the order: users behind, needs before -/
theorem order_law {g : List T} {L N O : List Int} {v : Nat} (h : L = usersA g v) (hN : N = needsA g v) (hO : O = topL g) (hv : valid g = true) (hz : v < g.length) :
    O.any (fun x => x == (v : Int)) = true ∧ ∀ k (hk : k < O.length), (L.contains O[k] = true → (O.take k).any (fun x => x == (v : Int)) = true) ∧ (N.contains O[k] = true → (O.take k).any (fun x => x == (v : Int)) = false) := by
  have htop : topL g = top g := by unfold topL; rw [hv]; rfl
  rw [htop] at hO
  rw [usersA_yes hv (by omega) (by omega), Int.toNat_natCast] at h
  rw [needsA_yes hv (by omega) (by omega), Int.toNat_natCast] at hN
  subst h
  subst hN
  subst hO
  have hg := valid_full hv
  obtain ⟨p, hp, he⟩ := List.mem_iff_getElem.1 ((top_dist g).full hg v hz)
  constructor
  · rw [List.any_eq_true]
    exact ⟨(v : Int), (top_dist g).full hg v hz, by simp⟩
  · intro k hk
    have r := top_range (g := g) hk
    obtain ⟨x, hx⟩ : ∃ x : Nat, (top g)[k] = (x : Int) := ⟨(top g)[k].toNat, by omega⟩
    have hxl : x < g.length := by omega
    rw [hx]
    constructor
    · intro hu
      rw [users2_iff hxl, reachB_iff] at hu
      obtain ⟨q, hq, hqk, hqe⟩ := hu.before k hk hx
      rw [List.any_eq_true]
      refine ⟨(v : Int), ?_, by simp⟩
      rw [← hqe]
      exact List.mem_iff_getElem.2 ⟨q, by rw [List.length_take]; omega, by simp⟩
    · intro hn
      rw [needs2_iff hxl, reachB_iff] at hn
      obtain ⟨q, hq, hqk, hqe⟩ := hn.before p hp he
      have hqk' : q = k := top_inj hq hk (by rw [hqe, hx])
      rw [List.any_eq_false]
      intro y hy hye
      have hye : y = (v : Int) := by simpa using hye
      obtain ⟨j, hj, hje⟩ := List.mem_iff_getElem.1 hy
      rw [List.length_take] at hj
      rw [List.getElem_take] at hje
      have := top_inj (g := g) (i := j) (by omega) hp (by rw [hje, hye, he])
      omega
end Go.Proofs.Ytihgakbopkaemaa.Bs
namespace Go.Proofs.Ytihgakbopkaemaa.Bs
/-- valid done tasks -/
def vdone (g : List T) (d : List Int) : Bool := valid g && asc d && allInB d 0 ((g.length : Int) - 1) && d.all (fun x => (need g x.toNat).all fun y => d.contains y)
/-- the tasks that can be done next -/
def readyC (g : List T) (d : List Int) : List Int := pick g.length (okNext g d)
def readyL (g : List T) (d : List Int) : List Int := if vdone g d then readyC g d else []
def finOk (g : List T) (d : List Int) (a : Int) : Bool := vdone g d && (readyC g d).contains a
def finC (g : List T) (d : List Int) (a : Int) : List Int := pick g.length (fun i => ((i : Int) == a) || d.contains (i : Int))
def finL (g : List T) (d : List Int) (a : Int) : List Int := if finOk g d a then finC g d a else []
def waitsC (g : List T) (d : List Int) (a : Int) : List Int := (need g a.toNat).filter fun y => !d.contains y
def waitsL (g : List T) (d : List Int) (a : Int) : List Int := if vdone g d && decide (0 ≤ a ∧ a ≤ (g.length : Int) - 1) then waitsC g d a else []
theorem vdone_no1 {g : List T} {d : List Int} (h : valid g = false) : vdone g d = false := by unfold vdone; rw [h]; rfl
theorem vdone_no2 {g : List T} {d : List Int} (h : asc d = false) : vdone g d = false := by unfold vdone; rw [h]; simp
theorem vdone_no3 {g : List T} {d : List Int} (h : allInB d 0 ((g.length : Int) - 1) = false) : vdone g d = false := by unfold vdone; rw [h]; simp
theorem vdone_at {g : List T} {d : List Int} (hv : valid g = true) (ha : asc d = true) (hi : allInB d 0 ((g.length : Int) - 1) = true) : vdone g d = d.all (fun x => (need g x.toNat).all fun y => d.contains y) := by unfold vdone; rw [hv, ha, hi]; rfl
theorem all_take {α : Type} (l : List α) (p : α → Bool) (j : Nat) (hj : j < l.length) : (l.take (j + 1)).all p = ((l.take j).all p && p l[j]) := by
  rw [List.take_succ_eq_append_getElem hj, List.all_append, List.all_cons, List.all_nil, Bool.and_true]
theorem all_false_at {α : Type} {l : List α} {p : α → Bool} {j : Nat} (hj : j < l.length) (h : p l[j] = false) : l.all p = false := by
  rw [List.all_eq_false]
  exact ⟨l[j], List.getElem_mem hj, by simpa using h⟩
theorem vdone_valid {g : List T} {d : List Int} (h : vdone g d = true) : valid g = true := by
  cases hv : valid g
  · rw [vdone_no1 hv] at h; exact h
  · rfl
theorem allInB_mem {l : List Int} {a b : Int} (h : allInB l a b = true) {x : Int} (hx : x ∈ l) : a ≤ x ∧ x ≤ b := by
  unfold allInB at h
  rw [List.all_eq_true] at h
  simpa using h x hx
theorem readyC_len (g : List T) (d : List Int) : (readyC g d).length ≤ g.length := pick_len _ _
theorem finC_len (g : List T) (d : List Int) (a : Int) : (finC g d a).length ≤ g.length := pick_len _ _
end Go.Proofs.Ytihgakbopkaemaa.Bs
namespace Go.Proofs.Ytihgakbopkaemaa.Bs
def poolOf (g : List T) (i : Nat) : Int := match g[i]? with | some t => t.pool | none => 0
def unitsOf (g : List T) (i : Nat) : Int := match g[i]? with | some t => t.units | none => 0
theorem pool_at {g : List T} {k : Nat} (hk : k < g.length) : poolOf g k = g[k].pool := by unfold poolOf; rw [List.getElem?_eq_getElem hk]
theorem units_at {g : List T} {k : Nat} (hk : k < g.length) : unitsOf g k = g[k].units := by unfold unitsOf; rw [List.getElem?_eq_getElem hk]
def sumZ : List Int → Int
  | [] => 0
  | x :: r => x + sumZ r
theorem sumZ_append (l l' : List Int) : sumZ (l ++ l') = sumZ l + sumZ l' := by
  induction l with
  | nil => simp [sumZ]
  | cons x r ih => simp only [List.cons_append, sumZ, ih]; omega
theorem sumZ_take (L : List Int) (f : Int → Int) (k : Nat) (hk : k < L.length) : sumZ ((L.take (k + 1)).map f) = sumZ ((L.take k).map f) + f L[k] := by
  rw [List.take_succ_eq_append_getElem hk, List.map_append, sumZ_append]
  simp [sumZ]
/-- the units of a pool that some tasks take -/
def unitF (g : List T) (p x : Int) : Int := if poolOf g x.toNat == p then unitsOf g x.toNat else 0
def usedC (g : List T) (r : List Int) (p : Int) : Int := sumZ (r.map (unitF g p))
def roomOk (r : List Int) : Bool := decide (r.length = 3) && allInB r 4 8
def inG (g : List T) (r : List Int) : Bool := asc r && allInB r 0 ((g.length : Int) - 1)
def giZ (l : List Int) (k : Nat) : Int := match l[k]? with | some x => x | none => 0
theorem giZ_at {l : List Int} {k : Nat} (hk : k < l.length) : giZ l k = l[k] := by unfold giZ; rw [List.getElem?_eq_getElem hk]
def fitsC (g : List T) (room r : List Int) : Bool := (List.range 3).all fun p => decide (usedC g r (p : Int) ≤ giZ room p)
def runOk (g : List T) (room r : List Int) : Bool := valid g && roomOk room && inG g r && fitsC g room r
def usedL (g : List T) (r : List Int) : List Int := if valid g && inG g r then (List.range 3).map (fun p => usedC g r ((p : Nat) : Int)) else []
theorem fine_task {g : List T} (hF : fine g = true) {i : Nat} (hi : i < g.length) : 0 ≤ g[i].pool ∧ g[i].pool ≤ 2 ∧ 1 ≤ g[i].units ∧ g[i].units ≤ 4 := by
  unfold fine at hF
  simp only [Bool.and_eq_true, List.all_eq_true] at hF
  have h := hF.1 g[i] (List.getElem_mem hi)
  rw [validT_iff] at h
  exact ⟨h.2.2.1, h.2.2.2.1, h.2.2.2.2.1, h.2.2.2.2.2.1⟩
theorem asc_ge {l : List Int} (h : asc l = true) (h0 : ∀ x ∈ l, 0 ≤ x) : ∀ k (hk : k < l.length), (k : Int) ≤ l[k] := by
  intro k
  induction k with
  | zero => intro hk; exact h0 _ (List.getElem_mem hk)
  | succ k ih =>
    intro hk
    have h1 := (asc_iff l).1 h k hk
    have h2 := ih (by omega)
    omega
theorem inG_mem {g : List T} {r : List Int} (h : inG g r = true) : ∀ x ∈ r, 0 ≤ x ∧ x < g.length := by
  unfold inG at h
  rw [Bool.and_eq_true] at h
  intro x hx
  have := allInB_mem h.2 hx
  omega
theorem inG_len {g : List T} {r : List Int} (h : inG g r = true) : r.length ≤ g.length := by
  have hm := inG_mem h
  unfold inG at h
  rw [Bool.and_eq_true] at h
  rcases Nat.lt_or_ge g.length r.length with h1 | h1
  · exfalso
    have h2 := asc_ge h.1 (fun x hx => (hm x hx).1) (r.length - 1) (by omega)
    have h3 := hm r[r.length - 1] (List.getElem_mem (by omega))
    omega
  · exact h1
theorem inG_no1 {g : List T} {r : List Int} (h : asc r = false) : inG g r = false := by unfold inG; rw [h]; rfl
theorem inG_no2 {g : List T} {r : List Int} (h : allInB r 0 ((g.length : Int) - 1) = false) : inG g r = false := by unfold inG; rw [h]; simp
theorem inG_yes {g : List T} {r : List Int} (h1 : asc r = true) (h2 : allInB r 0 ((g.length : Int) - 1) = true) : inG g r = true := by unfold inG; rw [h1, h2]; rfl
theorem roomOk_len {r : List Int} (h : roomOk r = true) : r.length = 3 := by
  unfold roomOk at h
  simp only [Bool.and_eq_true, decide_eq_true_eq] at h
  exact h.1
theorem fine_inG {g : List T} (hF : fine g = true) {i : Nat} (hi : i < g.length) : inG g g[i].needs = true := by
  unfold fine at hF
  simp only [Bool.and_eq_true, List.all_eq_true] at hF
  have h := hF.1 g[i] (List.getElem_mem hi)
  rw [validT_iff] at h
  have h7 := h.2.2.2.2.2.2
  rw [Bool.and_eq_true] at h7
  exact inG_yes h7.2 h7.1
theorem fine_needs_len {g : List T} (hF : fine g = true) {i : Nat} (hi : i < g.length) : g[i].needs.length ≤ g.length := inG_len (fine_inG hF hi)
end Go.Proofs.Ytihgakbopkaemaa.Bs
namespace Go.Proofs.Ytihgakbopkaemaa.Bs
theorem asc_snoc {l : List Int} {x : Int} (h : asc l = true) (hx : ∀ y ∈ l, y < x) : asc (l ++ [x]) = true := by
  rw [asc_iff] at h ⊢
  intro k hk
  simp only [List.length_append, List.length_cons, List.length_nil] at hk
  by_cases e : k + 1 < l.length
  · rw [List.getElem_append_left (by omega), List.getElem_append_left e]
    exact h k e
  · have e2 : k + 1 = l.length := by omega
    rw [List.getElem_append_left (by omega), List.getElem_append_right (by omega)]
    simp only [e2, Nat.sub_self, List.getElem_cons_zero]
    exact hx _ (List.getElem_mem _)
theorem asc_pick (p : Nat → Bool) : ∀ n, asc (pick n p) = true := by
  intro n
  induction n with
  | zero => rfl
  | succ n ih =>
    rw [pick_succ]
    split
    · refine asc_snoc ih ?_
      intro y hy
      obtain ⟨j, hj, _, rfl⟩ := (mem_pick _ _ _).1 hy
      omega
    · exact ih
theorem pick_in (p : Nat → Bool) (n : Nat) : allInB (pick n p) 0 ((n : Int) - 1) = true := by
  unfold allInB
  rw [List.all_eq_true]
  intro x hx
  obtain ⟨j, hj, _, rfl⟩ := (mem_pick _ _ _).1 hx
  simp
  omega
theorem inG_pick (g : List T) (p : Nat → Bool) : inG g (pick g.length p) = true := inG_yes (asc_pick p _) (pick_in p _)
theorem vdone_iff {g : List T} {d : List Int} : vdone g d = true ↔ valid g = true ∧ inG g d = true ∧ ∀ x ∈ d, ∀ y ∈ need g x.toNat, y ∈ d := by
  unfold vdone inG
  simp only [Bool.and_eq_true, List.all_eq_true, List.contains_eq_mem, decide_eq_true_eq]
  constructor
  · rintro ⟨⟨⟨h1, h2⟩, h3⟩, h4⟩; exact ⟨h1, ⟨h2, h3⟩, h4⟩
  · rintro ⟨h1, ⟨h2, h3⟩, h4⟩; exact ⟨⟨⟨h1, h2⟩, h3⟩, h4⟩
theorem vdone_nil (g : List T) : vdone g [] = valid g := by unfold vdone; simp [asc, allInB]
def allL (n : Nat) : List Int := pick n fun _ => true
theorem allL_len (n : Nat) : (allL n).length = n := by
  induction n with
  | zero => rfl
  | succ n ih => unfold allL at *; rw [pick_succ]; simp [ih]
theorem vdone_all {g : List T} (hv : valid g = true) : vdone g (allL g.length) = true := by
  rw [vdone_iff]
  refine ⟨hv, inG_pick g _, ?_⟩
  intro x hx y hy
  obtain ⟨j, hj, _, rfl⟩ := (mem_pick _ _ _).1 hx
  have hr := fine_need (valid_fine hv) hy
  rw [← Int.toNat_of_nonneg hr.1]
  exact (mem_pick_nat _ _ _).2 ⟨by omega, rfl⟩
theorem mem_ready {g : List T} {d : List Int} {i : Nat} : (i : Int) ∈ readyC g d ↔ i < g.length ∧ (i : Int) ∉ d ∧ ∀ y ∈ need g i, y ∈ d := by
  unfold readyC
  rw [mem_pick_nat]
  unfold okNext
  simp
/-- if nothing is ready, all is done -/
theorem ready_none {g : List T} {d : List Int} (h : vdone g d = true) (h0 : readyC g d = []) : d.length = g.length := by
  obtain ⟨hv, hin, _⟩ := vdone_iff.1 h
  have hle := inG_len hin
  have hall : ∀ i, i < g.length → (i : Int) ∈ d := by
    refine need_ind (valid_full hv) (fun i => (i : Int) ∈ d) ?_
    intro i hi ih
    rcases Classical.em ((i : Int) ∈ d) with h1 | h1
    · exact h1
    · exfalso
      have : (i : Int) ∈ readyC g d := by
        rw [mem_ready]
        refine ⟨hi, h1, ?_⟩
        intro y hy
        have hr := fine_need (valid_fine hv) hy
        have := ih y hy
        rwa [Int.toNat_of_nonneg hr.1] at this
      rw [h0] at this
      simp at this
  have := pigeon g.length d hall
  omega
theorem mem_fin {g : List T} {d : List Int} {a : Int} {i : Nat} : (i : Int) ∈ finC g d a ↔ i < g.length ∧ ((i : Int) = a ∨ (i : Int) ∈ d) := by
  unfold finC
  rw [mem_pick_nat]
  simp
theorem finOk_iff {g : List T} {d : List Int} {a : Int} : finOk g d a = true ↔ vdone g d = true ∧ a ∈ readyC g d := by
  unfold finOk
  simp
theorem pick_nodup (p : Nat → Bool) : ∀ n, (pick n p).Nodup := by
  intro n
  induction n with
  | zero => exact List.nodup_nil
  | succ n ih =>
    rw [pick_succ]
    split
    · rw [List.nodup_append]
      refine ⟨ih, by simp, ?_⟩
      intro a ha b hb
      simp only [List.mem_singleton] at hb
      subst hb
      obtain ⟨j, hj, _, rfl⟩ := (mem_pick _ _ _).1 ha
      omega
    · exact ih
theorem nodup_le : ∀ {l l' : List Int}, l.Nodup → (∀ x ∈ l, x ∈ l') → l.length ≤ l'.length := by
  intro l
  induction l with
  | nil => intro l' _ _; exact Nat.zero_le _
  | cons x r ih =>
    intro l' hn h
    rw [List.nodup_cons] at hn
    have h1 := ih (l' := l'.filter (fun y => decide (y ≠ x))) hn.2 (by
      intro y hy
      rw [List.mem_filter]
      refine ⟨h y (by simp [hy]), ?_⟩
      simp
      rintro rfl
      exact hn.1 hy)
    have h2 : (l'.filter (fun y => decide (y ≠ x))).length < l'.length := by
      rw [List.length_filter_lt_length_iff_exists]
      exact ⟨x, h x (by simp), by simp⟩
    simp only [List.length_cons]
    omega
theorem pick_one_more {q : Nat → Bool} {v : Nat} : ∀ {n : Nat}, v < n → q v = false → (pick n (fun i => ((i : Int) == (v : Int)) || q i)).length = (pick n q).length + 1 := by
  intro n
  induction n with
  | zero => intro h; omega
  | succ n ih =>
    intro h hq
    rw [pick_succ, pick_succ]
    by_cases e : v = n
    · subst e
      have h1 : pick v (fun i => ((i : Int) == (v : Int)) || q i) = pick v q := pick_congr _ _ _ (by
        intro i hi
        have : ((i : Int) == (v : Int)) = false := by rw [beq_eq_false_iff_ne]; omega
        rw [this]; rfl)
      rw [h1, hq]
      simp
    · have h1 := ih (by omega) hq
      have h2 : ((n : Int) == (v : Int)) = false := by rw [beq_eq_false_iff_ne]; omega
      rw [h2, Bool.false_or]
      cases hn : q n <;> simp [h1]
/-- a task that is finished -/
theorem fin_law {g : List T} {d : List Int} {a : Int} (h : finOk g d a = true) : (∀ x ∈ d, x ∈ finC g d a) ∧ a ∈ finC g d a ∧ a ∉ d ∧ (finC g d a).length = d.length + 1 ∧ vdone g (finC g d a) = true ∧ 0 ≤ a ∧ a < g.length := by
  obtain ⟨h1, h2⟩ := finOk_iff.1 h
  obtain ⟨hv, hin, hcl⟩ := vdone_iff.1 h1
  have hm := inG_mem hin
  have h2' := h2
  unfold readyC at h2'
  obtain ⟨v, hvl, _, rfl⟩ := (mem_pick _ _ _).1 h2'
  obtain ⟨_, hnd, hneeds⟩ := mem_ready.1 h2
  have hsub : ∀ x ∈ d, x ∈ finC g d (v : Int) := by
    intro x hx
    have := hm x hx
    rw [← Int.toNat_of_nonneg this.1]
    exact mem_fin.2 ⟨by omega, .inr (by rw [Int.toNat_of_nonneg this.1]; exact hx)⟩
  have hvm : (v : Int) ∈ finC g d (v : Int) := mem_fin.2 ⟨hvl, .inl rfl⟩
  refine ⟨hsub, hvm, hnd, ?_, ?_, by omega, by omega⟩
  · -- both are lists of distinct numbers
    have hd1 : d.Nodup := by
      rw [List.nodup_iff_pairwise_ne, List.pairwise_iff_getElem]
      unfold inG at hin
      rw [Bool.and_eq_true] at hin
      intro i j hi hj hij e
      have hmono : ∀ n i (hi : i + n + 1 < d.length), d[i] < d[i + n + 1] := by
        intro n
        induction n with
        | zero => intro i hi; exact (asc_iff d).1 hin.1 i hi
        | succ n ih =>
          intro i hi
          have h5 := ih i (by omega)
          have h6 := (asc_iff d).1 hin.1 (i + n + 1) (by omega)
          have e9 : i + (n + 1) + 1 = i + n + 1 + 1 := by omega
          simp only [e9]
          omega
      have h7 := hmono (j - i - 1) i (by omega)
      have e8 : i + (j - i - 1) + 1 = j := by omega
      simp only [e8] at h7
      omega
    have hp1 : (pick g.length (fun i => d.contains (i : Int))).length = d.length := by
      have ha : Dist g.length d := ⟨hd1, fun x hx => hm x hx⟩
      have hb : Dist g.length (pick g.length (fun i => d.contains (i : Int))) := ⟨pick_nodup _ _, fun x hx => by obtain ⟨j, hj, _, rfl⟩ := (mem_pick _ _ _).1 hx; omega⟩
      refine Nat.le_antisymm (nodup_le hb.1 ?_) (nodup_le ha.1 ?_)
      · intro x hx
        obtain ⟨j, hj, hc, rfl⟩ := (mem_pick _ _ _).1 hx
        simpa using hc
      · intro x hx
        have := hm x hx
        rw [← Int.toNat_of_nonneg this.1]
        exact (mem_pick_nat _ _ _).2 ⟨by omega, by rw [Int.toNat_of_nonneg this.1]; simpa using hx⟩
    rw [← hp1]
    exact pick_one_more hvl (by simpa using hnd)
  · rw [vdone_iff]
    refine ⟨hv, inG_pick g _, ?_⟩
    intro x hx y hy
    unfold finC at hx
    obtain ⟨j, hj, hc, rfl⟩ := (mem_pick _ _ _).1 hx
    rw [Int.toNat_natCast] at hy
    simp only [Bool.or_eq_true, beq_iff_eq, List.contains_eq_mem, decide_eq_true_eq] at hc
    rcases hc with hc | hc
    · have e : j = v := by omega
      subst e
      exact hsub y (hneeds y hy)
    · exact hsub y (hcl _ hc y (by rw [Int.toNat_natCast]; exact hy))
/-- rooms can be larger, and not too small -/
theorem room_set {r : List Int} (h : roomOk r = true) {i : Nat} (hi : i < r.length) : roomOk (r.set i 8) = true ∧ roomOk (r.set i 3) = false := by
  have h3 := roomOk_len h
  unfold roomOk at h
  simp only [Bool.and_eq_true, decide_eq_true_eq] at h
  constructor
  · unfold roomOk
    simp only [Bool.and_eq_true, decide_eq_true_eq, List.length_set]
    refine ⟨h3, ?_⟩
    unfold allInB
    rw [List.all_eq_true]
    intro x hx
    rcases List.mem_or_eq_of_mem_set hx with h1 | h1
    · have := allInB_mem h.2 h1
      simp
      omega
    · subst h1; rfl
  · rw [Bool.eq_false_iff]
    intro hc
    unfold roomOk at hc
    simp only [Bool.and_eq_true, decide_eq_true_eq] at hc
    have hm : (3 : Int) ∈ r.set i 3 := by
      refine List.mem_iff_getElem.2 ⟨i, by simpa using hi, by simp⟩
    have := allInB_mem hc.2 hm
    omega
theorem room_ge {r : List Int} (h : roomOk r = true) {p : Nat} (hp : p < 3) : 4 ≤ giZ r p := by
  have h3 := roomOk_len h
  unfold roomOk at h
  simp only [Bool.and_eq_true, decide_eq_true_eq] at h
  rw [giZ_at (by omega)]
  exact (allInB_mem h.2 (List.getElem_mem (by omega))).1
/-- one task runs, and none runs -/
theorem run_one {g : List T} {m : List Int} (hv : valid g = true) (hm : roomOk m = true) : runOk g m [] = true ∧ ∀ i : Nat, i < g.length → runOk g m [(i : Int)] = true := by
  have hF := valid_fine hv
  constructor
  · unfold runOk
    rw [hv, hm]
    simp only [Bool.true_and, Bool.and_eq_true]
    refine ⟨inG_yes rfl rfl, ?_⟩
    unfold fitsC
    rw [List.all_eq_true]
    intro p hp
    have := room_ge hm (p := p) (by simpa using hp)
    simp [usedC, sumZ]
    omega
  · intro i hi
    have hu := fine_task hF hi
    unfold runOk
    rw [hv, hm]
    simp only [Bool.true_and, Bool.and_eq_true]
    refine ⟨inG_yes rfl ?_, ?_⟩
    · simp [allInB]
      omega
    · unfold fitsC
      rw [List.all_eq_true]
      intro p hp
      have h4 := room_ge hm (p := p) (by simpa using hp)
      have h5 : usedC g [(i : Int)] (p : Int) = if g[i].pool == (p : Int) then g[i].units else 0 := by
        unfold usedC unitF
        simp only [List.map_cons, List.map_nil, sumZ, Int.toNat_natCast, Int.add_zero]
        rw [pool_at hi, units_at hi]
      rw [h5]
      split <;> simp <;> omega
/-- units that are used, and rooms -/
theorem units_law {g : List T} {m r U : List Int} (hU : U = usedL g r) (h3 : U.length = 3) (hm : roomOk m = true) : m.length = 3 ∧ runOk g m r = (List.range 3).all (fun p => decide (giZ U p ≤ giZ m p)) := by
  refine ⟨roomOk_len hm, ?_⟩
  unfold usedL at hU
  split at hU
  · rename_i h
    rw [Bool.and_eq_true] at h
    unfold runOk
    rw [h.1, hm, h.2]
    simp only [Bool.true_and]
    unfold fitsC
    have hg : ∀ p, p < 3 → giZ U p = usedC g r (p : Int) := by
      intro p hp
      rw [giZ_at (by omega)]
      subst hU
      simp
    rw [Bool.eq_iff_iff, List.all_eq_true, List.all_eq_true]
    constructor
    · intro h p hp
      rw [hg p (by simpa using hp)]
      exact h p hp
    · intro h p hp
      have := h p hp
      rwa [hg p (by simpa using hp)] at this
  · subst hU
    simp at h3
end Go.Proofs.Ytihgakbopkaemaa.Bs
namespace Go.Proofs.Ytihgakbopkaemaa.Bs
theorem contains_iff {l : List Int} {x : Int} : l.contains x = true ↔ x ∈ l := by simp
/-- ready tasks can be finished, and are not done -/
theorem ready_law {g : List T} {d : List Int} (h : vdone g d = true) (i : Nat) : (readyC g d).contains (i : Int) = finOk g d (i : Int) ∧ ((readyC g d).contains (i : Int) = true → d.contains (i : Int) = false) := by
  refine ⟨by unfold finOk; rw [h]; rfl, ?_⟩
  intro hc
  have := (mem_ready.1 (contains_iff.1 hc)).2.1
  simpa using this
/-- the tasks that are ready at first -/
theorem first_law {g : List T} {i : Nat} (hi : i < g.length) : (readyC g []).contains (i : Int) = ((g[i].needs.length : Int) == 0) := by
  rw [Bool.eq_iff_iff, contains_iff, mem_ready, need_at hi]
  simp only [beq_iff_eq]
  constructor
  · rintro ⟨_, _, h⟩
    cases hn : g[i].needs with
    | nil => rfl
    | cons x r => exact absurd (h x (by rw [hn]; simp)) (by simp)
  · intro h
    refine ⟨hi, by simp, ?_⟩
    intro y hy
    rw [List.eq_nil_of_length_eq_zero (by omega : g[i].needs.length = 0)] at hy
    simp at hy
/-- what a task waits for -/
theorem waits_law {g : List T} {d : List Int} (h : vdone g d = true) {a : Nat} (ha : a < g.length) : (∀ x ∈ waitsC g d (a : Int), g[a].needs.contains x = true ∧ d.contains x = false) ∧
    (((waitsC g d (a : Int)).length : Int) == 0) = (d.contains (a : Int) || (readyC g d).contains (a : Int)) := by
  obtain ⟨hv, hin, hcl⟩ := vdone_iff.1 h
  have hw : waitsC g d (a : Int) = g[a].needs.filter fun y => !d.contains y := by unfold waitsC; rw [Int.toNat_natCast, need_at ha]
  rw [hw]
  constructor
  · intro x hx
    rw [List.mem_filter] at hx
    exact ⟨contains_iff.2 hx.1, by simpa using hx.2⟩
  · rw [Bool.eq_iff_iff, Bool.or_eq_true, contains_iff, contains_iff, mem_ready, need_at ha]
    simp only [beq_iff_eq]
    constructor
    · intro h0
      have hall : ∀ y ∈ g[a].needs, y ∈ d := by
        intro y hy
        rcases Classical.em (y ∈ d) with h1 | h1
        · exact h1
        · exfalso
          have : y ∈ g[a].needs.filter fun y => !d.contains y := by rw [List.mem_filter]; exact ⟨hy, by simpa using h1⟩
          have := List.length_pos_of_mem this
          omega
      rcases Classical.em ((a : Int) ∈ d) with h1 | h1
      · exact .inl h1
      · exact .inr ⟨ha, h1, hall⟩
    · intro h1
      have hall : ∀ y ∈ g[a].needs, y ∈ d := by
        rcases h1 with h1 | h1
        · intro y hy
          exact hcl _ h1 y (by rw [Int.toNat_natCast, need_at ha]; exact hy)
        · exact h1.2.2
      have : (g[a].needs.filter fun y => !d.contains y) = [] := by
        rw [List.filter_eq_nil_iff]
        intro y hy
        simpa using hall y hy
      rw [this]
      rfl
theorem waits_nil {g : List T} (hv : valid g = true) {a : Nat} (ha : a < g.length) : waitsL g [] (a : Int) = g[a].needs := by
  unfold waitsL
  rw [vdone_nil, hv]
  have : decide (0 ≤ (a : Int) ∧ (a : Int) ≤ (g.length : Int) - 1) = true := by simp; omega
  rw [this]
  simp only [Bool.and_self, if_true]
  unfold waitsC
  rw [Int.toNat_natCast, need_at ha]
  rw [List.filter_eq_self]
  simp
theorem waits_all {g : List T} (hv : valid g = true) (a : Nat) : waitsL g (allL g.length) (a : Int) = [] := by
  have h := vdone_all hv
  unfold waitsL
  rw [h]
  split
  · unfold waitsC
    rw [List.filter_eq_nil_iff]
    intro y hy
    rw [Int.toNat_natCast] at hy
    have hr := fine_need (valid_fine hv) hy
    have : y ∈ allL g.length := by
      rw [← Int.toNat_of_nonneg hr.1]
      exact (mem_pick_nat _ _ _).2 ⟨by omega, rfl⟩
    simpa using this
  · rfl
/-- what becomes ready by finishing a task -/
theorem after_law {g : List T} {d : List Int} {a : Int} (h : finOk g d a = true) : (readyC g (finC g d a)).contains a = false ∧ ∀ i : Nat, (readyC g (finC g d a)).contains (i : Int) = true → i < g.length ∧ ((readyC g d).contains (i : Int) = true ∨ a ∈ need g i) := by
  obtain ⟨h1, h2, h3, h4, h5, h6, h7⟩ := fin_law h
  constructor
  · rw [Bool.eq_false_iff]
    intro hc
    rw [← Int.toNat_of_nonneg h6, contains_iff, mem_ready] at hc
    rw [Int.toNat_of_nonneg h6] at hc
    exact hc.2.1 h2
  · intro i hc
    rw [contains_iff, mem_ready] at hc
    obtain ⟨hi, hn, hall⟩ := hc
    refine ⟨hi, ?_⟩
    rcases Classical.em (a ∈ need g i) with h8 | h8
    · exact .inr h8
    · left
      rw [contains_iff, mem_ready]
      refine ⟨hi, fun h9 => hn (h1 _ h9), ?_⟩
      intro y hy
      have := hall y hy
      have hr := fine_need (valid_fine (vdone_valid (finOk_iff.1 h).1)) hy
      rw [← Int.toNat_of_nonneg hr.1, mem_fin, Int.toNat_of_nonneg hr.1] at this
      rcases this.2 with h10 | h10
      · exfalso
        apply h8
        rw [← h10]
        exact hy
      · exact h10
/-- the order of finishing does not matter -/
theorem order_fin {g : List T} {d : List Int} {a b : Int} (ha : finOk g d a = true) (hb : b ∈ readyC g d) (hne : b ≠ a) :
    finOk g (finC g d a) b = true ∧ finOk g d b = true ∧ finOk g (finC g d b) a = true ∧ finC g (finC g d a) b = finC g (finC g d b) a := by
  obtain ⟨hd, har⟩ := finOk_iff.1 ha
  have hb' : finOk g d b = true := finOk_iff.2 ⟨hd, hb⟩
  obtain ⟨a1, a2, a3, a4, a5, a6, a7⟩ := fin_law ha
  obtain ⟨b1, b2, b3, b4, b5, b6, b7⟩ := fin_law hb'
  have key : ∀ {x y : Int}, finOk g d x = true → y ∈ readyC g d → y ≠ x → y ∈ readyC g (finC g d x) := by
    intro x y hx hy hxy
    obtain ⟨x1, x2, x3, x4, x5, x6, x7⟩ := fin_law hx
    have hy0 := hy
    unfold readyC at hy0
    obtain ⟨v, hv, _, rfl⟩ := (mem_pick _ _ _).1 hy0
    obtain ⟨h1, h2, h3⟩ := mem_ready.1 hy
    rw [mem_ready]
    refine ⟨hv, ?_, fun z hz => x1 z (h3 z hz)⟩
    intro hm
    rcases (mem_fin.1 hm).2 with h4 | h4
    · exact hxy h4
    · exact h2 h4
  refine ⟨finOk_iff.2 ⟨a5, key ha hb hne⟩, hb', finOk_iff.2 ⟨b5, key hb' har (Ne.symm hne)⟩, ?_⟩
  unfold finC
  refine pick_congr _ _ _ ?_
  intro i hi
  have e : ∀ (x : Int) , (pick g.length fun i => ((i : Int) == x) || d.contains (i : Int)).contains (i : Int) = (((i : Int) == x) || d.contains (i : Int)) := by
    intro x
    rw [Bool.eq_iff_iff, contains_iff, mem_pick_nat]
    exact ⟨fun h => h.2, fun h => ⟨hi, h⟩⟩
  rw [e, e]
  cases ((i : Int) == a) <;> cases ((i : Int) == b) <;> rfl
/-- needs of needs of done tasks are done -/
theorem done_needs {g : List T} {d : List Int} (h : vdone g d = true) : ∀ x ∈ d, ∀ y ∈ needsA g x, d.contains y = true := by
  obtain ⟨hv, hin, hcl⟩ := vdone_iff.1 h
  have hm := inG_mem hin
  have key : ∀ i j : Nat, Reach g i j → (i : Int) ∈ d → (j : Int) ∈ d := by
    intro i j hr
    induction hr with
    | one h => intro hi; exact hcl _ hi _ (by rw [Int.toNat_natCast]; exact h)
    | via h _ ih => intro hi; exact ih (hcl _ hi _ (by rw [Int.toNat_natCast]; exact h))
  intro x hx y hy
  have hr := hm x hx
  rw [needsA_yes hv hr.1 hr.2] at hy
  unfold needs2 at hy
  obtain ⟨j, hj, hrj, rfl⟩ := (mem_pick _ _ _).1 hy
  rw [contains_iff]
  exact key x.toNat j (reachB_iff.1 hrj) (by rw [Int.toNat_of_nonneg hr.1]; exact hx)
theorem pick_head {p : Nat → Bool} : ∀ {n i : Nat}, i < n → p i = true → (∀ j, j < i → p j = false) → ∃ r, pick n p = (i : Int) :: r := by
  intro n
  induction n with
  | zero => intro i h; omega
  | succ n ih =>
    intro i hi hp hl
    rw [pick_succ]
    by_cases e : i = n
    · subst e
      have : pick i p = [] := by
        cases hq : pick i p with
        | nil => rfl
        | cons y r =>
          have hy : y ∈ pick i p := by rw [hq]; simp
          obtain ⟨j, hj, hpj, rfl⟩ := (mem_pick _ _ _).1 hy
          rw [hl j hj] at hpj
          cases hpj
      rw [hp, this]
      exact ⟨[], rfl⟩
    · obtain ⟨r, hr⟩ := ih (by omega) hp hl
      cases hpn : p n
      · exact ⟨r, by rw [hr]; simp⟩
      · exact ⟨r ++ [(n : Int)], by rw [hr]; simp⟩
/-- the first ready task is the next one of the order -/
theorem top_ready {g : List T} (hv : valid g = true) {d : List Int} (hd : vdone g d = true) {k : Nat} (hk : k < (top g).length) (hm : ∀ i : Nat, (i : Int) ∈ d ↔ (i : Int) ∈ (top g).take k) :
    (∃ r, readyC g d = (top g)[k] :: r) ∧ finOk g d (top g)[k] = true ∧ ∀ i : Nat, (i : Int) ∈ finC g d (top g)[k] ↔ (i : Int) ∈ (top g).take (k + 1) := by
  have hs := top_step g k hk
  have hr := top_range (g := g) hk
  have hok : ∀ i, i < g.length → okNext g d i = okNext g ((top g).take k) i := by
    intro i hi
    have hc : ∀ j : Nat, d.contains (j : Int) = ((top g).take k).contains (j : Int) := by
      intro j
      rw [Bool.eq_iff_iff, contains_iff, contains_iff]
      exact hm j
    unfold okNext
    rw [hc]
    congr 1
    have hcn : ∀ y ∈ need g i, d.contains y = ((top g).take k).contains y := by
      intro y hy
      have h1 := fine_need (valid_fine hv) hy
      rw [← Int.toNat_of_nonneg h1.1]
      exact hc _
    rw [Bool.eq_iff_iff, List.all_eq_true, List.all_eq_true]
    exact ⟨fun h y hy => (hcn y hy) ▸ h y hy, fun h y hy => (hcn y hy).symm ▸ h y hy⟩
  obtain ⟨h1, h2, h3⟩ := okNext_some hs
  have hhead : ∃ r, readyC g d = (((top g)[k].toNat : Nat) : Int) :: r := by
    refine pick_head h1 ?_ ?_
    · rw [hok _ h1]
      unfold nxt at hs
      exact List.find?_some hs
    · intro j hj
      rw [hok j (by omega)]
      exact find_least hs j hj
  rw [Int.toNat_of_nonneg hr.1] at hhead
  refine ⟨hhead, ?_, ?_⟩
  · obtain ⟨r, hr⟩ := hhead
    exact finOk_iff.2 ⟨hd, by rw [hr]; simp⟩
  · intro i
    rw [mem_fin, List.take_succ_eq_append_getElem hk, List.mem_append, hm i]
    simp only [List.mem_singleton]
    constructor
    · rintro ⟨_, h | h⟩
      · exact .inr h
      · exact .inl h
    · intro h
      refine ⟨?_, h.symm⟩
      rcases h with h | h
      · have := (top_dist g).2 _ (List.mem_of_mem_take h)
        omega
      · omega
end Go.Proofs.Ytihgakbopkaemaa.Bs
namespace Go.Proofs.Ytihgakbopkaemaa.Bs
def workF (p : Int) (t : T) : Int := if t.pool == p then t.time * t.units else 0
def workC (g : List T) (p : Int) : Int := sumZ (g.map (workF p))
def poolT (g : List T) (p r : Int) : Int := if valid g && decide (0 ≤ p ∧ p ≤ 2) && decide (4 ≤ r ∧ r ≤ 8) then (workC g p + r - 1) / r else -1
theorem poolT_no1 {g : List T} {p r : Int} (h : valid g = false) : poolT g p r = -1 := by unfold poolT; rw [h]; rfl
theorem poolT_no2 {g : List T} {p r : Int} (h : decide (0 ≤ p ∧ p ≤ 2) = false) : poolT g p r = -1 := by unfold poolT; rw [h]; simp
theorem poolT_no3 {g : List T} {p r : Int} (h : decide (4 ≤ r ∧ r ≤ 8) = false) : poolT g p r = -1 := by unfold poolT; rw [h]; simp
theorem poolT_yes {g : List T} {p r : Int} (h1 : valid g = true) (h2 : decide (0 ≤ p ∧ p ≤ 2) = true) (h3 : decide (4 ≤ r ∧ r ≤ 8) = true) : poolT g p r = (workC g p + r - 1) / r := by unfold poolT; rw [h1, h2, h3]; rfl
theorem sumZ_takeT (L : List T) (f : T → Int) (k : Nat) (hk : k < L.length) : sumZ ((L.take (k + 1)).map f) = sumZ ((L.take k).map f) + f L[k] := by
  rw [List.take_succ_eq_append_getElem hk, List.map_append, sumZ_append]
  simp [sumZ]
theorem fine_time' {g : List T} (hF : fine g = true) {i : Nat} (hi : i < g.length) : 1 ≤ g[i].time ∧ g[i].time ≤ 20 := by
  unfold fine at hF
  simp only [Bool.and_eq_true, List.all_eq_true] at hF
  have h := hF.1 g[i] (List.getElem_mem hi)
  rw [validT_iff] at h
  exact ⟨h.1, h.2.1⟩
theorem work_b {t u : Int} (h1 : 1 ≤ t) (h2 : t ≤ 20) (h3 : 1 ≤ u) (h4 : u ≤ 4) : 0 ≤ t * u ∧ t * u ≤ 80 := by
  have : u = 1 ∨ u = 2 ∨ u = 3 ∨ u = 4 := by omega
  rcases this with rfl | rfl | rfl | rfl <;> omega
theorem work_bound {g : List T} (hF : fine g = true) (p : Int) : ∀ k, k ≤ g.length → 0 ≤ sumZ ((g.take k).map (workF p)) ∧ sumZ ((g.take k).map (workF p)) ≤ 80 * k := by
  intro k
  induction k with
  | zero => intro _; simp [sumZ]
  | succ k ih =>
    intro hk
    have h1 := ih (by omega)
    have hkl : k < g.length := by omega
    rw [sumZ_takeT g _ k hkl]
    have ht := fine_time' hF hkl
    have hu := fine_task hF hkl
    have hb := work_b ht.1 ht.2 hu.2.2.1 hu.2.2.2
    have hw : 0 ≤ workF p g[k] ∧ workF p g[k] ≤ 80 := by
      unfold workF
      split
      · exact hb
      · omega
    omega
/-- what the law of pools' time wants -/
theorem pool_law {g : List T} {p r n : Int} (h : n = poolT g p r) (h0 : ¬ n < 0) : valid g = true ∧ 4 ≤ r ∧ r ≤ 8 ∧ 0 ≤ workC g p ∧ workC g p ≤ 640 ∧ n ≤ 200 ∧ workC g p ≤ n * r ∧ n * r < workC g p + r ∧ 0 ≤ n * r ∧ n * r ≤ 700 ∧ (r = 8 ∨ (¬ r = 8 ∧ poolT g p (r + 1) ≤ n ∧ 0 ≤ poolT g p (r + 1))) := by
  cases hv : valid g
  · rw [poolT_no1 hv] at h; omega
  · cases hp : decide (0 ≤ p ∧ p ≤ 2)
    · rw [poolT_no2 hp] at h; omega
    · cases hr : decide (4 ≤ r ∧ r ≤ 8)
      · rw [poolT_no3 hr] at h; omega
      · rw [poolT_yes hv hp hr] at h
        rw [decide_eq_true_eq] at hr
        have h8 := fine_len (valid_fine hv)
        have hb := work_bound (valid_fine hv) p g.length (Nat.le_refl _)
        rw [List.take_length] at hb
        have e : sumZ (g.map (workF p)) = workC g p := rfl
        rw [e] at hb
        have hm : r = 8 ∨ (¬ r = 8 ∧ poolT g p (r + 1) = (workC g p + (r + 1) - 1) / (r + 1)) := by
          by_cases h8 : r = 8
          · exact .inl h8
          · exact .inr ⟨h8, poolT_yes hv hp (by simp; omega)⟩
        generalize workC g p = W at *
        generalize poolT g p (r + 1) = M at *
        have hr5 : r = 4 ∨ r = 5 ∨ r = 6 ∨ r = 7 ∨ r = 8 := by omega
        refine ⟨rfl, hr.1, hr.2, ?_⟩
        rcases hr5 with rfl | rfl | rfl | rfl | rfl <;> rcases hm with hm | ⟨hm0, hm⟩ <;> omega
end Go.Proofs.Ytihgakbopkaemaa.Bs
