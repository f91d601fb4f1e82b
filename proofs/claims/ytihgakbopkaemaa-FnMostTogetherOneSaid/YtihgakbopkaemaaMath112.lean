/-
  PLAIN MATHEMATICS of plans: the queue of ends, beside the plan that is made time by time. No condition.
-/
import Derived.Test.YtihgakbopkaemaaK32
import Derived.Test.YtihgakbopkaemaaK33
namespace Go.Proofs.Ytihgakbopkaemaa.Bs
/-- a plan at a time, with its queue of ends -/
structure QV (g : List T) (S : List Int) (t : Int) (f : Nat → Int) (b o : Nat) (h : Nat → Int × Int) (n : Nat) : Prop where
  len : S.length = g.length
  st : ∀ i, i < g.length → giZ S i = 200 ∨ (0 ≤ giZ S i ∧ giZ S i ≤ t)
  bb : ∀ i, b.testBit i = (decide (i < g.length) && decide (giZ S i ≠ 200))
  ff : ∀ i, i < g.length → giZ S i ≠ 200 → f i = giZ S i
  fb : ∀ i, 0 ≤ f i ∧ f i ≤ 200
  q1 : ∀ j, j < n → ∃ i : Nat, i < g.length ∧ h j = ((i : Int), giZ S i + timeOf g i) ∧ giZ S i ≠ 200
  qi : ∀ j k, j < n → k < n → (h j).1 = (h k).1 → j = k
  qs : ∀ j k, j < k → k < n → (h j).2 ≤ (h k).2
  ob : ∀ i, o.testBit i = true ↔ i < g.length ∧ giZ S i ≠ 200 ∧ ∀ j, j < n → (h j).1 ≠ (i : Int)
  oe : ∀ i, o.testBit i = true → giZ S i + timeOf g i ≤ t
  qt : ∀ j, j < n → t ≤ (h j).2
/-- all ends to come are behind the time -/
def Aft (t : Int) (h : Nat → Int × Int) (n : Nat) : Prop := ∀ j, j < n → t < (h j).2
section
variable {g : List T} {S : List Int} {t : Int} {f : Nat → Int} {b o : Nat} {h : Nat → Int × Int} {n : Nat}
theorem QV.blt (q : QV g S t f b o h n) (h8 : g.length ≤ 8) : b < 256 := by
  have : b < 2 ^ 8 := Nat.lt_pow_two_of_testBit _ (fun i hi => by rw [q.bb]; simp; omega)
  omega
theorem QV.olt (q : QV g S t f b o h n) (h8 : g.length ≤ 8) : o < 256 := by
  have : o < 2 ^ 8 := Nat.lt_pow_two_of_testBit _ (fun i hi => by
    cases e : o.testBit i
    · rfl
    · have := ((q.ob i).1 e).1; omega)
  omega
theorem nodup_map_range (k : Nat → Int) : ∀ n : Nat, (∀ i j, i < n → j < n → k i = k j → i = j) → ((List.range n).map k).Nodup := by
  intro n
  induction n with
  | zero => intro _; simp
  | succ n ih =>
    intro hk
    rw [List.range_succ, List.map_append, List.nodup_append]
    refine ⟨ih (fun i j hi hj => hk i j (by omega) (by omega)), by simp, ?_⟩
    intro a ha c hc e
    rw [List.mem_map] at ha
    obtain ⟨i, hi, rfl⟩ := ha
    simp at hc hi
    subst hc
    have := hk i n (by omega) (by omega) e
    omega
theorem QV.nle (q : QV g S t f b o h n) : n ≤ g.length := by
  have hd : Dist g.length ((List.range n).map fun j => (h j).1) := by
    refine ⟨nodup_map_range _ n q.qi, ?_⟩
    intro x hx
    rw [List.mem_map] at hx
    obtain ⟨j, hj, rfl⟩ := hx
    obtain ⟨i, hi, e, _⟩ := q.q1 j (by simpa using hj)
    rw [e]
    exact ⟨by simp, by simp; omega⟩
  have := hd.le
  simpa using this
theorem QV.nlt (q : QV g S t f b o h n) {x : Nat} (hx : x < g.length) (hS : giZ S x = 200) : n < g.length := by
  have hd : Dist g.length (((List.range n).map fun j => (h j).1) ++ [(x : Int)]) := by
    constructor
    · rw [List.nodup_append]
      refine ⟨nodup_map_range _ n q.qi, by simp, ?_⟩
      intro a ha c hc e
      rw [List.mem_map] at ha
      obtain ⟨j, hj, rfl⟩ := ha
      obtain ⟨i, hi, e2, hb⟩ := q.q1 j (by simpa using hj)
      simp only [List.mem_singleton] at hc
      subst hc
      rw [e2] at e
      have : i = x := by simp at e; omega
      subst this
      exact hb hS
    · intro y hy
      rw [List.mem_append, List.mem_map, List.mem_singleton] at hy
      rcases hy with ⟨j, hj, rfl⟩ | rfl
      · obtain ⟨i, hi, e, _⟩ := q.q1 j (by simpa using hj)
        rw [e]
        exact ⟨by simp, by simp; omega⟩
      · omega
  have := hd.le
  simp at this
  omega
theorem ins_hi (h : Nat → Int × Int) (e : Int) : ∀ n j, insP h e n ≤ j → j < n → e < (h j).2 := by
  intro n
  induction n with
  | zero => intro j _ hj; omega
  | succ n ih =>
    intro j h1 h2
    unfold insP at h1
    split at h1
    · rename_i hlt
      by_cases ej : j = n
      · subst ej; exact hlt
      · exact ih j h1 (by omega)
    · omega
theorem ins_lo (h : Nat → Int × Int) (e : Int) : ∀ n, 0 < insP h e n → (h (insP h e n - 1)).2 ≤ e := by
  intro n
  induction n with
  | zero => intro h1; unfold insP at h1; omega
  | succ n ih =>
    intro h1
    unfold insP at h1 ⊢
    split
    · rename_i hlt
      rw [if_pos hlt] at h1
      exact ih h1
    · rename_i hlt
      rw [show n + 1 - 1 = n from rfl]
      omega
theorem insF_at (h : Nat → Int × Int) (n : Nat) (e : Int × Int) (j : Nat) : insF h n e j = if j < insP h e.2 n then h j else if j = insP h e.2 n then e else if j ≤ n then h (j - 1) else h j := by
  have hle := insP_le h e.2 n
  unfold insF upd gapF
  by_cases h1 : j = insP h e.2 n
  · rw [if_pos h1, if_neg (by omega), if_pos h1]
  · rw [if_neg h1]
    by_cases h2 : j < insP h e.2 n
    · rw [if_pos h2, if_neg (by omega)]
    · rw [if_neg h2, if_neg h1]
      by_cases h3 : j ≤ n
      · rw [if_pos h3, if_pos (by omega)]
      · rw [if_neg h3, if_neg (by omega)]
/-- where a place of the longer queue comes from -/
theorem ins_src (h : Nat → Int × Int) (n : Nat) (e : Int × Int) {j : Nat} (hj : j < n + 1) : (j = insP h e.2 n ∧ insF h n e j = e) ∨ ∃ k, k < n ∧ insF h n e j = h k ∧ (k < insP h e.2 n ∧ j = k ∨ insP h e.2 n ≤ k ∧ j = k + 1) := by
  have hle := insP_le h e.2 n
  have ha := insF_at h n e j
  by_cases h1 : j < insP h e.2 n
  · rw [if_pos h1] at ha
    exact .inr ⟨j, by omega, ha, .inl ⟨h1, rfl⟩⟩
  · rw [if_neg h1] at ha
    by_cases h2 : j = insP h e.2 n
    · rw [if_pos h2] at ha
      exact .inl ⟨h2, ha⟩
    · rw [if_neg h2, if_pos (by omega)] at ha
      exact .inr ⟨j - 1, by omega, ha, .inr ⟨by omega, by omega⟩⟩
theorem ins_dst (h : Nat → Int × Int) (n : Nat) (e : Int × Int) {k : Nat} (hk : k < n) : ∃ j, j < n + 1 ∧ insF h n e j = h k := by
  by_cases h1 : k < insP h e.2 n
  · exact ⟨k, by omega, by rw [insF_at, if_pos h1]⟩
  · refine ⟨k + 1, by omega, ?_⟩
    rw [insF_at, if_neg (by omega), if_neg (by omega), if_pos (by omega)]
    rfl
theorem QV.begin_ (q : QV g S t f b o h n) (hF : fine g = true) {x : Nat} (hx : x < g.length) (hS : giZ S x = 200) (h0 : 0 ≤ t) (ht : t < 200) :
    QV g (S.set x t) t (upd f x t) (b ||| 1 <<< x) o (insF h n ((x : Int), t + timeOf g x)) (n + 1) := by
  have htx := fine_time hF hx
  have hl := q.len
  have hz : ∀ i, giZ (S.set x t) i = if i = x then t else giZ S i := fun i => by
    rw [giZ_set]
    by_cases e : i = x
    · rw [if_pos ⟨e, by omega⟩, if_pos e]
    · rw [if_neg (by omega), if_neg e]
  have hso : ∀ i, i ≠ x → giZ (S.set x t) i = giZ S i := fun i hi => by rw [hz, if_neg hi]
  have hsx : giZ (S.set x t) x = t := by rw [hz, if_pos rfl]
  have hqx : ∀ k, k < n → ∃ i : Nat, i < g.length ∧ h k = ((i : Int), giZ (S.set x t) i + timeOf g i) ∧ giZ (S.set x t) i ≠ 200 ∧ i ≠ x := by
    intro k hk
    obtain ⟨i, hi, e, hb⟩ := q.q1 k hk
    have hne : i ≠ x := fun e2 => by subst e2; exact hb hS
    exact ⟨i, hi, by rw [hso i hne]; exact e, by rw [hso i hne]; exact hb, hne⟩
  have hnx : ∀ k, k < n → (h k).1 ≠ (x : Int) := fun k hk e => by
    obtain ⟨i, _, e2, _, hne⟩ := hqx k hk
    rw [e2] at e
    simp at e
    omega
  obtain ⟨e, he⟩ : ∃ e : Int × Int, e = ((x : Int), t + timeOf g x) := ⟨_, rfl⟩
  rw [← he]
  have e1 : e.1 = (x : Int) := by rw [he]
  have e2 : e.2 = t + timeOf g x := by rw [he]
  refine ⟨by rw [List.length_set]; exact hl, ?_, ?_, ?_, ?_, ?_, ?_, ?_, ?_, ?_, ?_⟩
  · intro i hi
    rw [hz]
    split
    · right; omega
    · exact q.st i hi
  · intro i
    rw [Nat.testBit_or, q.bb, Nat.one_shiftLeft, Nat.testBit_two_pow, hz]
    by_cases ei : i = x
    · subst ei
      rw [if_pos rfl]
      have : t ≠ 200 := by omega
      simp [hx, this]
    · rw [if_neg ei]
      have : decide (x = i) = false := by simp; omega
      rw [this, Bool.or_false]
  · intro i hi hb
    unfold upd
    rw [hz] at hb ⊢
    split
    · rfl
    · rename_i hne
      rw [if_neg hne] at hb
      exact q.ff i hi hb
  · intro i
    unfold upd
    split
    · omega
    · exact q.fb i
  · intro j hj
    rcases ins_src h n e hj with ⟨_, e3⟩ | ⟨k, hk, e3, _⟩
    · rw [e3]
      exact ⟨x, hx, by rw [he, hsx], by rw [hsx]; omega⟩
    · rw [e3]
      obtain ⟨i, hi, e4, hb, _⟩ := hqx k hk
      exact ⟨i, hi, e4, hb⟩
  · intro j k hj hk hjk
    rcases ins_src h n e hj with ⟨a1, a2⟩ | ⟨j', hj', a2, a3⟩ <;> rcases ins_src h n e hk with ⟨b1, b2⟩ | ⟨k', hk', b2, b3⟩ <;> rw [a2, b2] at hjk
    · omega
    · exact absurd (hjk.symm.trans e1) (hnx k' hk')
    · exact absurd (hjk.trans e1) (hnx j' hj')
    · have := q.qi j' k' hj' hk' hjk
      omega
  · intro j k hjk hk
    have hlo : 0 < insP h e.2 n → (h (insP h e.2 n - 1)).2 ≤ e.2 := ins_lo h e.2 n
    have hhi := ins_hi h e.2 n
    have hle := insP_le h e.2 n
    rcases ins_src h n e (show j < n + 1 by omega) with ⟨a1, a2⟩ | ⟨j', hj', a2, a3⟩ <;> rcases ins_src h n e hk with ⟨b1, b2⟩ | ⟨k', hk', b2, b3⟩ <;> rw [a2, b2]
    · omega
    · have := hhi k' (by omega) hk'
      omega
    · have hj2 : j' ≤ insP h e.2 n - 1 := by omega
      have h1 := hlo (by omega)
      by_cases ej : j' = insP h e.2 n - 1
      · rw [ej]; exact h1
      · have := q.qs j' (insP h e.2 n - 1) (by omega) (by omega)
        omega
    · exact q.qs j' k' (by omega) hk'
  · intro i
    rw [q.ob]
    constructor
    · rintro ⟨h1, h2, h3⟩
      have hne : i ≠ x := fun e5 => by subst e5; exact h2 hS
      refine ⟨h1, by rw [hso i hne]; exact h2, ?_⟩
      intro j hj
      rcases ins_src h n e hj with ⟨_, a2⟩ | ⟨k, hk, a2, _⟩
      · rw [a2, e1]; omega
      · rw [a2]; exact h3 k hk
    · rintro ⟨h1, h2, h3⟩
      have hne : i ≠ x := by
        intro e5
        subst e5
        have hle := insP_le h e.2 n
        have a := h3 (insP h e.2 n) (by omega)
        rw [insF_at, if_neg (by omega), if_pos rfl, e1] at a
        exact a rfl
      refine ⟨h1, by rw [hso i hne] at h2; exact h2, ?_⟩
      intro k hk
      obtain ⟨j, hj, e6⟩ := ins_dst h n e hk
      rw [← e6]
      exact h3 j hj
  · intro i hi
    have h2 := ((q.ob i).1 hi).2.1
    rw [hso i (fun e5 => by subst e5; exact h2 hS)]
    exact q.oe i hi
  · intro j hj
    rcases ins_src h n e hj with ⟨_, a2⟩ | ⟨k, hk, a2, _⟩
    · rw [a2, e2]; omega
    · rw [a2]; exact q.qt k hk
theorem QV.aft_begin (_q : QV g S t f b o h n) (ha : Aft t h n) (hF : fine g = true) {x : Nat} (hx : x < g.length) : Aft t (insF h n ((x : Int), t + timeOf g x)) (n + 1) := by
  intro j hj
  have htx := fine_time hF hx
  rcases ins_src h n ((x : Int), t + timeOf g x) hj with ⟨_, a2⟩ | ⟨k, hk, a2, _⟩
  · rw [a2]; show t < t + timeOf g x; omega
  · rw [a2]; exact ha k hk
/-- at the time of the next end -/
theorem QV.next (q : QV g S t f b o h n) (hn : 0 < n) : QV g S (h 0).2 f b o h n := by
  have h0 := q.qt 0 hn
  refine ⟨q.len, ?_, q.bb, q.ff, q.fb, q.q1, q.qi, q.qs, q.ob, ?_, ?_⟩
  · intro i hi
    rcases q.st i hi with e | e
    · exact .inl e
    · right; omega
  · intro i hi
    have := q.oe i hi
    omega
  · intro j hj
    by_cases e : j = 0
    · subst e; exact Int.le_refl _
    · exact q.qs 0 j (by omega) hj
/-- one that ends now is over -/
theorem QV.pop (q : QV g S t f b o h (n + 1)) (h0 : (h 0).2 = t) (x : Nat) (hx : (h 0).1 = (x : Int)) : QV g S t f b (o ||| 1 <<< x) (shF h n) n := by
  have hs : ∀ j, j < n → shF h n j = h (j + 1) := fun j hj => by unfold shF; rw [if_pos hj]
  obtain ⟨i0, hi0, e0, hb0⟩ := q.q1 0 (by omega)
  have ex : i0 = x := by rw [e0] at hx; simp at hx; omega
  subst ex
  refine ⟨q.len, q.st, q.bb, q.ff, q.fb, ?_, ?_, ?_, ?_, ?_, ?_⟩
  · intro j hj
    rw [hs j hj]
    exact q.q1 (j + 1) (by omega)
  · intro j k hj hk
    rw [hs j hj, hs k hk]
    intro e
    have := q.qi (j + 1) (k + 1) (by omega) (by omega) e
    omega
  · intro j k hjk hk
    rw [hs j (by omega), hs k hk]
    exact q.qs (j + 1) (k + 1) (by omega) (by omega)
  · intro i
    rw [Nat.testBit_or, Bool.or_eq_true, q.ob, Nat.one_shiftLeft, Nat.testBit_two_pow, decide_eq_true_eq]
    constructor
    · rintro (⟨h1, h2, h3⟩ | rfl)
      · refine ⟨h1, h2, fun j hj => ?_⟩
        rw [hs j hj]
        exact h3 (j + 1) (by omega)
      · refine ⟨hi0, hb0, fun j hj e => ?_⟩
        rw [hs j hj, ← hx] at e
        have := q.qi (j + 1) 0 (by omega) (by omega) e
        omega
    · rintro ⟨h1, h2, h3⟩
      by_cases e : i0 = i
      · exact .inr e
      · left
        refine ⟨h1, h2, fun j hj => ?_⟩
        by_cases ej : j = 0
        · subst ej; rw [hx]; omega
        · have := h3 (j - 1) (by omega)
          rw [hs (j - 1) (by omega), show j - 1 + 1 = j from by omega] at this
          exact this
  · intro i hi
    rw [Nat.testBit_or, Bool.or_eq_true] at hi
    rcases hi with hi | hi
    · exact q.oe i hi
    · rw [Nat.one_shiftLeft, Nat.testBit_two_pow, decide_eq_true_eq] at hi
      subst hi
      rw [e0] at h0
      simp only at h0
      omega
  · intro j hj
    rw [hs j hj]
    exact q.qt (j + 1) (by omega)
theorem QV.stop (q : QV g S t f b o h n) (hn : n = 0 ∨ (h 0).2 ≠ t) : Aft t h n := by
  intro j hj
  have h0 := q.qt 0 (by omega)
  rcases hn with e | e
  · omega
  · by_cases ej : j = 0
    · subst ej; omega
    · have := q.qs 0 j (by omega) hj
      omega
/-- who is over by then -/
theorem QV.done (q : QV g S t f b o h n) (ha : Aft t h n) (ht : t < 200) (h8 : g.length ≤ 8) (hF : fine g = true) : pick 8 (fun i => o.testBit i) = planDone g S t := by
  unfold planDone
  refine (asc_unique (asc_pick _ _) (asc_pick _ _) ?_)
  intro x
  rw [mem_pick, mem_pick]
  constructor
  · rintro ⟨j, _, hj, rfl⟩
    exact ⟨j, ((q.ob j).1 hj).1, by simpa using q.oe j hj, rfl⟩
  · rintro ⟨j, hj, hj2, rfl⟩
    rw [decide_eq_true_eq] at hj2
    have ht2 := time_b hF j
    refine ⟨j, by omega, (q.ob j).2 ⟨hj, by omega, ?_⟩, rfl⟩
    intro k hk e
    obtain ⟨i, hi, e2, _⟩ := q.q1 k hk
    have := ha k hk
    rw [e2] at this e
    have : i = j := by simp at e; omega
    subst this
    omega
theorem QV.run (q : QV g S t f b o h n) (ht : t < 200) : runB g f b t = runAt g S t := by
  unfold runB runAt
  apply pick_congr
  intro i hi
  unfold runBp runAp
  rw [q.bb]
  by_cases e : giZ S i = 200
  · rw [decide_eq_false (show ¬ giZ S i ≤ t by omega)]
    simp [e]
  · rw [q.ff i hi e]
    simp [hi, e]
/-- who is admitted -/
theorem QV.adm {m : List Int} {wk : Int} {k : Nat} (q : QV g S (k : Int) f b o h n) (ha : Aft (k : Int) h n) (hk : k < 200) (hj : PJ g m wk S k) (hc : canV g m wk = true) :
    admL g m (runB g f b k) ((ordL g (pick 8 fun i => o.testBit i)).filter fun x => !b.testBit x.toNat) wk = planNext g m wk S k := by
  obtain ⟨hv, hm, hw⟩ := canV_iff.1 hc
  have hF := valid_fine hv
  rw [q.run (by omega), q.done ha (by omega) (fine_len hF) hF, ordL_yes (hj.vdone hk hv)]
  have e : ((ordC g (planDone g S k)).filter fun x => !b.testBit x.toNat) = planOrd g S k := by
    obtain ⟨h1, h2⟩ := ord_ok (d := planDone g S k) hF
    refine planOrd_eq hF (h1.filter _) ?_
    intro x
    rw [List.mem_filter, h2, planList_mem]
    constructor
    · rintro ⟨a, c⟩
      have := ready_in a
      rw [q.bb] at c
      refine ⟨a, ?_⟩
      have hl : x.toNat < g.length := by omega
      simpa [hl] using c
    · rintro ⟨a, c⟩
      refine ⟨a, ?_⟩
      rw [q.bb]
      simp [c]
  rw [e, admL_yes (hj.pi.adm hk hv hm hw)]
  rfl
end
theorem QV.start (g : List T) : QV g (List.replicate g.length 200) 0 (fun _ => 0) 0 0 zP 0 := by
  have hz : ∀ i, i < g.length → giZ (List.replicate g.length 200) i = 200 := fun i hi => by rw [giZ_at (by simpa using hi)]; simp
  refine ⟨by simp, fun i hi => .inl (hz i hi), ?_, fun i hi h => absurd (hz i hi) h, fun i => by simp, fun j hj => by omega, fun j k hj => by omega, fun j k _ hk => by omega, ?_, fun i hi => by simp at hi, fun j hj => by omega⟩
  · intro i
    by_cases hi : i < g.length
    · simp [hz i hi]
    · simp [hi]
  · intro i
    constructor
    · intro h; simp at h
    · rintro ⟨h1, h2, _⟩
      exact absurd (hz i h1) h2
section
variable {g : List T} {m : List Int} {wk : Int} {f : Nat → Int} {b o : Nat} {h : Nat → Int × Int} {n k : Nat}
/-- the time of the next end, and the plan until then -/
theorem QV.jump (hc : canV g m wk = true) (hk : k < 200) (q : QV g (planK g m wk (k + 1)) (k : Int) f b o h n) (ha : Aft (k : Int) h n) (hn : 0 < n) : ∃ k' : Nat, (h 0).2 = (k' : Int) ∧ k < k' ∧ k' ≤ 160 ∧ planK g m wk k' = planK g m wk (k + 1) := by
  have hF := valid_fine (canV_iff.1 hc).1
  have h0 := ha 0 hn
  refine ⟨(h 0).2.toNat, by omega, by omega, ?_, ?_⟩
  · obtain ⟨i, hi, e, hb⟩ := q.q1 0 hn
    have h1 := plan_keep hc (show k + 1 ≤ 200 by omega) (Nat.le_refl _) hi hb
    have h2 := end_ge (g := g) (S := planC g m wk) hi
    have h3 := (plan_end hc).1
    have h4 := sumT_b2 hF
    have e2 : giZ (planC g m wk) i = giZ (planK g m wk (k + 1)) i := h1
    rw [e]
    simp only
    omega
  · have hle : (h 0).2.toNat ≤ 160 ∨ True := .inr trivial
    obtain ⟨d, hd⟩ : ∃ d, (h 0).2.toNat = k + 1 + d := ⟨(h 0).2.toNat - (k + 1), by omega⟩
    have hb160 : (h 0).2 ≤ 160 := by
      obtain ⟨i, hi, e, hb⟩ := q.q1 0 hn
      have h1 := plan_keep hc (show k + 1 ≤ 200 by omega) (Nat.le_refl _) hi hb
      have h2 := end_ge (g := g) (S := planC g m wk) hi
      have h3 := (plan_end hc).1
      have h4 := sumT_b2 hF
      have e2 : giZ (planC g m wk) i = giZ (planK g m wk (k + 1)) i := h1
      rw [e]
      simp only
      omega
    rw [hd]
    refine plan_skip hc d (by omega) ?_
    intro i hi hb
    cases ho : o.testBit i
    · right
      apply Classical.byContradiction
      intro hlt
      have : o.testBit i = true := by
        rw [q.ob]
        refine ⟨hi, hb, ?_⟩
        intro j hj e
        obtain ⟨i2, hi2, e2, hb2⟩ := q.q1 j hj
        rw [e2] at e
        have : i2 = i := by simp at e; omega
        subst this
        have h5 : (h 0).2 ≤ (h j).2 := by
          by_cases ej : j = 0
          · subst ej; exact Int.le_refl _
          · exact q.qs 0 j (by omega) hj
        rw [e2] at h5
        simp only at h5
        omega
      rw [this] at ho
      cases ho
    · left
      exact q.oe i ho
/-- no end is to come: all is done -/
theorem QV.finish (hc : canV g m wk = true) (hk : k < 200) (q : QV g (planK g m wk (k + 1)) (k : Int) f b o h 0) : (List.range g.length).map f = planL g m wk := by
  obtain ⟨hv, hm, hw, _⟩ := canV_iff.1 hc
  have hF := valid_fine hv
  have hj := PJ.all hc k (by omega)
  have hst := fun i => step_at (g := g) (m := m) (S := planK g m wk k) (wk := wk) (now := k) hF hj.pi.len i
  have hover : ∀ i, i < g.length → giZ (planK g m wk (k + 1)) i ≠ 200 → giZ (planK g m wk (k + 1)) i + timeOf g i ≤ k := fun i hi hb => q.oe i ((q.ob i).2 ⟨hi, hb, fun j hj => by omega⟩)
  have hN : planNext g m wk (planK g m wk k) k = [] := by
    rw [List.eq_nil_iff_forall_not_mem]
    intro x hx
    have hxb := next_in hF x hx
    obtain ⟨j, rfl⟩ : ∃ j : Nat, x = j := ⟨x.toNat, by omega⟩
    have h1 : giZ (planK g m wk (k + 1)) j = _ := hst j
    rw [if_pos hx] at h1
    have := hover j (by omega) (by omega)
    have := fine_time hF (i := j) (by omega)
    omega
  have e1 : planK g m wk (k + 1) = planK g m wk k := by
    show planStep g m wk (planK g m wk k) k = _
    unfold planStep
    rw [hN]
    rfl
  rw [e1] at hover q
  have hR : runAt g (planK g m wk k) k = [] := by
    rw [List.eq_nil_iff_forall_not_mem]
    intro x hx
    obtain ⟨j, hjl, h1, h2, rfl⟩ := mem_runAt.1 hx
    have := hover j hjl (by omega)
    omega
  have hall := plan_idle hv hm hw hj hk hR hN
  have hb : ∀ i, i < g.length → giZ (planK g m wk k) i ≠ 200 := fun i hi => by
    have := hall i hi
    have := time_b hF i
    omega
  rw [planL_yes hc, plan_stop hc (show k ≤ 200 by omega) hb]
  refine list_giZ (by simp [hj.pi.len]) (fun i hi => ?_)
  have hi2 : i < g.length := by simpa using hi
  rw [giZ_at hi]
  simp only [List.getElem_map, List.getElem_range]
  exact q.ff i hi2 (hb i hi2)
end
end Go.Proofs.Ytihgakbopkaemaa.Bs
