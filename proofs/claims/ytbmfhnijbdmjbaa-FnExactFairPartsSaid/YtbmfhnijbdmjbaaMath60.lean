/-
  PLAIN MATHEMATICS of failures: the outcomes of tasks in their order; what the laws of outcomes say. No condition.
-/
import Derived.Test.YtbmfhnijbdmjbaaK16
namespace Go.Proofs.Ytbmfhnijbdmjbaa.Bs
def fineO (g : List T) (o : List Int) (i : Nat) : Bool := (need g i).all fun x => gi o x.toNat == 0
/-- the outcome of task i, if fa tasks have failed before -/
def outV (g : List T) (F : List Int) (keep : Int) (o : List Int) (fa : Int) (i : Nat) : Int :=
  if keep ≤ fa then 3 else if !fineO g o i then 2 else if F.contains (i : Int) then 1 else 0
def oneIf (v : Int) : Int := if v == 1 then 1 else 0
def outS (g : List T) (F : List Int) (keep : Int) (s : List Int × Int) (x : Int) : List Int × Int :=
  (s.1.set x.toNat (outV g F keep s.1 s.2 x.toNat), s.2 + oneIf (outV g F keep s.1 s.2 x.toNat))
def outK (g : List T) (F : List Int) (keep : Int) (k : Nat) : List Int × Int := ((top g).take k).foldl (outS g F keep) (List.replicate g.length 0, 0)
def outC (g : List T) (F : List Int) (keep : Int) : List Int := (outK g F keep (top g).length).1
def canF (g : List T) (F : List Int) (keep : Int) : Bool := valid g && inG g F && decide (1 ≤ keep ∧ keep ≤ 8)
def outL (g : List T) (F : List Int) (keep : Int) : List Int := if canF g F keep then outC g F keep else []
theorem canF_iff {g : List T} {F : List Int} {keep : Int} : canF g F keep = true ↔ valid g = true ∧ inG g F = true ∧ 1 ≤ keep ∧ keep ≤ 8 := by
  unfold canF
  simp only [Bool.and_eq_true, decide_eq_true_eq, and_assoc]
theorem outL_no {g : List T} {F : List Int} {keep : Int} (h : canF g F keep = false) : outL g F keep = [] := by unfold outL; rw [h]; rfl
theorem outL_yes {g : List T} {F : List Int} {keep : Int} (h : canF g F keep = true) : outL g F keep = outC g F keep := by unfold outL; rw [h]; rfl
theorem canF_no1 {g : List T} {F : List Int} {keep : Int} (h : valid g = false) : canF g F keep = false := by unfold canF; rw [h]; rfl
theorem canF_no2 {g : List T} {F : List Int} {keep : Int} (h : inG g F = false) : canF g F keep = false := by unfold canF; rw [h]; simp
theorem canF_no3 {g : List T} {F : List Int} {keep : Int} (h : decide (1 ≤ keep ∧ keep ≤ 8) = false) : canF g F keep = false := by unfold canF; rw [h]; simp
theorem outK_zero (g : List T) (F : List Int) (keep : Int) : outK g F keep 0 = (List.replicate g.length 0, 0) := rfl
theorem outK_succ (g : List T) (F : List Int) (keep : Int) (k : Nat) (hk : k < (top g).length) : outK g F keep (k + 1) = outS g F keep (outK g F keep k) (top g)[k] := by
  unfold outK
  rw [List.take_succ_eq_append_getElem hk, List.foldl_append]
  rfl
def outW (g : List T) (F : List Int) (o : List Int) (i : Nat) : Int := if !fineO g o i then 2 else if F.contains (i : Int) then 1 else 0
theorem outV_in {g : List T} {F : List Int} {keep : Int} {o : List Int} {fa : Int} {i : Nat} (h : ¬ keep ≤ fa) : outV g F keep o fa i = outW g F o i := by unfold outV; rw [if_neg h]; rfl
theorem outV_cases (g : List T) (F : List Int) (keep : Int) (o : List Int) (fa : Int) (i : Nat) : outV g F keep o fa i = 0 ∨ outV g F keep o fa i = 1 ∨ outV g F keep o fa i = 2 ∨ outV g F keep o fa i = 3 := by
  unfold outV
  split
  · simp
  · split
    · simp
    · split <;> simp
theorem oneIf_b (v : Int) : 0 ≤ oneIf v ∧ oneIf v ≤ 1 := by unfold oneIf; split <;> omega
theorem outK_len (g : List T) (F : List Int) (keep : Int) : ∀ k, k ≤ (top g).length → (outK g F keep k).1.length = g.length ∧ 0 ≤ (outK g F keep k).2 ∧ (outK g F keep k).2 ≤ k := by
  intro k
  induction k with
  | zero => intro _; rw [outK_zero]; simp
  | succ k ih =>
    intro hk
    obtain ⟨h1, h2, h3⟩ := ih (by omega)
    rw [outK_succ g F keep k (by omega)]
    unfold outS
    have := oneIf_b (outV g F keep (outK g F keep k).1 (outK g F keep k).2 (top g)[k].toNat)
    refine ⟨by simp [h1], ?_, ?_⟩ <;> simp only <;> omega
theorem outC_len (g : List T) (F : List Int) (keep : Int) : (outC g F keep).length = g.length := (outK_len g F keep _ (Nat.le_refl _)).1
theorem outL_len (g : List T) (F : List Int) (keep : Int) : (outL g F keep).length ≤ g.length := by
  unfold outL
  split
  · rw [outC_len]; exact Nat.le_refl _
  · simp
/-- what has been said stays so -/
theorem outK_keep {g : List T} (F : List Int) (keep : Int) {j : Nat} : ∀ k, j ≤ k → k ≤ (top g).length → ∀ x ∈ (top g).take j, gi (outK g F keep k).1 x.toNat = gi (outK g F keep j).1 x.toNat := by
  intro k
  induction k with
  | zero => intro hj _ x hx; obtain rfl : j = 0 := (by omega); rfl
  | succ k ih =>
    intro hj hk x hx
    by_cases e : j = k + 1
    · subst e; rfl
    · rw [← ih (by omega) (by omega) x hx, outK_succ g F keep k (by omega)]
      unfold outS
      have hr := top_range (g := g) (k := k) (by omega)
      have hlen := (outK_len g F keep k (by omega)).1
      rw [gi_set _ _ _ _ (by rw [hlen]; omega)]
      rw [if_neg]
      intro he
      obtain ⟨q, hq, rfl⟩ := List.mem_iff_getElem.1 hx
      rw [List.length_take] at hq
      rw [List.getElem_take] at he
      have hr2 := top_range (g := g) (k := q) (by omega)
      have := top_inj (g := g) (i := q) (j := k) (by omega) (by omega) (by omega)
      omega
/-- what outcomes are: in the order o of all tasks, with f j failures among the first j -/
structure OutI (g : List T) (F : List Int) (keep : Int) (o : List Int) (f : Nat → Int) : Prop where
  len : o.length = g.length
  zero : f 0 = 0
  succ : ∀ k (hk : k < (top g).length), f (k + 1) = f k + oneIf (gi o (top g)[k].toNat)
  val : ∀ k (hk : k < (top g).length), gi o (top g)[k].toNat = outV g F keep o (f k) (top g)[k].toNat
theorem fineO_congr {g : List T} {o o' : List Int} {i : Nat} (h : ∀ x ∈ need g i, gi o x.toNat = gi o' x.toNat) : fineO g o i = fineO g o' i := by
  unfold fineO
  rw [Bool.eq_iff_iff]
  simp only [List.all_eq_true]
  constructor
  · intro h1 x hx; rw [← h x hx]; exact h1 x hx
  · intro h1 x hx; rw [h x hx]; exact h1 x hx
theorem outI (g : List T) (F : List Int) (keep : Int) : OutI g F keep (outC g F keep) (fun k => (outK g F keep k).2) := by
  have hfin : ∀ k (hk : k < (top g).length), gi (outC g F keep) (top g)[k].toNat = outV g F keep (outK g F keep k).1 (outK g F keep k).2 (top g)[k].toNat := by
    intro k hk
    have hm : (top g)[k] ∈ (top g).take (k + 1) := (take_succ_mem hk _).2 (.inr rfl)
    have h1 := outK_keep (g := g) F keep (j := k + 1) (top g).length (by omega) (Nat.le_refl _) _ hm
    unfold outC
    rw [h1, outK_succ g F keep k hk]
    unfold outS
    have hr := top_range (g := g) hk
    have hlen := (outK_len g F keep k (by omega)).1
    simp only
    rw [gi_set _ _ _ _ (by rw [hlen]; omega), if_pos rfl]
  refine ⟨outC_len g F keep, rfl, ?_, ?_⟩
  · intro k hk
    rw [hfin k hk]
    show (outK g F keep (k + 1)).2 = _
    rw [outK_succ g F keep k hk]
    rfl
  · intro k hk
    rw [hfin k hk]
    unfold outV
    rw [fineO_congr (o := (outK g F keep k).1) (o' := outC g F keep)]
    intro x hx
    have hb := top_behind g k hk x hx
    exact (outK_keep (g := g) F keep (j := k) (top g).length (by omega) (Nat.le_refl _) x hb).symm
theorem OutI.mono {g : List T} {F : List Int} {keep : Int} {o : List Int} {f : Nat → Int} (h : OutI g F keep o f) {j : Nat} : ∀ k, j ≤ k → k ≤ (top g).length → f j ≤ f k := by
  intro k
  induction k with
  | zero => intro hj _; obtain rfl : j = 0 := (by omega); exact Int.le_refl _
  | succ k ih =>
    intro hj hk
    by_cases e : j = k + 1
    · subst e; exact Int.le_refl _
    · have h1 := ih (by omega) (by omega)
      have h2 := h.succ k (by omega)
      have h3 := oneIf_b (gi o (top g)[k].toNat)
      omega
theorem OutI.le {g : List T} {F : List Int} {keep : Int} {o : List Int} {f : Nat → Int} (h : OutI g F keep o f) (hk0 : 0 ≤ keep) : ∀ k, k ≤ (top g).length → 0 ≤ f k ∧ f k ≤ keep := by
  intro k
  induction k with
  | zero => intro _; rw [h.zero]; omega
  | succ k ih =>
    intro hk
    have h1 := ih (by omega)
    have h2 := h.succ k (by omega)
    have h3 := oneIf_b (gi o (top g)[k].toNat)
    have h4 := h.val k (by omega)
    by_cases e : keep ≤ f k
    · have : gi o (top g)[k].toNat = 3 := by rw [h4]; unfold outV; rw [if_pos e]
      rw [this] at h2
      have h5 : oneIf 3 = 0 := rfl
      omega
    · omega
/-- the laws, task by task -/
theorem OutI.task {g : List T} {F : List Int} {keep : Int} {o : List Int} {f : Nat → Int} (h : OutI g F keep o f) (hg : Full g) {i : Nat} (hi : i < g.length) :
    (gi o i = 0 ∧ fineO g o i = true ∧ F.contains (i : Int) = false) ∨ (gi o i = 1 ∧ fineO g o i = true ∧ F.contains (i : Int) = true) ∨ (gi o i = 2 ∧ fineO g o i = false) ∨ gi o i = 3 := by
  obtain ⟨k, hk, e⟩ := hg.pos hi
  have h1 := h.val k hk
  have e2 : (top g)[k].toNat = i := by omega
  rw [e2] at h1
  rw [h1]
  unfold outV
  split
  · simp
  · cases hf : fineO g o i
    · simp
    · cases hc : F.contains (i : Int)
      · simp
      · simp
def cntO (v : Int) (l : List Int) : Int := ((l.filter fun x => x == v).length : Nat)
theorem cntO_nil (v : Int) : cntO v [] = 0 := rfl
theorem cntO_snoc (v : Int) (l : List Int) (x : Int) : cntO v (l ++ [x]) = cntO v l + (if x == v then 1 else 0) := by
  unfold cntO
  rw [List.filter_append, List.length_append]
  cases h : x == v <;> simp [h]
theorem cntO_b (v : Int) (l : List Int) : 0 ≤ cntO v l ∧ cntO v l ≤ l.length := by
  unfold cntO
  have := List.length_filter_le (fun x => x == v) l
  omega
theorem cntO_take (v : Int) (l : List Int) (k : Nat) (hk : k < l.length) : cntO v (l.take (k + 1)) = cntO v (l.take k) + (if l[k] == v then 1 else 0) := by
  rw [List.take_succ_eq_append_getElem hk, cntO_snoc]
theorem gi_at {l : List Int} {k : Nat} (hk : k < l.length) : gi l k = l[k] := by unfold gi; rw [List.getD_eq_getElem?_getD, List.getElem?_eq_getElem hk]; rfl
/-- a full order of the tasks reads a list as the list itself, place by place -/
theorem top_perm {g : List T} (hg : Full g) {o : List Int} (ho : o.length = g.length) : ((top g).map fun x => gi o x.toNat).Perm o := by
  have h1 : ((top g).map Int.toNat).Perm (List.range g.length) := by
    refine (List.perm_ext_iff_of_nodup (top_dist g).natify.1 List.nodup_range).2 ?_
    intro a
    rw [List.mem_range]
    constructor
    · exact (top_dist g).natify.2 a
    · intro ha
      have := hg.mem ha
      rw [List.mem_map]
      exact ⟨(a : Int), this, by simp⟩
  have h2 := h1.map (fun i => gi o i)
  rw [List.map_map] at h2
  have e : (List.range g.length).map (fun i => gi o i) = o := by
    apply List.ext_getElem
    · simp [ho]
    · intro i hi hi2
      simp only [List.getElem_map, List.getElem_range]
      exact gi_at hi2
  rw [e] at h2
  exact h2
theorem cntO_top {g : List T} (hg : Full g) {o : List Int} (ho : o.length = g.length) (v : Int) : cntO v ((top g).map fun x => gi o x.toNat) = cntO v o := by
  unfold cntO
  exact congrArg Int.ofNat ((top_perm hg ho).filter _).length_eq
theorem OutI.cnt {g : List T} {F : List Int} {keep : Int} {o : List Int} {f : Nat → Int} (h : OutI g F keep o f) : ∀ k, k ≤ (top g).length → f k = cntO 1 (((top g).map fun x => gi o x.toNat).take k) := by
  intro k
  induction k with
  | zero => intro _; rw [h.zero]; rfl
  | succ k ih =>
    intro hk
    rw [cntO_take _ _ k (by simp; omega), ← ih (by omega), h.succ k (by omega)]
    simp only [List.getElem_map]
    rfl
theorem OutI.failed {g : List T} {F : List Int} {keep : Int} {o : List Int} {f : Nat → Int} (h : OutI g F keep o f) (hg : Full g) : f (top g).length = cntO 1 o := by
  rw [h.cnt _ (Nat.le_refl _), List.take_of_length_le (by simp), cntO_top hg h.len]
theorem cntO_pos {v : Int} {l : List Int} (h : cntO v l ≠ 0) : ∃ k, ∃ hk : k < l.length, l[k] = v := by
  unfold cntO at h
  have : 0 < (l.filter fun x => x == v).length := by omega
  obtain ⟨x, hx⟩ := List.exists_mem_of_length_pos this
  rw [List.mem_filter, beq_iff_eq] at hx
  obtain ⟨k, hk, e⟩ := List.mem_iff_getElem.1 hx.1
  exact ⟨k, hk, by rw [e, hx.2]⟩
/-- enough is enough -/
theorem OutI.enough {g : List T} {F : List Int} {keep : Int} {o : List Int} {f : Nat → Int} (h : OutI g F keep o f) (hg : Full g) (hk0 : 0 ≤ keep) : cntO 1 o ≤ keep ∧ (cntO 1 o = keep ∨ cntO 3 o = 0) := by
  have h1 := h.le hk0 _ (Nat.le_refl (top g).length)
  rw [h.failed hg] at h1
  refine ⟨h1.2, ?_⟩
  by_cases e : cntO 3 o = 0
  · exact .inr e
  · left
    obtain ⟨i, hi, hv⟩ := cntO_pos e
    obtain ⟨k, hk, e2⟩ := hg.pos (i := i) (by rw [← h.len]; exact hi)
    have h2 := h.val k hk
    have e3 : (top g)[k].toNat = i := by omega
    rw [e3, gi_at hi, hv] at h2
    have h3 : keep ≤ f k := by
      by_cases hc : keep ≤ f k
      · exact hc
      · exfalso
        unfold outV at h2
        rw [if_neg hc] at h2
        split at h2
        · omega
        · split at h2 <;> omega
    have h4 := h.mono (j := k) (top g).length (by omega) (Nat.le_refl _)
    rw [h.failed hg] at h4
    omega
theorem OutI.cases {g : List T} {F : List Int} {keep : Int} {o : List Int} {f : Nat → Int} (h : OutI g F keep o f) (hg : Full g) : ∀ x ∈ o, x = 0 ∨ x = 1 ∨ x = 2 ∨ x = 3 := by
  intro x hx
  obtain ⟨i, hi, rfl⟩ := List.mem_iff_getElem.1 hx
  have := h.task hg (i := i) (by rw [← h.len]; exact hi)
  rw [gi_at hi] at this
  omega
/-- nothing fails -/
theorem OutI.none_ {g : List T} {keep : Int} {o : List Int} {f : Nat → Int} (h : OutI g [] keep o f) (hg : Full g) (hk0 : 1 ≤ keep) : ∀ i, i < g.length → gi o i = 0 := by
  have hz : ∀ k, k ≤ (top g).length → f k = 0 ∧ ∀ x ∈ (top g).take k, gi o x.toNat = 0 := by
    intro k
    induction k with
    | zero => intro _; exact ⟨h.zero, by simp⟩
    | succ k ih =>
      intro hk
      obtain ⟨h1, h2⟩ := ih (by omega)
      have h3 := h.val k (by omega)
      have hf : fineO g o (top g)[k].toNat = true := by
        unfold fineO
        rw [List.all_eq_true]
        intro x hx
        rw [h2 x (top_behind g k (by omega) x hx)]
        rfl
      have h4 : gi o (top g)[k].toNat = 0 := by
        rw [h3]
        unfold outV
        rw [if_neg (by omega), hf]
        simp
      refine ⟨by rw [h.succ k (by omega), h4, h1]; rfl, ?_⟩
      intro x hx
      rw [List.take_succ_eq_append_getElem (by omega), List.mem_append, List.mem_singleton] at hx
      rcases hx with hx | rfl
      · exact h2 x hx
      · exact h4
  intro i hi
  have hm := hg.mem hi
  have := (hz _ (Nat.le_refl _)).2 (i : Int) (by rw [List.take_length]; exact hm)
  simpa using this
/-- who keeps going does more: with one failure more, what is not left is the same -/
theorem OutI.more {g : List T} {F : List Int} {k1 k2 : Int} {o o' : List Int} {f f' : Nat → Int} (h : OutI g F k1 o f) (h' : OutI g F k2 o' f') (hle : k1 ≤ k2) (hg : Full g) : ∀ i, i < g.length → gi o i = 3 ∨ gi o i = gi o' i := by
  have hz : ∀ k, k ≤ (top g).length → k1 ≤ f k ∨ (f k = f' k ∧ ∀ x ∈ (top g).take k, gi o x.toNat = gi o' x.toNat) := by
    intro k
    induction k with
    | zero => intro _; exact .inr ⟨by rw [h.zero, h'.zero], by simp⟩
    | succ k ih =>
      intro hk
      have hm := h.mono (j := k) (k + 1) (by omega) hk
      rcases ih (by omega) with h1 | ⟨h1, h2⟩
      · exact .inl (by omega)
      · by_cases hc : k1 ≤ f k
        · exact .inl (by omega)
        · right
          have e : gi o (top g)[k].toNat = gi o' (top g)[k].toNat := by
            rw [h.val k (by omega), h'.val k (by omega)]
            rw [outV_in hc, outV_in (show ¬ k2 ≤ f' k by omega)]
            unfold outW
            rw [fineO_congr (o := o) (o' := o') (fun x hx => h2 x (top_behind g k (by omega) x hx))]
          refine ⟨by rw [h.succ k (by omega), h'.succ k (by omega), e, h1], ?_⟩
          intro x hx
          rw [List.take_succ_eq_append_getElem (by omega), List.mem_append, List.mem_singleton] at hx
          rcases hx with hx | rfl
          · exact h2 x hx
          · exact e
  intro i hi
  obtain ⟨k, hk, e⟩ := hg.pos hi
  have e2 : (top g)[k].toNat = i := by omega
  rcases hz (k + 1) (by omega) with h1 | ⟨_, h1⟩
  · by_cases hc : k1 ≤ f k
    · left
      have := h.val k hk
      rw [e2] at this
      rw [this]
      unfold outV
      rw [if_pos hc]
    · right
      rcases hz k (by omega) with h2 | ⟨h2, h3⟩
      · omega
      · have e3 : gi o (top g)[k].toNat = gi o' (top g)[k].toNat := by
          rw [h.val k (by omega), h'.val k (by omega)]
          rw [outV_in hc, outV_in (show ¬ k2 ≤ f' k by omega)]
          unfold outW
          rw [fineO_congr (o := o) (o' := o') (fun x hx => h3 x (top_behind g k (by omega) x hx))]
        rw [e2] at e3
        exact e3
  · right
    have := h1 (top g)[k] ((take_succ_mem hk _).2 (.inr rfl))
    rw [e2] at this
    exact this
theorem cntO_le {v : Int} : ∀ (l l' : List Int), l.length = l'.length → (∀ i, gi l i = v → i < l.length → gi l' i = v) → cntO v l ≤ cntO v l' := by
  have key : ∀ (l l' : List Int), l.length = l'.length → (∀ i, gi l i = v → i < l.length → gi l' i = v) → ∀ k, k ≤ l.length → cntO v (l.take k) ≤ cntO v (l'.take k) := by
    intro l l' hl hv k
    induction k with
    | zero => intro _; simp [cntO]
    | succ k ih =>
      intro hk
      rw [cntO_take v l k (by omega), cntO_take v l' k (by omega)]
      have := ih (by omega)
      have h2 := hv k
      rw [gi_at (by omega), gi_at (by omega)] at h2
      by_cases e : l[k] = v
      · have h3 := h2 e (by omega)
        simp only [e, h3, beq_self_eq_true, if_true]
        omega
      · have : (l[k] == v) = false := by simpa using e
        rw [this]
        simp only [Bool.false_eq_true, if_false]
        split <;> omega
  intro l l' hl hv
  have := key l l' hl hv l.length (Nat.le_refl _)
  rw [List.take_length, hl, List.take_length] at this
  exact this
theorem OutI.moreDone {g : List T} {F : List Int} {k1 k2 : Int} {o o' : List Int} {f f' : Nat → Int} (h : OutI g F k1 o f) (h' : OutI g F k2 o' f') (hle : k1 ≤ k2) (hg : Full g) : cntO 0 o ≤ cntO 0 o' := by
  refine cntO_le o o' (by rw [h.len, h'.len]) ?_
  intro i hv hi
  rcases h.more h' hle hg i (by rw [← h.len]; exact hi) with h1 | h1
  · omega
  · omega
/-- one failure is enough -/
theorem OutI.first {g : List T} {F : List Int} {o : List Int} {f : Nat → Int} (h : OutI g F 1 o f) : ∀ k (hk : k < (top g).length),
    ((0 < f k ∧ gi o (top g)[k].toNat = 3) ∨ (f k = 0 ∧ (gi o (top g)[k].toNat = 0 ∨ gi o (top g)[k].toNat = 1))) := by
  have hz : ∀ k, k ≤ (top g).length → 0 < f k ∨ (f k = 0 ∧ ∀ x ∈ (top g).take k, gi o x.toNat = 0) := by
    intro k
    induction k with
    | zero => intro _; exact .inr ⟨h.zero, by simp⟩
    | succ k ih =>
      intro hk
      have hm := h.mono (j := k) (k + 1) (by omega) hk
      rcases ih (by omega) with h1 | ⟨h1, h2⟩
      · exact .inl (by omega)
      · have h3 := h.val k (by omega)
        have hs := h.succ k (by omega)
        have hf : fineO g o (top g)[k].toNat = true := by
          unfold fineO
          rw [List.all_eq_true]
          intro x hx
          rw [h2 x (top_behind g k (by omega) x hx)]
          rfl
        unfold outV at h3
        rw [if_neg (by omega), hf] at h3
        simp only [Bool.not_true, Bool.false_eq_true, if_false] at h3
        split at h3
        · left; rw [h3] at hs; have : oneIf 1 = 1 := rfl; omega
        · right
          refine ⟨by rw [h3] at hs; have : oneIf 0 = 0 := rfl; omega, ?_⟩
          intro x hx
          rw [List.take_succ_eq_append_getElem (by omega), List.mem_append, List.mem_singleton] at hx
          rcases hx with hx | rfl
          · exact h2 x hx
          · exact h3
  intro k hk
  rcases hz k (by omega) with h1 | ⟨h1, h2⟩
  · left
    refine ⟨h1, ?_⟩
    rw [h.val k hk]
    unfold outV
    rw [if_pos (by omega)]
  · right
    refine ⟨h1, ?_⟩
    have h3 := h.val k hk
    have hf : fineO g o (top g)[k].toNat = true := by
      unfold fineO
      rw [List.all_eq_true]
      intro x hx
      rw [h2 x (top_behind g k (by omega) x hx)]
      rfl
    unfold outV at h3
    rw [if_neg (by omega), hf] at h3
    simp only [Bool.not_true, Bool.false_eq_true, if_false] at h3
    split at h3 <;> omega
/-- the done tasks are valid as done -/
theorem OutI.done {g : List T} {F : List Int} {keep : Int} {o : List Int} {f : Nat → Int} (h : OutI g F keep o f) (hv : valid g = true) : vdone g (pick g.length fun i => gi o i == 0) = true := by
  obtain ⟨hF, hg⟩ := (valid_iff g).1 hv
  rw [vdone_iff]
  refine ⟨hv, inG_pick g _, ?_⟩
  intro x hx y hy
  obtain ⟨i, hi, hp, rfl⟩ := (mem_pick _ _ _).1 hx
  rw [beq_iff_eq] at hp
  rw [Int.toNat_natCast] at hy
  have hyr := fine_need hF hy
  rcases h.task hg hi with ⟨_, h1, _⟩ | ⟨h1, _⟩ | ⟨h1, _⟩ | h1
  · unfold fineO at h1
    rw [List.all_eq_true] at h1
    have := h1 y hy
    rw [mem_pick]
    exact ⟨y.toNat, by omega, this, by omega⟩
  · omega
  · omega
  · omega
theorem pick_cnt (o : List Int) (v : Int) : ∀ k, k ≤ o.length → ((pick k fun i => gi o i == v).length : Int) = cntO v (o.take k) := by
  intro k
  induction k with
  | zero => intro _; rfl
  | succ k ih =>
    intro hk
    rw [cntO_take v o k (by omega), pick_succ, ← ih (by omega), gi_at (by omega)]
    cases e : o[k] == v <;> simp
end Go.Proofs.Ytbmfhnijbdmjbaa.Bs
