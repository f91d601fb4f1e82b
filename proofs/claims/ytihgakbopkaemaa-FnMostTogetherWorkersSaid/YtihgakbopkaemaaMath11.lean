/-
  PLAIN MATHEMATICS of graphs of tasks: fewer needs, counts, last tasks, orders without needs. No condition.
-/
import Derived.Test.YtihgakbopkaemaaK11
import Derived.Test.YtihgakbopkaemaaK2
namespace Go.Proofs.Ytihgakbopkaemaa.Bs
theorem pick_le {p q : Nat → Bool} : ∀ n, (∀ i, i < n → p i = true → q i = true) → (pick n p).length ≤ (pick n q).length := by
  intro n
  induction n with
  | zero => intro _; exact Nat.le_refl _
  | succ n ih =>
    intro h
    have h1 := ih fun i hi => h i (by omega)
    have h2 := h n (by omega)
    rw [pick_succ, pick_succ]
    cases hp : p n
    · cases hq : q n <;> simp <;> omega
    · rw [h2 hp]; simp; omega
theorem pick_lt {p q : Nat → Bool} : ∀ n, (∀ i, i < n → p i = true → q i = true) → (∃ i, i < n ∧ q i = true ∧ p i = false) → (pick n p).length < (pick n q).length := by
  intro n
  induction n with
  | zero => rintro _ ⟨i, hi, _⟩; omega
  | succ n ih =>
    rintro h ⟨i, hi, hq, hp⟩
    by_cases e : i = n
    · subst e
      have h1 := pick_le i fun j hj => h j (by omega)
      rw [pick_succ, pick_succ, hq, hp]
      simp; omega
    · have h1 := ih (fun j hj => h j (by omega)) ⟨i, by omega, hq, hp⟩
      have h2 := h n (by omega)
      rw [pick_succ, pick_succ]
      cases hp : p n
      · cases hq : q n <;> simp <;> omega
      · rw [h2 hp]; simp; omega
/-- what the law of fewer needs wants -/
theorem less_law {g : List T} {L : List Int} {z : Int} (h : L = needsA g z) : ∀ k (hk : k < L.length), (needsA g L[k]).length < L.length ∧ (needsA g L[k]).contains L[k] = false ∧ ∀ y ∈ needsA g L[k], L.contains y = true := by
  intro k hk
  have hz : valid g = true ∧ 0 ≤ z ∧ z < g.length := by
    unfold needsA at h
    split at h
    · assumption
    · subst h; simp at hk
  obtain ⟨hv, h0, h1⟩ := hz
  rw [needsA_yes hv h0 h1] at h
  have hm : L[k] ∈ needs2 g z.toNat := by rw [← h]; exact List.getElem_mem hk
  generalize L[k] = x at *
  subst h
  unfold needs2 at hm
  obtain ⟨v, hv1, hr, rfl⟩ := (mem_pick _ _ _).1 hm
  have hr := reachB_iff.1 hr
  rw [needsA_yes hv (by omega) (by omega), Int.toNat_natCast]
  refine ⟨?_, by rw [needs2_iff hv1]; exact reach_self hv v, ?_⟩
  · refine pick_lt _ (fun i _ hi => reachB_iff.2 (hr.trans (reachB_iff.1 hi))) ⟨v, hv1, reachB_iff.2 hr, reach_self hv v⟩
  · intro y hy
    unfold needs2 at hy
    obtain ⟨u, hu, hru, rfl⟩ := (mem_pick _ _ _).1 hy
    rw [needs2_iff hu]
    exact reachB_iff.2 (hr.trans (reachB_iff.1 hru))
def cnt (n : Nat) (p : Nat → Bool) : Int := (pick n p).length
theorem cnt_succ (n : Nat) (p : Nat → Bool) : cnt (n + 1) p = cnt n p + (if p n then 1 else 0) := by
  unfold cnt
  rw [pick_succ]
  split <;> simp
theorem sum_congr (n : Nat) (f h : Nat → Int) (e : ∀ i, i < n → f i = h i) : sumL ((List.range n).map f) = sumL ((List.range n).map h) := by
  have : (List.range n).map f = (List.range n).map h := List.map_congr_left fun i hi => e i (by simpa using hi)
  rw [this]
theorem sum_range (n : Nat) (f : Nat → Int) : sumL ((List.range (n + 1)).map f) = sumL ((List.range n).map f) + f n := by
  rw [List.range_succ, List.map_append, sumL_append]
  simp [sumL]
theorem cnt_swap (r : Nat → Nat → Bool) : ∀ m n, sumL ((List.range m).map fun i => cnt n (r i)) = sumL ((List.range n).map fun j => cnt m (fun i => r i j)) := by
  intro m n
  induction m with
  | zero =>
    induction n with
    | zero => rfl
    | succ n ih => rw [sum_range, ← ih]; simp [sumL, cnt, pick_zero]
  | succ m ih =>
    rw [sum_range, ih]
    clear ih
    induction n with
    | zero => simp [sumL, cnt, pick_zero]
    | succ n ih =>
      rw [sum_range, sum_range, ← ih, cnt_succ, cnt_succ]
      omega
/-- what the law of counts wants -/
theorem count_law {g : List T} (hv : valid g = true) : sumL ((List.range g.length).map fun i : Nat => ((needsA g (i : Int)).length : Int) - ((usersA g (i : Int)).length : Int)) = 0 := by
  have h1 := cnt_swap (reachB g) g.length g.length
  have key : ∀ n, n ≤ g.length → sumL ((List.range n).map fun i : Nat => ((needsA g (i : Int)).length : Int) - ((usersA g (i : Int)).length : Int)) = sumL ((List.range n).map fun i => cnt g.length (reachB g i)) - sumL ((List.range n).map fun j => cnt g.length (fun i => reachB g i j)) := by
    intro n
    induction n with
    | zero => intro _; simp [sumL]
    | succ n ih =>
      intro hn
      rw [sum_range, sum_range, sum_range, ih (by omega), needsA_yes hv (by omega) (by omega), usersA_yes hv (by omega) (by omega), Int.toNat_natCast]
      unfold cnt needs2 users2
      omega
  rw [key _ (Nat.le_refl _)]
  omega
theorem reach_last {g : List T} {j i : Nat} (h : Reach g j i) : ∃ k, k < g.length ∧ (i : Int) ∈ need g k := by
  induction h with
  | one h => exact ⟨_, (Reach.one h).src, h⟩
  | via _ _ ih => exact ih
/-- what the law of the last tasks wants -/
theorem last_law {g : List T} {L : List Int} (h : L = if valid g then tailsC g else []) (hl : L.length = g.length) : ∀ i (hi : i < g.length) (hi' : i < L.length), (((usersA g (i : Int)).length : Int) == 0) = (L[i] == g[i].time) := by
  intro i hi hi'
  obtain ⟨hv, rfl⟩ := valid_of_len h hl hi
  have hF := valid_fine hv
  have hsp := tailsC_spec hF (valid_full hv)
  have ht := hsp.toTailMid.isTail i hi
  rw [usersA_yes hv (by omega) (by omega), Int.toNat_natCast, ← gi_at hi', ← time_at hi, Bool.eq_iff_iff]
  simp only [beq_iff_eq]
  constructor
  · intro h0
    rw [ht]
    rcases maxL_mem ((usersOf g i).map (gi (tailsC g))) with h2 | h2
    · omega
    · exfalso
      obtain ⟨u, hu, _⟩ := List.mem_map.1 h2
      rw [mem_usersOf] at hu
      have h3 : (u : Int) ∈ users2 g i := by unfold users2; exact (mem_pick_nat _ _ _).2 ⟨hu.1, reachB_iff.2 (.one hu.2)⟩
      rw [List.eq_nil_of_length_eq_zero (by omega : (users2 g i).length = 0)] at h3
      simp at h3
  · intro he
    have h4 : (users2 g i).length = 0 := by
      cases hn : users2 g i with
      | nil => rfl
      | cons x r =>
        exfalso
        have hx : x ∈ users2 g i := by rw [hn]; simp
        unfold users2 at hx
        obtain ⟨j, hj, hr, rfl⟩ := (mem_pick _ _ _).1 hx
        obtain ⟨k, hk, hm⟩ := reach_last (reachB_iff.1 hr)
        have h5 := le_maxL (List.mem_map_of_mem (f := gi (tailsC g)) (mem_usersOf.2 ⟨hk, hm⟩))
        have h6 := hsp.toTailMid.isTail k hk
        have h7 := fine_time hF hk
        have h8 := maxL_nonneg ((usersOf g k).map (gi (tailsC g)))
        omega
    omega
/-- the order of a graph without needs -/
theorem bare_top {g : List T} (hv : valid g = true) : ∀ (O : List Int), O = topL (g.map bare) → O.length = g.length ∧ ∀ k (hk : k < O.length), O[k] = (k : Int) := by
  intro O hO
  have hv' := bare_valid hv
  have e : topL (g.map bare) = top (g.map bare) := by unfold topL; rw [hv']; rfl
  rw [e] at hO
  have hlen : O.length = g.length := by
    rw [hO]
    have := valid_full hv'
    unfold Full at this
    simpa using this
  refine ⟨hlen, ?_⟩
  have hs := top_step (g.map bare)
  rw [← hO] at hs
  have key : ∀ n, ∀ k, k < n → ∀ (hk : k < O.length), O[k] = (k : Int) := by
    intro n
    induction n with
    | zero => intro k hk; omega
    | succ n ih =>
      intro k hkn hk
      by_cases hkn' : k < n
      · exact ih k hkn' hk
      · have hkn2 : k = n := by omega
        subst hkn2
        have h1 := hs k hk
        have hr : 0 ≤ O[k] := by subst hO; exact (top_range hk).1
        obtain ⟨_, hn, _⟩ := okNext_some h1
        have hge : ¬ O[k].toNat < k := by
          intro hlt
          apply hn
          refine List.mem_iff_getElem.2 ⟨O[k].toNat, by rw [List.length_take]; omega, ?_⟩
          rw [List.getElem_take]
          exact ih _ hlt (by omega)
        have hle : ¬ k < O[k].toNat := by
          intro hlt
          have h2 := find_least h1 k hlt
          unfold okNext at h2
          have h3 : (O.take k).contains (k : Int) = false := by
            rw [Bool.eq_false_iff]
            intro hc
            have hc : (k : Int) ∈ O.take k := by simpa using hc
            obtain ⟨j, hj, hje⟩ := List.mem_iff_getElem.1 hc
            rw [List.length_take] at hj
            rw [List.getElem_take, ih j (by omega) (by omega)] at hje
            omega
          have h4 : need (g.map bare) k = [] := by rw [need_at (by simp; omega)]; simp [bare]
          rw [h3, h4] at h2
          simp at h2
        omega
  exact fun k hk => key (k + 1) k (by omega) hk
end Go.Proofs.Ytihgakbopkaemaa.Bs
