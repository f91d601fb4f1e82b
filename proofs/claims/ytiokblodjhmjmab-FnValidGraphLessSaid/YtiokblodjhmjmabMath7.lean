/-
  PLAIN MATHEMATICS of graphs of tasks: the longest time is at most all of the time. No condition.
-/
import Derived.Test.YtiokblodjhmjmabMath5
namespace Go.Proofs.Ytiokblodjhmjmab.Bs
def sumL : List Int → Int
  | [] => 0
  | x :: r => x + sumL r
theorem sumL_append (l l' : List Int) : sumL (l ++ l') = sumL l + sumL l' := by
  induction l with
  | nil => simp [sumL]
  | cons x r ih => simp only [List.cons_append, sumL, ih]; omega
theorem sumL_nonneg {α : Type} (l : List α) (f : α → Int) (h : ∀ x ∈ l, 0 ≤ f x) : 0 ≤ sumL (l.map f) := by
  induction l with
  | nil => simp [sumL]
  | cons x r ih =>
    have h1 := h x (by simp)
    have h2 := ih fun y hy => h y (by simp [hy])
    simp only [List.map_cons, sumL]
    omega
theorem sum_bound (f : Nat → Int) (hf : ∀ i, 0 ≤ f i) : ∀ (n : Nat) (l : List Nat), l.Nodup → (∀ x ∈ l, x < n) → sumL (l.map f) ≤ sumL ((List.range n).map f) := by
  intro n
  induction n with
  | zero => intro l _ h; cases l with
    | nil => simp
    | cons x r => exact absurd (h x (by simp)) (by omega)
  | succ n ih =>
    intro l hn h
    have h1 := ih (l.filter (· ≠ n)) (hn.filter _) (by
      intro x hx
      simp only [List.mem_filter, decide_eq_true_eq, ne_eq] at hx
      have := h x hx.1
      omega)
    have h2 : sumL (l.map f) ≤ sumL ((l.filter (· ≠ n)).map f) + f n := by
      clear h1 ih h
      induction l with
      | nil => have := hf n; simp [sumL]; exact this
      | cons y r ih =>
        rw [List.nodup_cons] at hn
        by_cases e : y = n
        · subst e
          have : r.filter (· ≠ y) = r := by
            rw [List.filter_eq_self]
            intro a ha
            simp only [ne_eq, decide_eq_true_eq]
            rintro rfl
            exact hn.1 ha
          have h3 : (List.filter (fun x => decide (x ≠ y)) (y :: r)) = List.filter (· ≠ y) r := by simp
          rw [h3, this]; simp only [List.map_cons, sumL]; omega
        · have h3 := ih hn.2
          have h4 : (List.filter (fun x => decide (x ≠ n)) (y :: r)) = y :: List.filter (· ≠ n) r := by simp [e]
          rw [h4]; simp only [List.map_cons, sumL]; omega
    rw [List.range_succ, List.map_append, sumL_append]
    simp only [List.map_cons, List.map_nil, sumL]
    omega
theorem time_nonneg {g : List T} (hF : fine g = true) (i : Nat) : 0 ≤ timeOf g i := by
  by_cases h : i < g.length
  · have := fine_time hF h; omega
  · unfold timeOf
    rw [List.getElem?_eq_none (by omega)]
    exact Int.le_refl _
theorem tail_suffix {g : List T} (hv : valid g = true) : ∀ n k, n = (top g).length - k → ∀ m (hm : m < (top g).length), k ≤ m → gi (tailsC g) (top g)[m].toNat ≤ sumL (((top g).drop k).map fun x => timeOf g x.toNat) := by
  have hF := valid_fine hv
  have hg := valid_full hv
  have hsp := tailsC_spec hF hg
  have ht := hsp.toTailMid.isTail
  intro n
  induction n with
  | zero => intro k hk m hm hkm; omega
  | succ n ih =>
    intro k hk m hm hkm
    have hkl : k < (top g).length := by omega
    have ih := ih (k + 1) (by omega)
    have hs : (top g).drop k = (top g)[k] :: (top g).drop (k + 1) := List.drop_eq_getElem_cons hkl
    rw [hs]
    simp only [List.map_cons, sumL]
    have t0 := time_nonneg hF (top g)[k].toNat
    have r0 := top_range (g := g) hkl
    by_cases e : k = m
    · subst e
      rw [ht _ (by omega)]
      have hmax : maxL ((usersOf g (top g)[k].toNat).map (gi (tailsC g))) ≤ sumL (((top g).drop (k + 1)).map fun x => timeOf g x.toNat) := by
        refine maxL_le (sumL_nonneg _ _ fun x _ => time_nonneg hF _) ?_
        intro x hx
        obtain ⟨u, hu, rfl⟩ := List.mem_map.1 hx
        unfold usersOf at hu
        rw [List.mem_filter] at hu
        obtain ⟨hu1, hu2⟩ := hu
        have hu1 : u < g.length := by simpa using hu1
        have hu2 : (top g)[k] ∈ need g u := by
          have := hu2
          rw [Int.toNat_of_nonneg r0.1] at this
          simpa using this
        obtain ⟨p, hp, he⟩ := List.mem_iff_getElem.1 ((top_dist g).full hg u hu1)
        have hb := top_behind g p hp (top g)[k] (by rw [he]; simpa using hu2)
        obtain ⟨j, hj, hje⟩ := List.mem_iff_getElem.1 hb
        rw [List.length_take] at hj
        rw [List.getElem_take] at hje
        have := top_inj (g := g) (by omega) hkl hje
        have := ih p hp (by omega)
        rw [he] at this
        simpa using this
      omega
    · have := ih m hm (by omega)
      omega
theorem times_list (g : List T) : (List.range g.length).map (timeOf g) = g.map T.time := by
  refine List.ext_getElem (by simp) ?_
  intro i h1 h2
  simp at h1
  simp [time_at h1]
theorem long_sum {g : List T} (hv : valid g = true) : longC g ≤ sumL (g.map T.time) := by
  have hF := valid_fine hv
  have hg := valid_full hv
  have hsp := tailsC_spec hF hg
  rw [← times_list]
  refine maxL_le (sumL_nonneg _ _ fun x _ => time_nonneg hF _) ?_
  intro x hx
  obtain ⟨i, hi, e⟩ := List.mem_iff_getElem.1 hx
  have hi' : i < g.length := by rw [← hsp.len]; exact hi
  obtain ⟨p, hp, he⟩ := List.mem_iff_getElem.1 ((top_dist g).full hg i hi')
  have h1 := tail_suffix hv _ 0 rfl p hp (Nat.zero_le _)
  rw [he] at h1
  simp only [Int.toNat_natCast, List.drop_zero] at h1
  have h2 := sum_bound (timeOf g) (time_nonneg hF) g.length ((top g).map Int.toNat) (top_dist g).natify.1 (top_dist g).natify.2
  rw [List.map_map] at h2
  rw [gi_at hi, e] at h1
  exact Int.le_trans h1 h2
theorem time_le_long {g : List T} (hv : valid g = true) {i : Nat} (hi : i < g.length) : timeOf g i ≤ longC g := by
  have hF := valid_fine hv
  have hg := valid_full hv
  have hsp := tailsC_spec hF hg
  have ht := hsp.toTailMid.isTail i hi
  have h1 := maxL_nonneg ((usersOf g i).map (gi (tailsC g)))
  have hmax : gi (tailsC g) i ≤ longC g := by
    unfold longC
    rw [gi_at (by rw [hsp.len]; exact hi)]
    exact le_maxL (List.getElem_mem _)
  omega
theorem long_law {g : List T} {n : Int} (h : n = longL g) (h0 : ¬ n < 0) : g.length ≤ 8 ∧ n ≤ sumL (g.map T.time) ∧ ∀ i (hi : i < g.length), 1 ≤ g[i].time ∧ g[i].time ≤ 20 ∧ g[i].time ≤ n := by
  cases hv : valid g
  · rw [longL_no hv] at h; omega
  · rw [longL_yes hv] at h
    subst h
    refine ⟨fine_len (valid_fine hv), long_sum hv, ?_⟩
    intro i hi
    have h1 := fine_time (valid_fine hv) hi
    have h2 := time_le_long hv hi
    rw [time_at hi] at h1 h2
    exact ⟨h1.1, h1.2, h2⟩
theorem sum_take {g : List T} {k : Nat} (hk : k < g.length) : sumL ((g.take (k + 1)).map T.time) = sumL ((g.take k).map T.time) + g[k].time := by
  rw [List.take_succ_eq_append_getElem hk, List.map_append, sumL_append]
  simp [sumL]
end Go.Proofs.Ytiokblodjhmjmab.Bs
