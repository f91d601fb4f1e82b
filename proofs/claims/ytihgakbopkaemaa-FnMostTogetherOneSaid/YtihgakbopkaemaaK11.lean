/-
  MERGED TEXTS: Math5 Math7 Math25 Math26 Math27.
-/
import Derived.Test.YtihgakbopkaemaaK8
import Derived.Test.YtihgakbopkaemaaK2
namespace Go.Proofs.Ytihgakbopkaemaa
open Bs
theorem mem_users {g : List T} {i : Nat} {x : Int} (hi : i < g.length) (hx : x ∈ need g i) (h0 : 0 ≤ x) : i ∈ usersOf g x.toNat := by
  unfold usersOf
  rw [List.mem_filter]
  refine ⟨by simpa using hi, ?_⟩
  rw [Int.toNat_of_nonneg h0]
  simpa using hx
theorem gi_at {l : List Int} {k : Nat} (hk : k < l.length) : gi l k = l[k] := by unfold gi; simp [hk]
theorem time_at {g : List T} {k : Nat} (hk : k < g.length) : timeOf g k = g[k].time := by unfold timeOf; rw [List.getElem?_eq_getElem hk]
theorem valid_of_len {g : List T} {M L : List Int} (h : L = if valid g then M else []) (hl : L.length = g.length) {i : Nat} (hi : i < g.length) : valid g = true ∧ L = M := by
  cases hv : valid g
  · rw [hv] at h
    simp at h
    subst h
    simp at hl
    omega
  · rw [hv] at h
    exact ⟨rfl, by simpa using h⟩
theorem tails_law {g : List T} {L : List Int} (h : L = if valid g then tailsC g else []) (hl : L.length = g.length) : ∀ i (hi : i < g.length), 0 ≤ gi L i ∧ gi L i ≤ 160 ∧ 1 ≤ g[i].time ∧ g[i].time ≤ 20 ∧ g[i].time ≤ gi L i ∧
    ∀ x ∈ g[i].needs, 0 ≤ x ∧ x < g.length ∧ timeOf g x.toNat + gi L i ≤ gi L x.toNat := by
  intro i hi
  obtain ⟨hv, rfl⟩ := valid_of_len h hl hi
  have hF := valid_fine hv
  have h8 := fine_len hF
  have hsp := tailsC_spec hF (valid_full hv)
  have ht := hsp.toTailMid.isTail
  have a := hsp.lo i hi
  have b := hsp.hi i hi
  have htop := (top_dist g).le
  have ti := fine_time hF hi
  rw [← time_at hi, ← need_at hi]
  refine ⟨by omega, by omega, ti.1, ti.2, ?_, ?_⟩
  · rw [ht i hi]
    have := maxL_nonneg ((usersOf g i).map (gi (tailsC g)))
    omega
  · intro x hx
    have hr := fine_need hF hx
    refine ⟨hr.1, hr.2, ?_⟩
    rw [ht x.toNat (by omega)]
    have := le_maxL (List.mem_map_of_mem (f := gi (tailsC g)) (mem_users hi hx hr.1))
    omega
theorem heads_law {g : List T} {L : List Int} (h : L = if valid g then headsC g else []) (hl : L.length = g.length) : ∀ i (hi : i < g.length), 0 ≤ gi L i ∧ gi L i ≤ 160 ∧ 1 ≤ g[i].time ∧ g[i].time ≤ 20 ∧
    (∀ x ∈ g[i].needs, 0 ≤ x ∧ x < g.length ∧ gi L x.toNat + timeOf g x.toNat ≤ gi L i) ∧ ((g[i].needs.length = 0 ∧ gi L i = 0) ∨ (0 < g[i].needs.length ∧ g[i].needs.any (fun x => gi L x.toNat + timeOf g x.toNat == gi L i) = true)) := by
  intro i hi
  obtain ⟨hv, rfl⟩ := valid_of_len h hl hi
  have hF := valid_fine hv
  have h8 := fine_len hF
  have hm := headsK_mid hF _ (Nat.le_refl _)
  have hh := hm.isHead (valid_full hv)
  have hb : ∀ i, i < g.length → 0 ≤ gi (headsC g) i ∧ gi (headsC g) i ≤ 160 := by
    intro i hi
    have htop := (top_dist g).le
    have a := hm.lo i hi
    have b := hm.hi i hi
    unfold headsC
    omega
  have ti := fine_time hF hi
  obtain ⟨b0, b1⟩ := hb i hi
  rw [← time_at hi, ← need_at hi]
  have e : gi (headsC g) i = maxL ((need g i).map fun x => gi (headsC g) x.toNat + timeOf g x.toNat) := hh i hi
  refine ⟨b0, b1, ti.1, ti.2, ?_, ?_⟩
  · intro x hx
    have hr := fine_need hF hx
    refine ⟨hr.1, hr.2, ?_⟩
    rw [e]
    exact le_maxL (List.mem_map_of_mem (f := fun x : Int => gi (headsC g) x.toNat + timeOf g x.toNat) hx)
  · by_cases hn : (need g i).length = 0
    · refine .inl ⟨hn, ?_⟩
      rw [e, List.eq_nil_of_length_eq_zero hn]
      rfl
    · refine .inr ⟨by omega, ?_⟩
      rw [List.any_eq_true]
      rcases maxL_mem ((need g i).map fun x => gi (headsC g) x.toNat + timeOf g x.toNat) with h0 | h0
      · exfalso
        have hx := List.getElem_mem (l := need g i) (n := 0) (by omega)
        have hr := fine_need hF hx
        have h1 := le_maxL (List.mem_map_of_mem (f := fun x : Int => gi (headsC g) x.toNat + timeOf g x.toNat) hx)
        have h2 := hb (need g i)[0].toNat (by omega)
        have h3 := fine_time hF (i := (need g i)[0].toNat) (by omega)
        simp only [h0] at h1
        omega
      · rw [← e] at h0
        obtain ⟨x, hx, hxe⟩ := List.mem_map.1 h0
        exact ⟨x, hx, by simpa using hxe⟩
theorem sum_le {g : List T} (hv : valid g = true) : ∀ i, i < g.length → gi (headsC g) i + gi (tailsC g) i ≤ longC g := by
  have hF := valid_fine hv
  have hg := valid_full hv
  have hh := (headsK_mid hF _ (Nat.le_refl _)).isHead hg
  have hsp := tailsC_spec hF hg
  have ht := hsp.toTailMid.isTail
  refine need_ind hg (fun i => gi (headsC g) i + gi (tailsC g) i ≤ longC g) ?_
  intro i hi ih
  have hmax : gi (tailsC g) i ≤ longC g := by
    unfold longC
    rw [gi_at (by rw [hsp.len]; exact hi)]
    exact le_maxL (List.getElem_mem _)
  have e : gi (headsC g) i = maxL ((need g i).map fun x => gi (headsC g) x.toNat + timeOf g x.toNat) := hh i hi
  rcases maxL_mem ((need g i).map fun x => gi (headsC g) x.toNat + timeOf g x.toNat) with h0 | h0
  · rw [e, h0]; omega
  · rw [← e] at h0
    obtain ⟨x, hx, hxe⟩ := List.mem_map.1 h0
    have hr := fine_need hF hx
    have h1 := ih x hx
    have h2 := ht x.toNat (by omega)
    have h3 := le_maxL (List.mem_map_of_mem (f := gi (tailsC g)) (mem_users hi hx hr.1))
    omega
theorem sum_hit {g : List T} (hv : valid g = true) (h0 : 0 < g.length) : ∃ i, i < g.length ∧ gi (headsC g) i + gi (tailsC g) i = longC g := by
  have hF := valid_fine hv
  have hg := valid_full hv
  have hm := headsK_mid hF _ (Nat.le_refl _)
  have hh := hm.isHead hg
  have hsp := tailsC_spec hF hg
  have ht := hsp.toTailMid.isTail
  rcases maxL_mem (tailsC g) with h1 | h1
  · exfalso
    have h2 : gi (tailsC g) 0 ≤ maxL (tailsC g) := by rw [gi_at (by rw [hsp.len]; exact h0)]; exact le_maxL (List.getElem_mem _)
    have h3 := ht 0 h0
    have h4 := fine_time hF h0
    have h5 := maxL_nonneg ((usersOf g 0).map (gi (tailsC g)))
    omega
  · obtain ⟨i, hi, e⟩ := List.mem_iff_getElem.1 h1
    have hi' : i < g.length := by rw [← hsp.len]; exact hi
    have e' : gi (tailsC g) i = longC g := by rw [gi_at hi]; exact e
    refine ⟨i, hi', ?_⟩
    have h2 := sum_le hv i hi'
    have h3 := hm.lo i hi'
    have h4 : 0 ≤ gi (headsC g) i := h3
    omega
/-- what the law of heads and tails wants -/
theorem sum_law {g : List T} {L H : List Int} {n : Int} (h : L = if valid g then tailsC g else []) (hH : H = if valid g then headsC g else []) (hn : n = longL g) (hl : L.length = g.length) (h0 : 0 < g.length) :
    H.length = g.length ∧ (∀ i, i < g.length → 0 ≤ gi H i ∧ gi H i ≤ 160 ∧ 0 ≤ gi L i ∧ gi L i ≤ 160 ∧ gi H i + gi L i ≤ n) ∧ (List.range g.length).any (fun i => gi H i + gi L i == n) = true := by
  obtain ⟨hv, rfl⟩ := valid_of_len h hl h0
  rw [hv] at hH
  simp only [if_true] at hH
  subst hH
  rw [longL_yes hv] at hn
  subst hn
  have hF := valid_fine hv
  have hm := headsK_mid hF _ (Nat.le_refl _)
  have hsp := tailsC_spec hF (valid_full hv)
  have h8 := fine_len hF
  have htop := (top_dist g).le
  refine ⟨hm.len, ?_, ?_⟩
  · intro i hi
    have a := hm.lo i hi
    have b := hm.hi i hi
    have c := hsp.lo i hi
    have d := hsp.hi i hi
    have e := sum_le hv i hi
    have a' : 0 ≤ gi (headsC g) i := a
    have b' : gi (headsC g) i ≤ 20 * (top g).length := b
    omega
  · obtain ⟨i, hi, e⟩ := sum_hit hv h0
    rw [List.any_eq_true]
    exact ⟨i, by simpa using hi, by simpa using e⟩
theorem any_range (p : Nat → Bool) (j : Nat) : (List.range (j + 1)).any p = ((List.range j).any p || p j) := by
  rw [List.range_succ, List.any_append, List.any_cons, List.any_nil, Bool.or_false]
end Go.Proofs.Ytihgakbopkaemaa
namespace Go.Proofs.Ytihgakbopkaemaa.Bs
def sumL : List Int → Int
  | [] => 0
  | x :: r => x + sumL r
theorem sumL_append (l l' : List Int) : sumL (l ++ l') = sumL l + sumL l' := by
  induction l with
  | nil => simp [sumL]
  | cons x r ih => simp only [List.cons_append, sumL, ih]; omega
theorem sumL_nonneg {α : Type} (l : List α) (f : α → Int) (h : ∀ x ∈ l, 0 ≤ f x) : 0 ≤ sumL (l.map f) := by
  induction l with
  | nil => simp [sumL]
  | cons x r ih =>
    have h1 := h x (by simp)
    have h2 := ih fun y hy => h y (by simp [hy])
    simp only [List.map_cons, sumL]
    omega
theorem sum_bound (f : Nat → Int) (hf : ∀ i, 0 ≤ f i) : ∀ (n : Nat) (l : List Nat), l.Nodup → (∀ x ∈ l, x < n) → sumL (l.map f) ≤ sumL ((List.range n).map f) := by
  intro n
  induction n with
  | zero => intro l _ h; cases l with
    | nil => simp
    | cons x r => exact absurd (h x (by simp)) (by omega)
  | succ n ih =>
    intro l hn h
    have h1 := ih (l.filter (· ≠ n)) (hn.filter _) (by
      intro x hx
      simp only [List.mem_filter, decide_eq_true_eq, ne_eq] at hx
      have := h x hx.1
      omega)
    have h2 : sumL (l.map f) ≤ sumL ((l.filter (· ≠ n)).map f) + f n := by
      clear h1 ih h
      induction l with
      | nil => have := hf n; simp [sumL]; exact this
      | cons y r ih =>
        rw [List.nodup_cons] at hn
        by_cases e : y = n
        · subst e
          have : r.filter (· ≠ y) = r := by
            rw [List.filter_eq_self]
            intro a ha
            simp only [ne_eq, decide_eq_true_eq]
            rintro rfl
            exact hn.1 ha
          have h3 : (List.filter (fun x => decide (x ≠ y)) (y :: r)) = List.filter (· ≠ y) r := by simp
          rw [h3, this]; simp only [List.map_cons, sumL]; omega
        · have h3 := ih hn.2
          have h4 : (List.filter (fun x => decide (x ≠ n)) (y :: r)) = y :: List.filter (· ≠ n) r := by simp [e]
          rw [h4]; simp only [List.map_cons, sumL]; omega
    rw [List.range_succ, List.map_append, sumL_append]
    simp only [List.map_cons, List.map_nil, sumL]
    omega
theorem time_nonneg {g : List T} (hF : fine g = true) (i : Nat) : 0 ≤ timeOf g i := by
  by_cases h : i < g.length
  · have := fine_time hF h; omega
  · unfold timeOf
    rw [List.getElem?_eq_none (by omega)]
    exact Int.le_refl _
theorem tail_suffix {g : List T} (hv : valid g = true) : ∀ n k, n = (top g).length - k → ∀ m (hm : m < (top g).length), k ≤ m → gi (tailsC g) (top g)[m].toNat ≤ sumL (((top g).drop k).map fun x => timeOf g x.toNat) := by
  have hF := valid_fine hv
  have hg := valid_full hv
  have hsp := tailsC_spec hF hg
  have ht := hsp.toTailMid.isTail
  intro n
  induction n with
  | zero => intro k hk m hm hkm; omega
  | succ n ih =>
    intro k hk m hm hkm
    have hkl : k < (top g).length := by omega
    have ih := ih (k + 1) (by omega)
    have hs : (top g).drop k = (top g)[k] :: (top g).drop (k + 1) := List.drop_eq_getElem_cons hkl
    rw [hs]
    simp only [List.map_cons, sumL]
    have t0 := time_nonneg hF (top g)[k].toNat
    have r0 := top_range (g := g) hkl
    by_cases e : k = m
    · subst e
      rw [ht _ (by omega)]
      have hmax : maxL ((usersOf g (top g)[k].toNat).map (gi (tailsC g))) ≤ sumL (((top g).drop (k + 1)).map fun x => timeOf g x.toNat) := by
        refine maxL_le (sumL_nonneg _ _ fun x _ => time_nonneg hF _) ?_
        intro x hx
        obtain ⟨u, hu, rfl⟩ := List.mem_map.1 hx
        unfold usersOf at hu
        rw [List.mem_filter] at hu
        obtain ⟨hu1, hu2⟩ := hu
        have hu1 : u < g.length := by simpa using hu1
        have hu2 : (top g)[k] ∈ need g u := by
          have := hu2
          rw [Int.toNat_of_nonneg r0.1] at this
          simpa using this
        obtain ⟨p, hp, he⟩ := List.mem_iff_getElem.1 ((top_dist g).full hg u hu1)
        have hb := top_behind g p hp (top g)[k] (by rw [he]; simpa using hu2)
        obtain ⟨j, hj, hje⟩ := List.mem_iff_getElem.1 hb
        rw [List.length_take] at hj
        rw [List.getElem_take] at hje
        have := top_inj (g := g) (by omega) hkl hje
        have := ih p hp (by omega)
        rw [he] at this
        simpa using this
      omega
    · have := ih m hm (by omega)
      omega
theorem times_list (g : List T) : (List.range g.length).map (timeOf g) = g.map T.time := by
  refine List.ext_getElem (by simp) ?_
  intro i h1 h2
  simp at h1
  simp [time_at h1]
theorem long_sum {g : List T} (hv : valid g = true) : longC g ≤ sumL (g.map T.time) := by
  have hF := valid_fine hv
  have hg := valid_full hv
  have hsp := tailsC_spec hF hg
  rw [← times_list]
  refine maxL_le (sumL_nonneg _ _ fun x _ => time_nonneg hF _) ?_
  intro x hx
  obtain ⟨i, hi, e⟩ := List.mem_iff_getElem.1 hx
  have hi' : i < g.length := by rw [← hsp.len]; exact hi
  obtain ⟨p, hp, he⟩ := List.mem_iff_getElem.1 ((top_dist g).full hg i hi')
  have h1 := tail_suffix hv _ 0 rfl p hp (Nat.zero_le _)
  rw [he] at h1
  simp only [Int.toNat_natCast, List.drop_zero] at h1
  have h2 := sum_bound (timeOf g) (time_nonneg hF) g.length ((top g).map Int.toNat) (top_dist g).natify.1 (top_dist g).natify.2
  rw [List.map_map] at h2
  rw [gi_at hi, e] at h1
  exact Int.le_trans h1 h2
theorem time_le_long {g : List T} (hv : valid g = true) {i : Nat} (hi : i < g.length) : timeOf g i ≤ longC g := by
  have hF := valid_fine hv
  have hg := valid_full hv
  have hsp := tailsC_spec hF hg
  have ht := hsp.toTailMid.isTail i hi
  have h1 := maxL_nonneg ((usersOf g i).map (gi (tailsC g)))
  have hmax : gi (tailsC g) i ≤ longC g := by
    unfold longC
    rw [gi_at (by rw [hsp.len]; exact hi)]
    exact le_maxL (List.getElem_mem _)
  omega
theorem long_law {g : List T} {n : Int} (h : n = longL g) (h0 : ¬ n < 0) : g.length ≤ 8 ∧ n ≤ sumL (g.map T.time) ∧ ∀ i (hi : i < g.length), 1 ≤ g[i].time ∧ g[i].time ≤ 20 ∧ g[i].time ≤ n := by
  cases hv : valid g
  · rw [longL_no hv] at h; omega
  · rw [longL_yes hv] at h
    subst h
    refine ⟨fine_len (valid_fine hv), long_sum hv, ?_⟩
    intro i hi
    have h1 := fine_time (valid_fine hv) hi
    have h2 := time_le_long hv hi
    rw [time_at hi] at h1 h2
    exact ⟨h1.1, h1.2, h2⟩
theorem sum_take {g : List T} {k : Nat} (hk : k < g.length) : sumL ((g.take (k + 1)).map T.time) = sumL ((g.take k).map T.time) + g[k].time := by
  rw [List.take_succ_eq_append_getElem hk, List.map_append, sumL_append]
  simp [sumL]
end Go.Proofs.Ytihgakbopkaemaa.Bs
namespace Go.Proofs.Ytihgakbopkaemaa.Bs
/-- how many of the first p needs of task k are not done -/
def missC (g : List T) (d : List Int) (k p : Nat) : Nat := (((need g k).take p).filter fun y => !d.contains y).length
def openA (g : List T) (d : List Int) (k p : Nat) : List Int := (List.range g.length).map fun i => if i < k then (missC g d i (need g i).length : Int) else if i = k then (missC g d k p : Int) else 0
def openC (g : List T) (d : List Int) : List Int := openA g d g.length 0
theorem openA_len (g : List T) (d : List Int) (k p : Nat) : (openA g d k p).length = g.length := by simp [openA]
theorem openC_len (g : List T) (d : List Int) : (openC g d).length = g.length := openA_len _ _ _ _
theorem gi_range (f : Nat → Int) (n i : Nat) (hi : i < n) : gi ((List.range n).map f) i = f i := by
  rw [gi_at (by simpa using hi)]
  simp
theorem missC_zero (g : List T) (d : List Int) (k : Nat) : missC g d k 0 = 0 := by simp [missC]
theorem missC_le (g : List T) (d : List Int) (k p : Nat) : missC g d k p ≤ p := by
  unfold missC
  refine Nat.le_trans (List.length_filter_le _ _) ?_
  rw [List.length_take]
  exact Nat.min_le_left _ _
theorem missC_yes {g : List T} {d : List Int} {k p : Nat} (hp : p < (need g k).length) (h : d.contains (need g k)[p] = true) : missC g d k (p + 1) = missC g d k p := by
  unfold missC
  rw [List.take_succ_eq_append_getElem hp, List.filter_append, List.length_append]
  simp only [List.filter_cons, h, List.filter_nil]
  rfl
theorem missC_no {g : List T} {d : List Int} {k p : Nat} (hp : p < (need g k).length) (h : d.contains (need g k)[p] = false) : missC g d k (p + 1) = missC g d k p + 1 := by
  unfold missC
  rw [List.take_succ_eq_append_getElem hp, List.filter_append, List.length_append]
  simp only [List.filter_cons, h, List.filter_nil]
  rfl
theorem openA_at {g : List T} {d : List Int} {k p : Nat} (hk : k < g.length) : gi (openA g d k p) k = missC g d k p := by
  unfold openA
  rw [gi_range _ _ _ hk, if_neg (by omega), if_pos rfl]
theorem openA_start (g : List T) (d : List Int) : openA g d 0 0 = List.replicate g.length 0 := by
  refine list_gi (by simp [openA_len]) ?_
  intro i hi
  rw [openA_len] at hi
  unfold openA
  rw [gi_range _ _ _ hi, gi_zero, if_neg (by omega), missC_zero]
  split <;> rfl
theorem openA_next (g : List T) (d : List Int) (k : Nat) : openA g d k (need g k).length = openA g d (k + 1) 0 := by
  refine list_gi (by simp [openA_len]) ?_
  intro i hi
  rw [openA_len] at hi
  unfold openA
  rw [gi_range _ _ _ hi, gi_range _ _ _ hi, missC_zero]
  by_cases h1 : i < k
  · rw [if_pos h1, if_pos (by omega)]
  · by_cases h2 : i = k
    · subst h2
      rw [if_neg h1, if_pos rfl, if_pos (by omega)]
    · rw [if_neg h1, if_neg h2, if_neg (by omega)]
      split <;> rfl
theorem openA_yes {g : List T} {d : List Int} {k p : Nat} (hp : p < (need g k).length) (h : d.contains (need g k)[p] = true) : openA g d k (p + 1) = openA g d k p := by
  unfold openA
  rw [missC_yes hp h]
theorem openA_no {g : List T} {d : List Int} {k p : Nat} (hk : k < g.length) (hp : p < (need g k).length) (h : d.contains (need g k)[p] = false) : openA g d k (p + 1) = (openA g d k p).set k ((missC g d k p : Int) + 1) := by
  refine list_gi (by simp [openA_len]) ?_
  intro i hi
  rw [openA_len] at hi
  rw [gi_set _ _ _ _ (by rw [openA_len]; exact hk)]
  unfold openA
  rw [gi_range _ _ _ hi, gi_range _ _ _ hi, missC_no hp h]
  by_cases h2 : i = k
  · subst h2
    rw [if_neg (by omega), if_pos rfl, if_pos rfl]
    omega
  · by_cases h1 : i < k
    · simp only [if_neg h2, if_pos h1]
    · simp only [if_neg h2, if_neg h1]
theorem openC_at {g : List T} {d : List Int} {i : Nat} (hi : i < g.length) : gi (openC g d) i = missC g d i (need g i).length := by
  unfold openC openA
  rw [gi_range _ _ _ hi, if_pos hi]
theorem missC_all (g : List T) (d : List Int) (i : Nat) : ((missC g d i (need g i).length : Int) == 0) = ((need g i).all fun y => d.contains y) := by
  unfold missC
  rw [List.take_length, Bool.eq_iff_iff, beq_iff_eq, List.all_eq_true]
  constructor
  · intro h y hy
    have h0 := List.eq_nil_of_length_eq_zero (Int.ofNat.inj h)
    rw [List.filter_eq_nil_iff] at h0
    simpa using h0 y hy
  · intro h
    have h0 : (need g i).filter (fun y => !d.contains y) = [] := by
      rw [List.filter_eq_nil_iff]
      intro y hy
      have := h y hy
      rw [this]
      simp
    rw [h0]
    rfl
theorem missC_pos (g : List T) (d : List Int) (i : Nat) : decide (0 < (missC g d i (need g i).length : Int)) = !((need g i).all fun y => d.contains y) := by
  rw [← missC_all]
  cases h : ((missC g d i (need g i).length : Int) == 0)
  · rw [beq_eq_false_iff_ne] at h
    simp
    omega
  · rw [beq_iff_eq] at h
    rw [h]
    rfl
theorem missC_small {g : List T} (hF : fine g = true) (d : List Int) {i : Nat} (p : Nat) (hp : p ≤ (need g i).length) : missC g d i p ≤ 8 := by
  refine Nat.le_trans (missC_le g d i p) (Nat.le_trans hp ?_)
  by_cases hi : i < g.length
  · rw [need_eq hi]
    have := fine_len hF
    have h2 : g[i].needs.length ≤ g.length := by
      have h3 := fine_nodup hF hi
      rw [need_eq hi] at h3
      have h4 : Dist g.length g[i].needs := ⟨h3, fun x hx => fine_need hF (i := i) (by rw [need_eq hi]; exact hx)⟩
      exact h4.le
    omega
  · unfold need
    rw [List.getElem?_eq_none (by omega)]
    simp
end Go.Proofs.Ytihgakbopkaemaa.Bs
namespace Go.Proofs.Ytihgakbopkaemaa.Bs
theorem contains_iff' {l : List Int} {x : Int} : l.contains x = true ↔ x ∈ l := by simp
theorem strict_unique {α : Type} (K : α → Int) : ∀ (l l' : List α), l.Pairwise (fun a b => K a < K b) → l'.Pairwise (fun a b => K a < K b) → (∀ x, x ∈ l ↔ x ∈ l') → l = l' := by
  intro l
  induction l with
  | nil =>
    intro l' _ _ h
    cases l' with
    | nil => rfl
    | cons y r => exact absurd ((h y).2 (by simp)) (by simp)
  | cons x r ih =>
    intro l' h1 h2 h
    cases l' with
    | nil => exact absurd ((h x).1 (by simp)) (by simp)
    | cons y r' =>
      rw [List.pairwise_cons] at h1 h2
      have e : x = y := by
        have a := (h x).1 (by simp)
        have b := (h y).2 (by simp)
        rw [List.mem_cons] at a b
        rcases a with a | a
        · exact a
        · rcases b with b | b
          · exact b.symm
          · have := h1.1 y b
            have := h2.1 x a
            omega
      subst e
      rw [ih r' h1.2 h2.2]
      intro z
      constructor
      · intro hz
        have a := (h z).1 (by simp [hz])
        rw [List.mem_cons] at a
        rcases a with a | a
        · subst a
          have := h1.1 z hz
          omega
        · exact a
      · intro hz
        have a := (h z).2 (by simp [hz])
        rw [List.mem_cons] at a
        rcases a with a | a
        · subst a
          have := h2.1 z hz
          omega
        · exact a
theorem asc_pair {l : List Int} (h : asc l = true) : l.Pairwise (fun a b => a < b) := by
  rw [List.pairwise_iff_getElem]
  rw [asc_iff] at h
  have key : ∀ d i (h1 : i + d + 1 < l.length), l[i] < l[i + d + 1] := by
    intro d
    induction d with
    | zero => intro i h1; exact h i h1
    | succ d ih =>
      intro i h1
      have a := ih i (by omega)
      have b := h (i + d + 1) (by omega)
      show l[i] < l[i + d + 1 + 1]
      exact Int.lt_trans a b
  intro i j h1 h2 hij
  have := key (j - i - 1) i (by omega)
  have e : i + (j - i - 1) + 1 = j := by omega
  simp only [e] at this
  exact this
theorem asc_unique {l l' : List Int} (h : asc l = true) (h' : asc l' = true) (hm : ∀ x, x ∈ l ↔ x ∈ l') : l = l' := strict_unique (fun x => x) l l' (asc_pair h) (asc_pair h') hm
theorem pick_filter {l : List Int} {n : Nat} {p : Nat → Bool} {q : Int → Bool} (ha : asc l = true) (hl : ∀ x ∈ l, 0 ≤ x ∧ x < n) (hp : ∀ j : Nat, p j = (l.contains (j : Int) && q (j : Int))) : pick n p = l.filter q := by
  refine strict_unique (fun x => x) _ _ (asc_pair (asc_pick p n)) ((asc_pair ha).sublist List.filter_sublist) ?_
  intro x
  rw [mem_pick, List.mem_filter]
  constructor
  · rintro ⟨j, hj, hpj, rfl⟩
    rw [hp, Bool.and_eq_true, contains_iff'] at hpj
    exact hpj
  · rintro ⟨hx, hq⟩
    have := hl x hx
    obtain ⟨j, rfl⟩ : ∃ j : Nat, x = j := ⟨x.toNat, by omega⟩
    refine ⟨j, by omega, ?_, rfl⟩
    rw [hp, Bool.and_eq_true, contains_iff']
    exact ⟨hx, hq⟩
theorem minus_test (s d : Nat) (hs : s < 256) (hd : d < 256) (j : Nat) : (s &&& (18446744073709551615 - d)).testBit j = (s.testBit j && !d.testBit j) := by
  have hb : (18446744073709551615 - d).testBit j = (decide (j < 64) && !d.testBit j) := by
    have := Nat.testBit_two_pow_sub_succ (n := 64) (x := d) (by omega) j
    rw [← this]
    congr 1
    omega
  rw [Nat.testBit_and, hb]
  by_cases hj : j < 64
  · simp [hj]
  · have : s.testBit j = false := Nat.testBit_lt_two_pow (Nat.lt_of_lt_of_le hs (by have := Nat.pow_le_pow_right (n := 2) (by omega) (show 8 ≤ j by omega); omega))
    rw [this]
    rfl
end Go.Proofs.Ytihgakbopkaemaa.Bs
namespace Go.Proofs.Ytihgakbopkaemaa.Bs
def admOk (g : List T) (m r : List Int) (wk : Int) (out : List Int) (x : Int) : Bool := decide (((r.length : Int) + (out.length : Int)) < wk) && fitsC g m (r ++ (out ++ [x]))
def admS (g : List T) (m r : List Int) (wk : Int) (out : List Int) (x : Int) : List Int := if admOk g m r wk out x then out ++ [x] else out
def admK (g : List T) (m r : List Int) (wk : Int) (l : List Int) (k : Nat) : List Int := (l.take k).foldl (admS g m r wk) []
def admC (g : List T) (m r : List Int) (wk : Int) (l : List Int) : List Int := admK g m r wk l l.length
def idleB (r l : List Int) (k : Nat) : Bool := (List.range k).all fun i => !r.contains (giZ l i) && !(l.take i).contains (giZ l i)
def admV (g : List T) (m r l : List Int) (wk : Int) : Bool := runOk g m r && decide (1 ≤ wk ∧ wk ≤ 4) && allInB l 0 ((g.length : Int) - 1) && idleB r l l.length
def admL (g : List T) (m r l : List Int) (wk : Int) : List Int := if admV g m r l wk then admC g m r wk l else []
theorem admV_no1 {g : List T} {m r l : List Int} {wk : Int} (h : runOk g m r = false) : admV g m r l wk = false := by unfold admV; rw [h]; rfl
theorem admV_no2 {g : List T} {m r l : List Int} {wk : Int} (h : decide (1 ≤ wk ∧ wk ≤ 4) = false) : admV g m r l wk = false := by unfold admV; rw [h]; simp
theorem admV_no3 {g : List T} {m r l : List Int} {wk : Int} (h : allInB l 0 ((g.length : Int) - 1) = false) : admV g m r l wk = false := by unfold admV; rw [h]; simp
theorem admV_no4 {g : List T} {m r l : List Int} {wk : Int} (h : idleB r l l.length = false) : admV g m r l wk = false := by unfold admV; rw [h]; simp
theorem admV_yes {g : List T} {m r l : List Int} {wk : Int} (h1 : runOk g m r = true) (h2 : decide (1 ≤ wk ∧ wk ≤ 4) = true) (h3 : allInB l 0 ((g.length : Int) - 1) = true) (h4 : idleB r l l.length = true) : admV g m r l wk = true := by unfold admV; rw [h1, h2, h3, h4]; rfl
theorem admV_iff {g : List T} {m r l : List Int} {wk : Int} : admV g m r l wk = true ↔ runOk g m r = true ∧ (1 ≤ wk ∧ wk ≤ 4) ∧ allInB l 0 ((g.length : Int) - 1) = true ∧ idleB r l l.length = true := by
  unfold admV
  simp [and_assoc]
theorem admL_no {g : List T} {m r l : List Int} {wk : Int} (h : admV g m r l wk = false) : admL g m r l wk = [] := by unfold admL; rw [h]; rfl
theorem admL_yes {g : List T} {m r l : List Int} {wk : Int} (h : admV g m r l wk = true) : admL g m r l wk = admC g m r wk l := by unfold admL; rw [h]; rfl
theorem admK_zero (g : List T) (m r : List Int) (wk : Int) (l : List Int) : admK g m r wk l 0 = [] := rfl
theorem admK_succ {g : List T} {m r : List Int} {wk : Int} {l : List Int} {k : Nat} (hk : k < l.length) : admK g m r wk l (k + 1) = admS g m r wk (admK g m r wk l k) l[k] := by
  unfold admK
  rw [List.take_succ_eq_append_getElem hk, List.foldl_append]
  rfl
theorem admK_yes {g : List T} {m r : List Int} {wk : Int} {l : List Int} {k : Nat} (hk : k < l.length) (h : admOk g m r wk (admK g m r wk l k) l[k] = true) : admK g m r wk l (k + 1) = admK g m r wk l k ++ [l[k]] := by
  rw [admK_succ hk]; unfold admS; rw [h]; rfl
theorem admK_no {g : List T} {m r : List Int} {wk : Int} {l : List Int} {k : Nat} (hk : k < l.length) (h : admOk g m r wk (admK g m r wk l k) l[k] = false) : admK g m r wk l (k + 1) = admK g m r wk l k := by
  rw [admK_succ hk]; unfold admS; rw [h]; rfl
theorem admK_len (g : List T) (m r : List Int) (wk : Int) (l : List Int) : ∀ k, k ≤ l.length → (admK g m r wk l k).length ≤ k := by
  intro k
  induction k with
  | zero => intro _; rw [admK_zero]; exact Nat.le_refl _
  | succ k ih =>
    intro hk
    have h1 := ih (by omega)
    rw [admK_succ (show k < l.length by omega)]
    unfold admS
    split
    · rw [List.length_append]; simp; omega
    · omega
theorem adm_full {g : List T} {m r : List Int} {wk : Int} {l : List Int} : ∀ j k, k + j = l.length → ¬ ((r.length : Int) + ((admK g m r wk l k).length : Int) < wk) → admK g m r wk l k = admC g m r wk l := by
  intro j
  induction j with
  | zero =>
    intro k hk _
    have : k = l.length := by omega
    subst this
    rfl
  | succ j ih =>
    intro k hk h
    have hlt : k < l.length := by omega
    have hno : admOk g m r wk (admK g m r wk l k) l[k] = false := by
      unfold admOk
      rw [decide_eq_false h]
      rfl
    have e := admK_no hlt hno
    rw [← e]
    refine ih (k + 1) (by omega) ?_
    rw [e]
    exact h
theorem usedC_append (g : List T) (r s : List Int) (p : Int) : usedC g (r ++ s) p = usedC g r p + usedC g s p := by
  unfold usedC
  rw [List.map_append, sumZ_append]
theorem usedC_one (g : List T) (x p : Int) : usedC g [x] p = unitF g p x := by simp [usedC, sumZ]
theorem fitsC_iff {g : List T} {m r : List Int} : fitsC g m r = true ↔ usedC g r 0 ≤ giZ m 0 ∧ usedC g r 1 ≤ giZ m 1 ∧ usedC g r 2 ≤ giZ m 2 := by
  unfold fitsC
  simp [List.range_succ]
theorem fits_step {g : List T} {m r : List Int} {v : Nat} (hF : fine g = true) (hv : v < g.length) (h : fitsC g m r = true) : fitsC g m (r ++ [(v : Int)]) = decide (usedC g r (g[v].pool) + g[v].units ≤ giZ m g[v].pool.toNat) := by
  obtain ⟨p0, p2, _, _⟩ := fine_task hF hv
  rw [fitsC_iff] at h
  have e : ∀ p : Int, usedC g (r ++ [(v : Int)]) p = usedC g r p + (if g[v].pool == p then g[v].units else 0) := by
    intro p
    rw [usedC_append, usedC_one]
    unfold unitF
    rw [Int.toNat_natCast, pool_at hv, units_at hv]
  rw [Bool.eq_iff_iff, fitsC_iff, e, e, e, decide_eq_true_eq]
  have hp : g[v].pool = 0 ∨ g[v].pool = 1 ∨ g[v].pool = 2 := by omega
  rcases hp with hp | hp | hp <;> rw [hp] <;> simp <;> omega
theorem adm_fits {g : List T} {m r : List Int} {wk : Int} {l : List Int} (h : fitsC g m r = true) : ∀ k, k ≤ l.length → fitsC g m (r ++ admK g m r wk l k) = true := by
  intro k
  induction k with
  | zero => intro _; rw [admK_zero, List.append_nil]; exact h
  | succ k ih =>
    intro hk
    have h1 := ih (by omega)
    rw [admK_succ (show k < l.length by omega)]
    unfold admS
    split
    · rename_i ho
      unfold admOk at ho
      rw [Bool.and_eq_true] at ho
      exact ho.2
    · exact h1
theorem adm_count {g : List T} {m r : List Int} {wk : Int} {l : List Int} : ∀ k, k ≤ l.length → admK g m r wk l k = [] ∨ (r.length : Int) + ((admK g m r wk l k).length : Int) ≤ wk := by
  intro k
  induction k with
  | zero => intro _; exact .inl (admK_zero _ _ _ _ _)
  | succ k ih =>
    intro hk
    have h1 := ih (by omega)
    rw [admK_succ (show k < l.length by omega)]
    unfold admS
    split
    · rename_i ho
      unfold admOk at ho
      rw [Bool.and_eq_true, decide_eq_true_eq] at ho
      refine .inr ?_
      rw [List.length_append]
      simp only [List.length_cons, List.length_nil]
      omega
    · exact h1
theorem adm_mem {g : List T} {m r : List Int} {wk : Int} {l : List Int} : ∀ k, k ≤ l.length → ∀ x ∈ admK g m r wk l k, x ∈ l.take k := by
  intro k
  induction k with
  | zero => intro _ x hx; rw [admK_zero] at hx; cases hx
  | succ k ih =>
    intro hk x hx
    have hlt : k < l.length := by omega
    rw [admK_succ hlt] at hx
    rw [take_succ_mem hlt]
    unfold admS at hx
    split at hx
    · rw [List.mem_append, List.mem_singleton] at hx
      rcases hx with hx | hx
      · exact .inl (ih (by omega) x hx)
      · exact .inr hx
    · exact .inl (ih (by omega) x hx)
theorem idleB_succ (r l : List Int) (k : Nat) : idleB r l (k + 1) = (idleB r l k && (!r.contains (giZ l k) && !(l.take k).contains (giZ l k))) := by
  unfold idleB
  rw [List.range_succ, List.all_append]
  simp
theorem idleB_no {r l : List Int} {k n : Nat} (hk : k < n) (h : (!r.contains (giZ l k) && !(l.take k).contains (giZ l k)) = false) : idleB r l n = false := by
  unfold idleB
  rw [List.all_eq_false]
  exact ⟨k, by simpa using hk, by rw [h]; simp⟩
theorem idle_nodup {r l : List Int} : ∀ k, k ≤ l.length → idleB r l k = true → (l.take k).Nodup ∧ ∀ x ∈ l.take k, x ∉ r := by
  intro k
  induction k with
  | zero => intro _ _; simp
  | succ k ih =>
    intro hk h
    have hlt : k < l.length := by omega
    rw [idleB_succ, Bool.and_eq_true, Bool.and_eq_true] at h
    obtain ⟨h1, h2, h3⟩ := h
    obtain ⟨i1, i2⟩ := ih (by omega) h1
    rw [giZ_at hlt] at h2 h3
    have h2 : l[k] ∉ r := by simpa using h2
    have h3 : l[k] ∉ l.take k := by simpa using h3
    rw [List.take_succ_eq_append_getElem hlt]
    constructor
    · rw [List.nodup_append]
      refine ⟨i1, by simp, ?_⟩
      intro a ha b hb e
      rw [List.mem_singleton] at hb
      subst hb
      subst e
      exact h3 ha
    · intro x hx
      rw [List.mem_append, List.mem_singleton] at hx
      rcases hx with hx | rfl
      · exact i2 x hx
      · exact h2
theorem idle_dist {g : List T} {r l : List Int} {k : Nat} (hk : k ≤ l.length) (h : idleB r l k = true) (hl : allInB (l.take k) 0 ((g.length : Int) - 1) = true) : Dist g.length (l.take k) :=
  ⟨(idle_nodup k hk h).1, fun x hx => by have := allInB_mem hl hx; omega⟩
theorem adm_nodup {g : List T} {m r : List Int} {wk : Int} {l : List Int} (h : idleB r l l.length = true) : ∀ k, k ≤ l.length → (admK g m r wk l k).Nodup := by
  have hn : ∀ k (hk : k < l.length), l[k] ∉ l.take k := by
    intro k hk
    unfold idleB at h
    rw [List.all_eq_true] at h
    have := h k (by simpa using hk)
    rw [giZ_at hk, Bool.and_eq_true] at this
    simpa using this.2
  intro k
  induction k with
  | zero => intro _; rw [admK_zero]; exact List.nodup_nil
  | succ k ih =>
    intro hk
    have hlt : k < l.length := by omega
    rw [admK_succ hlt]
    unfold admS
    split
    · rw [List.nodup_append]
      refine ⟨ih (by omega), by simp, ?_⟩
      intro a ha b hb e
      rw [List.mem_singleton] at hb
      subst hb
      subst e
      exact hn k hlt (adm_mem k (by omega) _ ha)
    · exact ih (by omega)
end Go.Proofs.Ytihgakbopkaemaa.Bs
