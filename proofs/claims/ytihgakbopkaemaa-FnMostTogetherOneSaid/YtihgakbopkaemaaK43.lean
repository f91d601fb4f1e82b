/-
  MERGED TEXTS: Math10 Math11 Math12 Math13.
-/
import Derived.Test.YtihgakbopkaemaaK42
import Derived.Test.YtihgakbopkaemaaK11
import Derived.Test.YtihgakbopkaemaaK2
namespace Go.Proofs.Ytihgakbopkaemaa
open Bs
theorem linkN_cases (g : List T) (t : List Int) (v want : Int) : linkN g t v want = -1 ∧ (∀ i, i < g.length → gi t i = want → v ∉ need g i) ∨ ∃ k : Nat, k < g.length ∧ linkN g t v want = k ∧ gi t k = want ∧ v ∈ need g k := by
  unfold linkN firstI
  cases h : (List.range g.length).find? (fun i => gi t i == want && (need g i).contains v) with
  | none =>
    left
    refine ⟨rfl, ?_⟩
    rw [List.find?_eq_none] at h
    intro i hi e hv
    have := h i (by simpa using hi)
    simp [e, hv] at this
  | some k =>
    right
    have h1 := List.mem_of_find?_eq_some h
    have h2 := List.find?_some h
    simp at h1 h2
    exact ⟨k, h1, rfl, h2.1, h2.2⟩
/-- the next link of the chain behind task a, if it has users -/
theorem link_next {g : List T} (hv : valid g = true) {a : Nat} (ha : a < g.length) :
    (gi (tailsC g) a = timeOf g a ∧ linkN g (tailsC g) (a : Int) (gi (tailsC g) a - timeOf g a) = -1) ∨
    ∃ u : Nat, u < g.length ∧ linkN g (tailsC g) (a : Int) (gi (tailsC g) a - timeOf g a) = (u : Int) ∧ gi (tailsC g) u = gi (tailsC g) a - timeOf g a ∧ (a : Int) ∈ need g u := by
  have hF := valid_fine hv
  have hsp := tailsC_spec hF (valid_full hv)
  have ht := hsp.toTailMid.isTail
  rcases linkN_cases g (tailsC g) (a : Int) (gi (tailsC g) a - timeOf g a) with ⟨h1, h2⟩ | ⟨u, hu, h1, h2, h3⟩
  · left
    refine ⟨?_, h1⟩
    have e := ht a ha
    rcases maxL_mem ((usersOf g a).map (gi (tailsC g))) with h0 | h0
    · omega
    · exfalso
      obtain ⟨u, hu, hue⟩ := List.mem_map.1 h0
      rw [mem_usersOf] at hu
      exact h2 u hu.1 (by rw [hue]; omega) hu.2
  · exact .inr ⟨u, hu, h1, h2, h3⟩
theorem chainF_all {g : List T} (hv : valid g = true) (P : Nat → Prop) (hP : ∀ a u : Nat, a < g.length → u < g.length → P a → gi (tailsC g) u = gi (tailsC g) a - timeOf g a → (a : Int) ∈ need g u → P u) :
    ∀ k (a : Nat), a < g.length → P a → ∀ x ∈ chainF g (tailsC g) k (a : Int), ∃ v : Nat, v < g.length ∧ x = (v : Int) ∧ P v := by
  intro k
  induction k with
  | zero => intro a _ _ x hx; simp [chainF] at hx
  | succ k ih =>
    intro a ha hp x hx
    rw [chainF, if_neg (by omega)] at hx
    rw [List.mem_cons] at hx
    rcases hx with rfl | hx
    · exact ⟨a, ha, rfl, hp⟩
    · simp only [Int.toNat_natCast] at hx
      rcases link_next hv ha with ⟨_, h1⟩ | ⟨u, hu, h1, h2, h3⟩
      · rw [h1, chainF_neg _ _ _ (by omega)] at hx
        simp at hx
      · rw [h1] at hx
        exact ih u hu (hP a u ha hu hp h2 h3) x hx
theorem chainF_sum {g : List T} (hv : valid g = true) : ∀ (k a : Nat), a < g.length → gi (tailsC g) a ≤ k → sumL ((chainF g (tailsC g) k (a : Int)).map fun x => timeOf g x.toNat) = gi (tailsC g) a := by
  have hF := valid_fine hv
  have hsp := tailsC_spec hF (valid_full hv)
  intro k
  induction k with
  | zero =>
    intro a ha h
    have h1 := hsp.toTailMid.isTail a ha
    have h2 := fine_time hF ha
    have h3 := maxL_nonneg ((usersOf g a).map (gi (tailsC g)))
    omega
  | succ k ih =>
    intro a ha h
    rw [chainF, if_neg (by omega)]
    simp only [List.map_cons, sumL, Int.toNat_natCast]
    have h2 := fine_time hF ha
    rcases link_next hv ha with ⟨h0, h1⟩ | ⟨u, hu, h1, h3, h4⟩
    · rw [h1, chainF_neg _ _ _ (by omega), h0]
      simp [sumL]
    · rw [h1, ih u hu (by omega), h3]
      omega
theorem chainF_succ (g : List T) (t : List Int) (k a : Nat) : chainF g t (k + 1) (a : Int) = (a : Int) :: chainF g t k (linkN g t (a : Int) (gi t a - timeOf g a)) := by
  rw [chainF, if_neg (by omega)]
  simp
theorem chainF_link {g : List T} (hv : valid g = true) : ∀ (k a : Nat), a < g.length → ∀ C, C = chainF g (tailsC g) k (a : Int) → ∀ i (hi : i + 1 < C.length), C[i] ∈ need g C[i + 1].toNat := by
  intro k
  induction k with
  | zero => intro a _ C hC i hi; subst hC; simp [chainF] at hi
  | succ k ih =>
    intro a ha C hC i hi
    rw [chainF_succ] at hC
    rcases link_next hv ha with ⟨h0, h1⟩ | ⟨u, hu, h1, h3, h4⟩
    · rw [h1, chainF_neg _ _ _ (by omega)] at hC
      subst hC
      simp at hi
    · rw [h1] at hC
      have ih := ih u hu _ rfl
      obtain ⟨D, hD⟩ : ∃ D, D = chainF g (tailsC g) k (u : Int) := ⟨_, rfl⟩
      rw [← hD] at hC ih
      subst hC
      cases i with
      | zero =>
        cases k with
        | zero => subst hD; simp [chainF] at hi
        | succ k =>
          rw [chainF_succ] at hD
          subst hD
          simpa using h4
      | succ i => simpa using ih i (by simpa using hi)
theorem chain_start {g : List T} (hv : valid g = true) : (g.length = 0 ∧ chainC g = []) ∨ ∃ a : Nat, a < g.length ∧ gi (tailsC g) a = longC g ∧ chainC g = chainF g (tailsC g) 200 (a : Int) := by
  unfold chainC linkF
  rcases firstI_cases g.length (fun i => gi (tailsC g) i == longC g) with h | ⟨a, ha, h, hp⟩
  · by_cases h0 : g.length = 0
    · left
      refine ⟨h0, ?_⟩
      rw [h, chainF_neg _ _ _ (by omega)]
    · exfalso
      obtain ⟨i, hi, e⟩ := sum_hit hv (by omega)
      have hF := valid_fine hv
      have hsp := tailsC_spec hF (valid_full hv)
      rcases maxL_mem (tailsC g) with h1 | h1
      · have h2 := hsp.toTailMid.isTail i hi
        have h3 := fine_time hF hi
        have h4 := maxL_nonneg ((usersOf g i).map (gi (tailsC g)))
        have h5 : gi (tailsC g) i ≤ maxL (tailsC g) := by
          rw [gi_at (by rw [hsp.len]; exact hi)]
          exact le_maxL (List.getElem_mem _)
        omega
      · obtain ⟨j, hj, ej⟩ := List.mem_iff_getElem.1 h1
        have hj' : j < g.length := by rw [← hsp.len]; exact hj
        unfold firstI at h
        cases hf : (List.range g.length).find? (fun i => gi (tailsC g) i == longC g) with
        | none =>
          rw [List.find?_eq_none] at hf
          have := hf j (by simpa using hj')
          rw [gi_at hj, ej] at this
          simp [longC] at this
        | some k => rw [hf] at h; simp at h
  · right
    refine ⟨a, ha, by simpa using hp, by rw [h]⟩
theorem chain_crit {g : List T} (hv : valid g = true) : ∀ x ∈ chainC g, ∃ v : Nat, v < g.length ∧ x = (v : Int) ∧ gi (headsC g) v + gi (tailsC g) v = longC g := by
  have hF := valid_fine hv
  have hg := valid_full hv
  have hm := headsK_mid hF _ (Nat.le_refl _)
  have hh := hm.isHead hg
  intro x hx
  rcases chain_start hv with ⟨_, h⟩ | ⟨a, ha, h1, h2⟩
  · rw [h] at hx; simp at hx
  · rw [h2] at hx
    refine chainF_all hv (fun v => gi (headsC g) v + gi (tailsC g) v = longC g) ?_ 200 a ha ?_ x hx
    · intro a u ha hu hp h3 h4
      have e : gi (headsC g) u = maxL ((need g u).map fun x => gi (headsC g) x.toNat + timeOf g x.toNat) := hh u hu
      have h5 := le_maxL (List.mem_map_of_mem (f := fun x : Int => gi (headsC g) x.toNat + timeOf g x.toNat) h4)
      have h6 := sum_le hv u hu
      simp only [Int.toNat_natCast] at h5
      omega
    · have h3 := sum_le hv a ha
      have h4 : 0 ≤ gi (headsC g) a := hm.lo a ha
      omega
/-- what the laws of critical chains want -/
theorem chain_law {g : List T} {L : List Int} (h : L = chainL g) (h0 : ¬ L.length = 0) : valid g = true ∧ L.length ≤ 200 ∧ g.length ≤ 8 ∧
    (∀ k (hk : k < L.length), 0 ≤ L[k] ∧ L[k] < g.length ∧ 1 ≤ timeOf g L[k].toNat ∧ timeOf g L[k].toNat ≤ 20 ∧ gi (headsC g) L[k].toNat + gi (tailsC g) L[k].toNat = longC g) ∧
    (∀ k (hk : k + 1 < L.length), L[k] ∈ need g L[k + 1].toNat) ∧ sumL (L.map fun x => timeOf g x.toNat) = longL g ∧ ∀ (h0 : 0 < L.length), need g L[0].toNat = [] := by
  have hv : valid g = true := by
    cases hv : valid g
    · rw [chainL_no hv] at h; subst h; simp at h0
    · rfl
  rw [chainL_yes hv] at h
  have hF := valid_fine hv
  have h8 := fine_len hF
  have hsp := tailsC_spec hF (valid_full hv)
  rcases chain_start hv with ⟨_, h1⟩ | ⟨a, ha, h1, h2⟩
  · rw [h1] at h; subst h; simp at h0
  · have hc := chain_crit hv
    rw [← h] at hc
    refine ⟨hv, ?_, h8, ?_, ?_, ?_, ?_⟩
    · rw [h, h2]; exact chainF_len _ _ _ _
    · intro k hk
      obtain ⟨v, hv1, e, hp⟩ := hc L[k] (List.getElem_mem hk)
      rw [e, Int.toNat_natCast]
      have := fine_time hF hv1
      exact ⟨by omega, by omega, this.1, this.2, hp⟩
    · intro k hk
      exact chainF_link hv 200 a ha L (h.trans h2) k hk
    · rw [h, h2, chainF_sum hv 200 a ha, h1, longL_yes hv]
      have := hsp.hi a ha
      have htop := (top_dist g).le
      omega
    · intro hl
      have e2 : chainF g (tailsC g) 200 (a : Int) = (a : Int) :: chainF g (tailsC g) 199 (linkN g (tailsC g) (a : Int) (gi (tailsC g) a - timeOf g a)) := by
        exact chainF_succ _ _ _ _
      have e3 : L[0] = (a : Int) := by
        have e4 := h.trans (h2.trans e2)
        subst e4
        rfl
      rw [e3, Int.toNat_natCast]
      cases hn : need g a with
      | nil => rfl
      | cons x r =>
        exfalso
        have hx : x ∈ need g a := by rw [hn]; simp
        have hr := fine_need hF hx
        have h3 := hsp.toTailMid.isTail x.toNat (by omega)
        have h4 := le_maxL (List.mem_map_of_mem (f := gi (tailsC g)) (mem_users ha hx hr.1))
        have h5 := fine_time hF (i := x.toNat) (by omega)
        have h6 : gi (tailsC g) x.toNat ≤ longC g := by
          unfold longC
          rw [gi_at (by rw [hsp.len]; omega)]
          exact le_maxL (List.getElem_mem _)
        omega
theorem slack_at {g : List T} (hv : valid g = true) {i : Nat} (hi : i < g.length) : gi (slackL g) i = longC g - gi (headsC g) i - gi (tailsC g) i := by
  rw [slackL_yes hv]
  unfold slackC
  rw [gi_at (by simpa using hi)]
  simp
theorem slack_len {g : List T} (hv : valid g = true) : (slackL g).length = g.length := by rw [slackL_yes hv]; simp [slackC]
theorem sumI_take (L : List Int) (f : Int → Int) (k : Nat) (hk : k < L.length) : sumL ((L.take (k + 1)).map f) = sumL ((L.take k).map f) + f L[k] := by
  rw [List.take_succ_eq_append_getElem hk, List.map_append, sumL_append]
  simp [sumL]
/-- what the law of critical tasks' slack wants -/
theorem chain_slack {g : List T} {L S : List Int} (h : L = chainL g) (h0 : ¬ L.length = 0) (hS : S = slackL g) : S.length = g.length ∧ ∀ k (hk : k < L.length), 0 ≤ L[k] ∧ L[k] < S.length ∧ gi S L[k].toNat = 0 := by
  obtain ⟨hv, _, _, hall, _⟩ := chain_law h h0
  subst hS
  have hl := slack_len hv
  refine ⟨hl, ?_⟩
  intro k hk
  obtain ⟨a, b, _, _, c⟩ := hall k hk
  refine ⟨a, by omega, ?_⟩
  rw [slack_at hv (by omega)]
  omega
end Go.Proofs.Ytihgakbopkaemaa
namespace Go.Proofs.Ytihgakbopkaemaa.Bs
theorem pick_le {p q : Nat → Bool} : ∀ n, (∀ i, i < n → p i = true → q i = true) → (pick n p).length ≤ (pick n q).length := by
  intro n
  induction n with
  | zero => intro _; exact Nat.le_refl _
  | succ n ih =>
    intro h
    have h1 := ih fun i hi => h i (by omega)
    have h2 := h n (by omega)
    rw [pick_succ, pick_succ]
    cases hp : p n
    · cases hq : q n <;> simp <;> omega
    · rw [h2 hp]; simp; omega
theorem pick_lt {p q : Nat → Bool} : ∀ n, (∀ i, i < n → p i = true → q i = true) → (∃ i, i < n ∧ q i = true ∧ p i = false) → (pick n p).length < (pick n q).length := by
  intro n
  induction n with
  | zero => rintro _ ⟨i, hi, _⟩; omega
  | succ n ih =>
    rintro h ⟨i, hi, hq, hp⟩
    by_cases e : i = n
    · subst e
      have h1 := pick_le i fun j hj => h j (by omega)
      rw [pick_succ, pick_succ, hq, hp]
      simp; omega
    · have h1 := ih (fun j hj => h j (by omega)) ⟨i, by omega, hq, hp⟩
      have h2 := h n (by omega)
      rw [pick_succ, pick_succ]
      cases hp : p n
      · cases hq : q n <;> simp <;> omega
      · rw [h2 hp]; simp; omega
/-- what the law of fewer needs wants -/
theorem less_law {g : List T} {L : List Int} {z : Int} (h : L = needsA g z) : ∀ k (hk : k < L.length), (needsA g L[k]).length < L.length ∧ (needsA g L[k]).contains L[k] = false ∧ ∀ y ∈ needsA g L[k], L.contains y = true := by
  intro k hk
  have hz : valid g = true ∧ 0 ≤ z ∧ z < g.length := by
    unfold needsA at h
    split at h
    · assumption
    · subst h; simp at hk
  obtain ⟨hv, h0, h1⟩ := hz
  rw [needsA_yes hv h0 h1] at h
  have hm : L[k] ∈ needs2 g z.toNat := by rw [← h]; exact List.getElem_mem hk
  generalize L[k] = x at *
  subst h
  unfold needs2 at hm
  obtain ⟨v, hv1, hr, rfl⟩ := (mem_pick _ _ _).1 hm
  have hr := reachB_iff.1 hr
  rw [needsA_yes hv (by omega) (by omega), Int.toNat_natCast]
  refine ⟨?_, by rw [needs2_iff hv1]; exact reach_self hv v, ?_⟩
  · refine pick_lt _ (fun i _ hi => reachB_iff.2 (hr.trans (reachB_iff.1 hi))) ⟨v, hv1, reachB_iff.2 hr, reach_self hv v⟩
  · intro y hy
    unfold needs2 at hy
    obtain ⟨u, hu, hru, rfl⟩ := (mem_pick _ _ _).1 hy
    rw [needs2_iff hu]
    exact reachB_iff.2 (hr.trans (reachB_iff.1 hru))
def cnt (n : Nat) (p : Nat → Bool) : Int := (pick n p).length
theorem cnt_succ (n : Nat) (p : Nat → Bool) : cnt (n + 1) p = cnt n p + (if p n then 1 else 0) := by
  unfold cnt
  rw [pick_succ]
  split <;> simp
theorem sum_congr (n : Nat) (f h : Nat → Int) (e : ∀ i, i < n → f i = h i) : sumL ((List.range n).map f) = sumL ((List.range n).map h) := by
  have : (List.range n).map f = (List.range n).map h := List.map_congr_left fun i hi => e i (by simpa using hi)
  rw [this]
theorem sum_range (n : Nat) (f : Nat → Int) : sumL ((List.range (n + 1)).map f) = sumL ((List.range n).map f) + f n := by
  rw [List.range_succ, List.map_append, sumL_append]
  simp [sumL]
theorem cnt_swap (r : Nat → Nat → Bool) : ∀ m n, sumL ((List.range m).map fun i => cnt n (r i)) = sumL ((List.range n).map fun j => cnt m (fun i => r i j)) := by
  intro m n
  induction m with
  | zero =>
    induction n with
    | zero => rfl
    | succ n ih => rw [sum_range, ← ih]; simp [sumL, cnt, pick_zero]
  | succ m ih =>
    rw [sum_range, ih]
    clear ih
    induction n with
    | zero => simp [sumL, cnt, pick_zero]
    | succ n ih =>
      rw [sum_range, sum_range, ← ih, cnt_succ, cnt_succ]
      omega
/-- what the law of counts wants -/
theorem count_law {g : List T} (hv : valid g = true) : sumL ((List.range g.length).map fun i : Nat => ((needsA g (i : Int)).length : Int) - ((usersA g (i : Int)).length : Int)) = 0 := by
  have h1 := cnt_swap (reachB g) g.length g.length
  have key : ∀ n, n ≤ g.length → sumL ((List.range n).map fun i : Nat => ((needsA g (i : Int)).length : Int) - ((usersA g (i : Int)).length : Int)) = sumL ((List.range n).map fun i => cnt g.length (reachB g i)) - sumL ((List.range n).map fun j => cnt g.length (fun i => reachB g i j)) := by
    intro n
    induction n with
    | zero => intro _; simp [sumL]
    | succ n ih =>
      intro hn
      rw [sum_range, sum_range, sum_range, ih (by omega), needsA_yes hv (by omega) (by omega), usersA_yes hv (by omega) (by omega), Int.toNat_natCast]
      unfold cnt needs2 users2
      omega
  rw [key _ (Nat.le_refl _)]
  omega
theorem reach_last {g : List T} {j i : Nat} (h : Reach g j i) : ∃ k, k < g.length ∧ (i : Int) ∈ need g k := by
  induction h with
  | one h => exact ⟨_, (Reach.one h).src, h⟩
  | via _ _ ih => exact ih
/-- what the law of the last tasks wants -/
theorem last_law {g : List T} {L : List Int} (h : L = if valid g then tailsC g else []) (hl : L.length = g.length) : ∀ i (hi : i < g.length) (hi' : i < L.length), (((usersA g (i : Int)).length : Int) == 0) = (L[i] == g[i].time) := by
  intro i hi hi'
  obtain ⟨hv, rfl⟩ := valid_of_len h hl hi
  have hF := valid_fine hv
  have hsp := tailsC_spec hF (valid_full hv)
  have ht := hsp.toTailMid.isTail i hi
  rw [usersA_yes hv (by omega) (by omega), Int.toNat_natCast, ← gi_at hi', ← time_at hi, Bool.eq_iff_iff]
  simp only [beq_iff_eq]
  constructor
  · intro h0
    rw [ht]
    rcases maxL_mem ((usersOf g i).map (gi (tailsC g))) with h2 | h2
    · omega
    · exfalso
      obtain ⟨u, hu, _⟩ := List.mem_map.1 h2
      rw [mem_usersOf] at hu
      have h3 : (u : Int) ∈ users2 g i := by unfold users2; exact (mem_pick_nat _ _ _).2 ⟨hu.1, reachB_iff.2 (.one hu.2)⟩
      rw [List.eq_nil_of_length_eq_zero (by omega : (users2 g i).length = 0)] at h3
      simp at h3
  · intro he
    have h4 : (users2 g i).length = 0 := by
      cases hn : users2 g i with
      | nil => rfl
      | cons x r =>
        exfalso
        have hx : x ∈ users2 g i := by rw [hn]; simp
        unfold users2 at hx
        obtain ⟨j, hj, hr, rfl⟩ := (mem_pick _ _ _).1 hx
        obtain ⟨k, hk, hm⟩ := reach_last (reachB_iff.1 hr)
        have h5 := le_maxL (List.mem_map_of_mem (f := gi (tailsC g)) (mem_usersOf.2 ⟨hk, hm⟩))
        have h6 := hsp.toTailMid.isTail k hk
        have h7 := fine_time hF hk
        have h8 := maxL_nonneg ((usersOf g k).map (gi (tailsC g)))
        omega
    omega
/-- the order of a graph without needs -/
theorem bare_top {g : List T} (hv : valid g = true) : ∀ (O : List Int), O = topL (g.map bare) → O.length = g.length ∧ ∀ k (hk : k < O.length), O[k] = (k : Int) := by
  intro O hO
  have hv' := bare_valid hv
  have e : topL (g.map bare) = top (g.map bare) := by unfold topL; rw [hv']; rfl
  rw [e] at hO
  have hlen : O.length = g.length := by
    rw [hO]
    have := valid_full hv'
    unfold Full at this
    simpa using this
  refine ⟨hlen, ?_⟩
  have hs := top_step (g.map bare)
  rw [← hO] at hs
  have key : ∀ n, ∀ k, k < n → ∀ (hk : k < O.length), O[k] = (k : Int) := by
    intro n
    induction n with
    | zero => intro k hk; omega
    | succ n ih =>
      intro k hkn hk
      by_cases hkn' : k < n
      · exact ih k hkn' hk
      · have hkn2 : k = n := by omega
        subst hkn2
        have h1 := hs k hk
        have hr : 0 ≤ O[k] := by subst hO; exact (top_range hk).1
        obtain ⟨_, hn, _⟩ := okNext_some h1
        have hge : ¬ O[k].toNat < k := by
          intro hlt
          apply hn
          refine List.mem_iff_getElem.2 ⟨O[k].toNat, by rw [List.length_take]; omega, ?_⟩
          rw [List.getElem_take]
          exact ih _ hlt (by omega)
        have hle : ¬ k < O[k].toNat := by
          intro hlt
          have h2 := find_least h1 k hlt
          unfold okNext at h2
          have h3 : (O.take k).contains (k : Int) = false := by
            rw [Bool.eq_false_iff]
            intro hc
            have hc : (k : Int) ∈ O.take k := by simpa using hc
            obtain ⟨j, hj, hje⟩ := List.mem_iff_getElem.1 hc
            rw [List.length_take] at hj
            rw [List.getElem_take, ih j (by omega) (by omega)] at hje
            omega
          have h4 : need (g.map bare) k = [] := by rw [need_at (by simp; omega)]; simp [bare]
          rw [h3, h4] at h2
          simp at h2
        omega
  exact fun k hk => key (k + 1) k (by omega) hk
end Go.Proofs.Ytihgakbopkaemaa.Bs
namespace Go.Proofs.Ytihgakbopkaemaa.Bs
/-- what the law of an order's begin wants -/
theorem begin_law {g : List T} {L : List Int} (h : L = topL g) (h0 : 0 < L.length) : 0 ≤ L[0] ∧ L[0] < g.length ∧ need g L[0].toNat = [] ∧ ∀ i (hi : i < g.length), (i : Int) < L[0] → 0 < g[i].needs.length := by
  have hv : valid g = true := by
    cases hv : valid g
    · unfold topL at h; rw [hv] at h; subst h; simp at h0
    · rfl
  have e : topL g = top g := by unfold topL; rw [hv]; rfl
  rw [e] at h
  subst h
  have hr := top_range (g := g) h0
  have hs := top_step g 0 h0
  rw [List.take_zero] at hs
  refine ⟨hr.1, hr.2, ?_, ?_⟩
  · have := top_behind g 0 h0
    cases hn : need g (top g)[0].toNat with
    | nil => rfl
    | cons x r =>
      have := this x (by rw [hn]; simp)
      simp at this
  · intro i hi hlt
    have h2 := find_least hs i (by omega)
    unfold okNext at h2
    rw [need_at hi] at h2
    cases hn : g[i].needs with
    | nil => rw [hn] at h2; simp at h2
    | cons x r => simp
end Go.Proofs.Ytihgakbopkaemaa.Bs
namespace Go.Proofs.Ytihgakbopkaemaa
open Bs
theorem slack_zero {g : List T} {L : List Int} (h : L = slackL g) (h0 : ¬ L.length = 0) : L.contains 0 = true ∧ L.length = g.length := by
  have hv : valid g = true := by
    cases hv : valid g
    · rw [slackL_no hv] at h; subst h; simp at h0
    · rfl
  rw [slackL_yes hv] at h
  have hl : L.length = g.length := by rw [h]; simp [slackC]
  obtain ⟨i, hi, e⟩ := sum_hit hv (by omega)
  refine ⟨?_, hl⟩
  rw [List.contains_iff_mem, h]
  unfold slackC
  exact List.mem_map.2 ⟨i, by simpa using hi, by omega⟩
end Go.Proofs.Ytihgakbopkaemaa
namespace Go.Proofs.Ytihgakbopkaemaa.Bs
def psum (f : Nat → Int) (n : Nat) (p : Nat → Bool) : Int := sumL ((pick n p).map fun x => f x.toNat)
theorem psum_succ (f : Nat → Int) (n : Nat) (p : Nat → Bool) : psum f (n + 1) p = psum f n p + (if p n then f n else 0) := by
  unfold psum
  rw [pick_succ]
  split <;> simp [sumL_append, sumL]
theorem psum_le {f : Nat → Int} (hf : ∀ i, 0 ≤ f i) {p q : Nat → Bool} : ∀ n, (∀ i, i < n → p i = true → q i = true) → psum f n p ≤ psum f n q := by
  intro n
  induction n with
  | zero => intro _; exact Int.le_refl _
  | succ n ih =>
    intro h
    have h1 := ih fun i hi => h i (by omega)
    have h2 := h n (by omega)
    have h3 := hf n
    rw [psum_succ, psum_succ]
    cases hp : p n
    · cases hq : q n <;> simp <;> omega
    · rw [h2 hp]; simp; omega
theorem psum_more {f : Nat → Int} (hf : ∀ i, 0 ≤ f i) {p q : Nat → Bool} (x : Nat) : ∀ n, (∀ i, i < n → p i = true → q i = true) → x < n → q x = true → p x = false → psum f n p + f x ≤ psum f n q := by
  intro n
  induction n with
  | zero => intro _ h; omega
  | succ n ih =>
    intro h hx hqx hpx
    have h3 := hf n
    rw [psum_succ, psum_succ]
    by_cases e : x = n
    · subst e
      have := psum_le hf x fun i hi => h i (by omega)
      rw [hqx, hpx]
      simp; omega
    · have h1 := ih (fun j hj => h j (by omega)) (by omega) hqx hpx
      have h2 := h n (by omega)
      cases hp : p n
      · cases hq : q n <;> simp <;> omega
      · rw [h2 hp]; simp; omega
theorem head_sum {g : List T} (hv : valid g = true) : ∀ i, i < g.length → gi (headsC g) i ≤ psum (timeOf g) g.length (reachB g i) := by
  have hF := valid_fine hv
  have hg := valid_full hv
  have hh := (headsK_mid hF _ (Nat.le_refl _)).isHead hg
  have ht := time_nonneg hF
  refine need_ind hg (fun i => gi (headsC g) i ≤ psum (timeOf g) g.length (reachB g i)) ?_
  intro i hi ih
  have e : gi (headsC g) i = maxL ((need g i).map fun x => gi (headsC g) x.toNat + timeOf g x.toNat) := hh i hi
  rw [e]
  refine maxL_le (sumL_nonneg _ _ fun x _ => ht _) ?_
  intro y hy
  obtain ⟨x, hx, rfl⟩ := List.mem_map.1 hy
  have hr := fine_need hF hx
  have h1 := ih x hx
  have hrx : Reach g i x.toNat := .one (by rw [Int.toNat_of_nonneg hr.1]; exact hx)
  have h2 := psum_more ht (p := reachB g x.toNat) (q := reachB g i) x.toNat g.length (fun j _ hj => reachB_iff.2 (hrx.trans (reachB_iff.1 hj))) (by omega) (reachB_iff.2 hrx) (reach_self hv _)
  omega
/-- what the law of the time of needs wants -/
theorem needtime_law {g : List T} {L H : List Int} {v : Nat} (h : L = needsA g v) (hH : H = if valid g then headsC g else []) (hv : valid g = true) (hz : v < g.length) :
    H.length = g.length ∧ L.length ≤ 8 ∧ (∀ k (hk : k < L.length), 0 ≤ L[k] ∧ L[k] < g.length ∧ 1 ≤ timeOf g L[k].toNat ∧ timeOf g L[k].toNat ≤ 20) ∧
    gi H v ≤ sumL (L.map fun x => timeOf g x.toNat) ∧ decide (0 < gi H v) = decide (0 < sumL (L.map fun x => timeOf g x.toNat)) := by
  rw [needsA_yes hv (by omega) (by omega), Int.toNat_natCast] at h
  rw [hv] at hH
  simp only [if_true] at hH
  subst h
  subst hH
  have hF := valid_fine hv
  have hg := valid_full hv
  have hm := headsK_mid hF _ (Nat.le_refl _)
  have hh := hm.isHead hg
  have h8 := fine_len hF
  have hsum := head_sum hv v hz
  have e0 : sumL ((needs2 g v).map fun x => timeOf g x.toNat) = psum (timeOf g) g.length (reachB g v) := rfl
  rw [e0]
  refine ⟨hm.len, by have := needs2_len g v; omega, ?_, hsum, ?_⟩
  · intro k hk
    have hx := List.getElem_mem hk
    generalize (needs2 g v)[k] = x at *
    unfold needs2 at hx
    obtain ⟨u, hu, _, rfl⟩ := (mem_pick _ _ _).1 hx
    have := fine_time hF hu
    rw [Int.toNat_natCast]
    omega
  · have e : gi (headsC g) v = maxL ((need g v).map fun x => gi (headsC g) x.toNat + timeOf g x.toNat) := hh v hz
    cases hn : need g v with
    | nil =>
      have h1 : gi (headsC g) v = 0 := by rw [e, hn]; rfl
      have h2 : psum (timeOf g) g.length (reachB g v) ≤ 0 := by
        have h3 := psum_le (time_nonneg hF) (p := reachB g v) (q := fun _ => false) g.length (by
          intro i _ hr
          have hr := reachB_iff.1 hr
          rw [Reach_iff, hn] at hr
          simp at hr)
        have h4 : ∀ n, psum (timeOf g) n (fun _ => false) = 0 := by
          intro n
          induction n with
          | zero => rfl
          | succ n ih => rw [psum_succ, ih]; simp
        rw [h4] at h3
        exact h3
      have a1 : ¬ 0 < gi (headsC g) v := by omega
      have a2 : ¬ 0 < psum (timeOf g) g.length (reachB g v) := by omega
      simp [a1, a2]
    | cons x r =>
      have hx : x ∈ need g v := by rw [hn]; simp
      have hr := fine_need hF hx
      have h1 := le_maxL (List.mem_map_of_mem (f := fun x : Int => gi (headsC g) x.toNat + timeOf g x.toNat) hx)
      have h2 := fine_time hF (i := x.toNat) (by omega)
      have h3 : 0 ≤ gi (headsC g) x.toNat := hm.lo x.toNat (by omega)
      have h4 : 0 < gi (headsC g) v := by rw [e]; omega
      have h5 : 0 < psum (timeOf g) g.length (reachB g v) := by omega
      simp [h4, h5]
end Go.Proofs.Ytihgakbopkaemaa.Bs
namespace Go.Proofs.Ytihgakbopkaemaa
theorem sumL_take (L : List Int) (f : Int → Int) (k : Nat) (hk : k < L.length) : Bs.sumL ((L.take (k + 1)).map f) = Bs.sumL ((L.take k).map f) + f L[k] := by
  rw [List.take_succ_eq_append_getElem hk, List.map_append, Bs.sumL_append]
  simp [Bs.sumL]
end Go.Proofs.Ytihgakbopkaemaa
namespace Go.Proofs.Ytihgakbopkaemaa.Bs
def setT : List T → Nat → Int → List T
  | [], _, _ => []
  | t :: r, 0, x => { t with time := x } :: r
  | t :: r, i + 1, x => t :: setT r i x
theorem setT_len : ∀ (g : List T) (i : Nat) (x : Int), (setT g i x).length = g.length
  | [], _, _ => rfl
  | _ :: _, 0, _ => rfl
  | _ :: r, i + 1, x => by simp [setT, setT_len r i x]
theorem setT_get : ∀ (g : List T) (i : Nat) (x : Int) (k : Nat), (setT g i x)[k]? = if k = i then (g[k]?).map (fun t => { t with time := x }) else g[k]?
  | [], i, x, k => by simp [setT]
  | t :: r, 0, x, 0 => by simp [setT]
  | t :: r, 0, x, k + 1 => by simp [setT]
  | t :: r, i + 1, x, 0 => by simp [setT]
  | t :: r, i + 1, x, k + 1 => by simp [setT, setT_get r i x k]
theorem setT_need (g : List T) (i : Nat) (x : Int) (k : Nat) : need (setT g i x) k = need g k := by
  unfold need
  rw [setT_get]
  by_cases e : k = i
  · rw [if_pos e]; cases g[k]? <;> rfl
  · rw [if_neg e]
theorem setT_time (g : List T) (i : Nat) (x : Int) (k : Nat) (hk : k < g.length) : timeOf (setT g i x) k = if k = i then x else timeOf g k := by
  unfold timeOf
  rw [setT_get]
  by_cases e : k = i
  · rw [if_pos e, if_pos e, List.getElem?_eq_getElem hk]; rfl
  · rw [if_neg e, if_neg e]
theorem ord_congr {g g' : List T} (hl : g'.length = g.length) (hn : ∀ k, need g' k = need g k) : ∀ n out, ord g' n out = ord g n out := by
  have h1 : ∀ out, nxt g' out = nxt g out := by
    intro out
    unfold nxt
    rw [hl]
    congr 1
    funext i
    unfold okNext
    rw [hn]
  intro n
  induction n with
  | zero => intro out; rfl
  | succ n ih =>
    intro out
    unfold ord
    rw [h1]
    cases nxt g out with
    | none => rfl
    | some i => exact ih _
theorem top_congr {g g' : List T} (hl : g'.length = g.length) (hn : ∀ k, need g' k = need g k) : top g' = top g := by
  unfold top
  rw [hl]
  exact ord_congr hl hn _ _
theorem users_congr {g g' : List T} (hl : g'.length = g.length) (hn : ∀ k, need g' k = need g k) (i : Nat) : usersOf g' i = usersOf g i := by
  unfold usersOf
  rw [hl]
  congr 1
  funext k
  rw [hn]
theorem longC_le {g : List T} {M : Int} (h0 : 0 ≤ M) (hv : valid g = true) (h : ∀ i, i < g.length → gi (tailsC g) i ≤ M) : longC g ≤ M := by
  have hsp := tailsC_spec (valid_fine hv) (valid_full hv)
  refine maxL_le h0 ?_
  intro x hx
  obtain ⟨i, hi, e⟩ := List.mem_iff_getElem.1 hx
  have := h i (by rw [← hsp.len]; exact hi)
  rwa [gi_at hi, e] at this
theorem tail_le_long {g : List T} (hv : valid g = true) {i : Nat} (hi : i < g.length) : gi (tailsC g) i ≤ longC g := by
  have hsp := tailsC_spec (valid_fine hv) (valid_full hv)
  unfold longC
  rw [gi_at (by rw [hsp.len]; exact hi)]
  exact le_maxL (List.getElem_mem _)
/-- task i takes d longer -/
theorem long_upd {g : List T} (hv : valid g = true) {i : Nat} (hi : i < g.length) {d : Int} (hd : 0 ≤ d) (hv' : valid (setT g i (timeOf g i + d)) = true) :
    longC (setT g i (timeOf g i + d)) = max (longC g) (gi (headsC g) i + gi (tailsC g) i + d) := by
  obtain ⟨g', hg'⟩ : ∃ g', g' = setT g i (timeOf g i + d) := ⟨_, rfl⟩
  have hl : g'.length = g.length := by rw [hg']; exact setT_len _ _ _
  have hn : ∀ k, need g' k = need g k := by intro k; rw [hg']; exact setT_need _ _ _ _
  have htm : ∀ k, k < g.length → timeOf g' k = if k = i then timeOf g i + d else timeOf g k := by intro k hk; rw [hg']; exact setT_time _ _ _ _ hk
  rw [← hg'] at hv' ⊢
  clear hg'
  have hF := valid_fine hv
  have hg := valid_full hv
  have hF' := valid_fine hv'
  have hgg := valid_full hv'
  have hm := headsK_mid hF _ (Nat.le_refl _)
  have hh : ∀ j, j < g.length → gi (headsC g) j = maxL ((need g j).map fun x => gi (headsC g) x.toNat + timeOf g x.toNat) := hm.isHead hg
  have hm' := headsK_mid hF' _ (Nat.le_refl _)
  have hh' : ∀ j, j < g'.length → gi (headsC g') j = maxL ((need g' j).map fun x => gi (headsC g') x.toNat + timeOf g' x.toNat) := hm'.isHead hgg
  have ht := (tailsC_spec hF hg).toTailMid.isTail
  have ht' := (tailsC_spec hF' hgg).toTailMid.isTail
  have hu := users_congr hl hn
  have tge : ∀ k, k < g.length → timeOf g k ≤ timeOf g' k := by
    intro k hk
    rw [htm k hk]
    split
    · rename_i e; subst e; omega
    · omega
  have hA : ∀ j, j < g.length → gi (tailsC g) j ≤ gi (tailsC g') j := by
    refine user_ind hg (fun j => gi (tailsC g) j ≤ gi (tailsC g') j) ?_
    intro j hj ih
    rw [ht j hj, ht' j (by omega), hu]
    have h1 : maxL ((usersOf g j).map (gi (tailsC g))) ≤ maxL ((usersOf g j).map (gi (tailsC g'))) := by
      refine maxL_le (maxL_nonneg _) ?_
      intro x hx
      obtain ⟨u, hu1, rfl⟩ := List.mem_map.1 hx
      have h2 := mem_usersOf.1 hu1
      exact Int.le_trans (ih u h2.1 h2.2) (le_maxL (List.mem_map_of_mem hu1))
    have := tge j hj
    omega
  have hH : ∀ j, j < g.length → gi (headsC g) j ≤ gi (headsC g') j := by
    refine need_ind hg (fun j => gi (headsC g) j ≤ gi (headsC g') j) ?_
    intro j hj ih
    rw [hh j hj, hh' j (by omega), hn]
    refine maxL_le (maxL_nonneg _) ?_
    intro y hy
    obtain ⟨x, hx, rfl⟩ := List.mem_map.1 hy
    have hr := fine_need hF hx
    have h1 := ih x hx
    have h2 := tge x.toNat (by omega)
    have h3 := le_maxL (List.mem_map_of_mem (f := fun x : Int => gi (headsC g') x.toNat + timeOf g' x.toNat) hx)
    omega
  have hC : ∀ j, j < g.length → Reach g j i → gi (tailsC g') j = gi (tailsC g) j := by
    refine user_ind hg (fun j => Reach g j i → gi (tailsC g') j = gi (tailsC g) j) ?_
    intro j hj ih hr
    rw [ht j hj, ht' j (by omega), hu, htm j hj, if_neg (fun e => by subst e; exact hr.irrefl hg)]
    rw [maxL_congr _ (gi (tailsC g')) (gi (tailsC g))]
    intro u hu1
    have h2 := mem_usersOf.1 hu1
    exact ih u h2.1 h2.2 (.via h2.2 hr)
  have hI : gi (tailsC g') i = gi (tailsC g) i + d := by
    rw [ht i hi, ht' i (by omega), hu, htm i hi, if_pos rfl, maxL_congr _ (gi (tailsC g')) (gi (tailsC g))]
    · omega
    · intro u hu1
      have h2 := mem_usersOf.1 hu1
      exact hC u h2.1 (.one h2.2)
  have hM : ∀ j, j < g.length → gi (headsC g) j + gi (tailsC g') j ≤ max (longC g) (gi (headsC g) i + gi (tailsC g) i + d) := by
    refine user_ind hg (fun j => gi (headsC g) j + gi (tailsC g') j ≤ max (longC g) (gi (headsC g) i + gi (tailsC g) i + d)) ?_
    intro j hj ih
    by_cases e : j = i
    · subst e
      rw [hI]
      omega
    · have h1 := ht' j (by omega)
      rw [hu, htm j hj, if_neg e] at h1
      have h2 := sum_le hv j hj
      have h3 := ht j hj
      have h4 := maxL_nonneg ((usersOf g j).map (gi (tailsC g)))
      rcases maxL_mem ((usersOf g j).map (gi (tailsC g'))) with h0 | h0
      · omega
      · obtain ⟨u, hu1, hue⟩ := List.mem_map.1 h0
        have h5 := mem_usersOf.1 hu1
        have h6 := ih u h5.1 h5.2
        have h7 := hh u h5.1
        have h8 := le_maxL (List.mem_map_of_mem (f := fun x : Int => gi (headsC g) x.toNat + timeOf g x.toNat) h5.2)
        simp only [Int.toNat_natCast] at h8
        omega
  have hle : longC g' ≤ max (longC g) (gi (headsC g) i + gi (tailsC g) i + d) := by
    have h0 : 0 ≤ longC g := maxL_nonneg _
    refine longC_le (by omega) hv' ?_
    intro j hj
    have h1 := hM j (by omega)
    have h2 : 0 ≤ gi (headsC g) j := hm.lo j (by omega)
    omega
  have hge1 : longC g ≤ longC g' := by
    refine longC_le (maxL_nonneg _) hv ?_
    intro j hj
    exact Int.le_trans (hA j hj) (tail_le_long hv' (by omega))
  have hge2 : gi (headsC g) i + gi (tailsC g) i + d ≤ longC g' := by
    have h1 := sum_le hv' i (by omega)
    have h2 := hH i hi
    omega
  omega
theorem time_at' {g : List T} {i : Nat} (hi : i < g.length) {d : Int} : setT g i (g[i].time + d) = setT g i (timeOf g i + d) := by rw [time_at hi]
/-- what the law of a longer task wants -/
theorem more_law {g : List T} {n : Int} (h : n = longL g) (h0 : ¬ n < 0) : g.length ≤ 8 ∧ n ≤ 200 ∧ 0 ≤ n ∧ ∀ i (hi : i < g.length), 1 ≤ g[i].time ∧ g[i].time ≤ 20 ∧ ∀ d : Int, 0 ≤ d →
    valid (setT g i (g[i].time + d)) = true → longL (setT g i (g[i].time + d)) = max n (gi (headsC g) i + gi (tailsC g) i + d) ∧ gi (headsC g) i + gi (tailsC g) i ≤ n := by
  have hv : valid g = true := by
    cases hv : valid g
    · rw [longL_no hv] at h; omega
    · rfl
  have hF := valid_fine hv
  have h8 := fine_len hF
  rw [longL_yes hv] at h
  have hsp := tailsC_spec hF (valid_full hv)
  have htop := (top_dist g).le
  have hn : longC g ≤ 200 := longC_le (by omega) hv fun i hi => by have := hsp.hi i hi; omega
  refine ⟨h8, by omega, by omega, ?_⟩
  intro i hi
  have ti := fine_time hF hi
  rw [← time_at hi]
  refine ⟨ti.1, ti.2, ?_⟩
  intro d hd hv'
  rw [longL_yes hv', long_upd hv hi hd hv', h]
  exact ⟨rfl, sum_le hv i hi⟩
theorem long_nonneg {g : List T} (hv : valid g = true) : ¬ longL g < 0 := by
  rw [longL_yes hv]
  have : 0 ≤ longC g := maxL_nonneg _
  omega
/-- what the laws of slack want -/
theorem slack_law {g : List T} {L : List Int} (h : L = slackL g) (hl : L.length = g.length) (h0 : 0 < g.length) : ¬ longL g < 0 ∧ ∀ i (hi : i < L.length), 0 ≤ L[i] ∧ L[i] ≤ longL g ∧ gi (headsC g) i + gi (tailsC g) i + L[i] = longL g := by
  have hv : valid g = true := by
    cases hv : valid g
    · rw [slackL_no hv] at h; subst h; simp at hl; omega
    · rfl
  refine ⟨long_nonneg hv, ?_⟩
  intro i hi
  have hi' : i < g.length := by omega
  have e := slack_at hv hi'
  rw [← h, gi_at hi] at e
  have h1 := sum_le hv i hi'
  have hF := valid_fine hv
  have hm := headsK_mid hF _ (Nat.le_refl _)
  have h2 : 0 ≤ gi (headsC g) i := hm.lo i hi'
  have ht := (tailsC_spec hF (valid_full hv)).toTailMid.isTail i hi'
  have h3 := fine_time hF hi'
  have h4 := maxL_nonneg ((usersOf g i).map (gi (tailsC g)))
  rw [longL_yes hv]
  omega
end Go.Proofs.Ytihgakbopkaemaa.Bs
