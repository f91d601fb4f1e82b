/-
  PLAIN MATHEMATICS of graphs of tasks: what the laws of critical chains say. No condition.
-/
import Derived.Test.YtihgakbopkaemaaW22
import Derived.Test.YtihgakbopkaemaaK11
namespace Go.Proofs.Ytihgakbopkaemaa
open Bs
theorem linkN_cases (g : List T) (t : List Int) (v want : Int) : linkN g t v want = -1 ∧ (∀ i, i < g.length → gi t i = want → v ∉ need g i) ∨ ∃ k : Nat, k < g.length ∧ linkN g t v want = k ∧ gi t k = want ∧ v ∈ need g k := by
  unfold linkN firstI
  cases h : (List.range g.length).find? (fun i => gi t i == want && (need g i).contains v) with
  | none =>
    left
    refine ⟨rfl, ?_⟩
    rw [List.find?_eq_none] at h
    intro i hi e hv
    have := h i (by simpa using hi)
    simp [e, hv] at this
  | some k =>
    right
    have h1 := List.mem_of_find?_eq_some h
    have h2 := List.find?_some h
    simp at h1 h2
    exact ⟨k, h1, rfl, h2.1, h2.2⟩
/-- the next link of the chain behind task a, if it has users -/
theorem link_next {g : List T} (hv : valid g = true) {a : Nat} (ha : a < g.length) :
    (gi (tailsC g) a = timeOf g a ∧ linkN g (tailsC g) (a : Int) (gi (tailsC g) a - timeOf g a) = -1) ∨
    ∃ u : Nat, u < g.length ∧ linkN g (tailsC g) (a : Int) (gi (tailsC g) a - timeOf g a) = (u : Int) ∧ gi (tailsC g) u = gi (tailsC g) a - timeOf g a ∧ (a : Int) ∈ need g u := by
  have hF := valid_fine hv
  have hsp := tailsC_spec hF (valid_full hv)
  have ht := hsp.toTailMid.isTail
  rcases linkN_cases g (tailsC g) (a : Int) (gi (tailsC g) a - timeOf g a) with ⟨h1, h2⟩ | ⟨u, hu, h1, h2, h3⟩
  · left
    refine ⟨?_, h1⟩
    have e := ht a ha
    rcases maxL_mem ((usersOf g a).map (gi (tailsC g))) with h0 | h0
    · omega
    · exfalso
      obtain ⟨u, hu, hue⟩ := List.mem_map.1 h0
      rw [mem_usersOf] at hu
      exact h2 u hu.1 (by rw [hue]; omega) hu.2
  · exact .inr ⟨u, hu, h1, h2, h3⟩
theorem chainF_all {g : List T} (hv : valid g = true) (P : Nat → Prop) (hP : ∀ a u : Nat, a < g.length → u < g.length → P a → gi (tailsC g) u = gi (tailsC g) a - timeOf g a → (a : Int) ∈ need g u → P u) :
    ∀ k (a : Nat), a < g.length → P a → ∀ x ∈ chainF g (tailsC g) k (a : Int), ∃ v : Nat, v < g.length ∧ x = (v : Int) ∧ P v := by
  intro k
  induction k with
  | zero => intro a _ _ x hx; simp [chainF] at hx
  | succ k ih =>
    intro a ha hp x hx
    rw [chainF, if_neg (by omega)] at hx
    rw [List.mem_cons] at hx
    rcases hx with rfl | hx
    · exact ⟨a, ha, rfl, hp⟩
    · simp only [Int.toNat_natCast] at hx
      rcases link_next hv ha with ⟨_, h1⟩ | ⟨u, hu, h1, h2, h3⟩
      · rw [h1, chainF_neg _ _ _ (by omega)] at hx
        simp at hx
      · rw [h1] at hx
        exact ih u hu (hP a u ha hu hp h2 h3) x hx
theorem chainF_sum {g : List T} (hv : valid g = true) : ∀ (k a : Nat), a < g.length → gi (tailsC g) a ≤ k → sumL ((chainF g (tailsC g) k (a : Int)).map fun x => timeOf g x.toNat) = gi (tailsC g) a := by
  have hF := valid_fine hv
  have hsp := tailsC_spec hF (valid_full hv)
  intro k
  induction k with
  | zero =>
    intro a ha h
    have h1 := hsp.toTailMid.isTail a ha
    have h2 := fine_time hF ha
    have h3 := maxL_nonneg ((usersOf g a).map (gi (tailsC g)))
    omega
  | succ k ih =>
    intro a ha h
    rw [chainF, if_neg (by omega)]
    simp only [List.map_cons, sumL, Int.toNat_natCast]
    have h2 := fine_time hF ha
    rcases link_next hv ha with ⟨h0, h1⟩ | ⟨u, hu, h1, h3, h4⟩
    · rw [h1, chainF_neg _ _ _ (by omega), h0]
      simp [sumL]
    · rw [h1, ih u hu (by omega), h3]
      omega
theorem chainF_succ (g : List T) (t : List Int) (k a : Nat) : chainF g t (k + 1) (a : Int) = (a : Int) :: chainF g t k (linkN g t (a : Int) (gi t a - timeOf g a)) := by
  rw [chainF, if_neg (by omega)]
  simp
theorem chainF_link {g : List T} (hv : valid g = true) : ∀ (k a : Nat), a < g.length → ∀ C, C = chainF g (tailsC g) k (a : Int) → ∀ i (hi : i + 1 < C.length), C[i] ∈ need g C[i + 1].toNat := by
  intro k
  induction k with
  | zero => intro a _ C hC i hi; subst hC; simp [chainF] at hi
  | succ k ih =>
    intro a ha C hC i hi
    rw [chainF_succ] at hC
    rcases link_next hv ha with ⟨h0, h1⟩ | ⟨u, hu, h1, h3, h4⟩
    · rw [h1, chainF_neg _ _ _ (by omega)] at hC
      subst hC
      simp at hi
    · rw [h1] at hC
      have ih := ih u hu _ rfl
      obtain ⟨D, hD⟩ : ∃ D, D = chainF g (tailsC g) k (u : Int) := ⟨_, rfl⟩
      rw [← hD] at hC ih
      subst hC
      cases i with
      | zero =>
        cases k with
        | zero => subst hD; simp [chainF] at hi
        | succ k =>
          rw [chainF_succ] at hD
          subst hD
          simpa using h4
      | succ i => simpa using ih i (by simpa using hi)
theorem chain_start {g : List T} (hv : valid g = true) : (g.length = 0 ∧ chainC g = []) ∨ ∃ a : Nat, a < g.length ∧ gi (tailsC g) a = longC g ∧ chainC g = chainF g (tailsC g) 200 (a : Int) := by
  unfold chainC linkF
  rcases firstI_cases g.length (fun i => gi (tailsC g) i == longC g) with h | ⟨a, ha, h, hp⟩
  · by_cases h0 : g.length = 0
    · left
      refine ⟨h0, ?_⟩
      rw [h, chainF_neg _ _ _ (by omega)]
    · exfalso
      obtain ⟨i, hi, e⟩ := sum_hit hv (by omega)
      have hF := valid_fine hv
      have hsp := tailsC_spec hF (valid_full hv)
      rcases maxL_mem (tailsC g) with h1 | h1
      · have h2 := hsp.toTailMid.isTail i hi
        have h3 := fine_time hF hi
        have h4 := maxL_nonneg ((usersOf g i).map (gi (tailsC g)))
        have h5 : gi (tailsC g) i ≤ maxL (tailsC g) := by
          rw [gi_at (by rw [hsp.len]; exact hi)]
          exact le_maxL (List.getElem_mem _)
        omega
      · obtain ⟨j, hj, ej⟩ := List.mem_iff_getElem.1 h1
        have hj' : j < g.length := by rw [← hsp.len]; exact hj
        unfold firstI at h
        cases hf : (List.range g.length).find? (fun i => gi (tailsC g) i == longC g) with
        | none =>
          rw [List.find?_eq_none] at hf
          have := hf j (by simpa using hj')
          rw [gi_at hj, ej] at this
          simp [longC] at this
        | some k => rw [hf] at h; simp at h
  · right
    refine ⟨a, ha, by simpa using hp, by rw [h]⟩
theorem chain_crit {g : List T} (hv : valid g = true) : ∀ x ∈ chainC g, ∃ v : Nat, v < g.length ∧ x = (v : Int) ∧ gi (headsC g) v + gi (tailsC g) v = longC g := by
  have hF := valid_fine hv
  have hg := valid_full hv
  have hm := headsK_mid hF _ (Nat.le_refl _)
  have hh := hm.isHead hg
  intro x hx
  rcases chain_start hv with ⟨_, h⟩ | ⟨a, ha, h1, h2⟩
  · rw [h] at hx; simp at hx
  · rw [h2] at hx
    refine chainF_all hv (fun v => gi (headsC g) v + gi (tailsC g) v = longC g) ?_ 200 a ha ?_ x hx
    · intro a u ha hu hp h3 h4
      have e : gi (headsC g) u = maxL ((need g u).map fun x => gi (headsC g) x.toNat + timeOf g x.toNat) := hh u hu
      have h5 := le_maxL (List.mem_map_of_mem (f := fun x : Int => gi (headsC g) x.toNat + timeOf g x.toNat) h4)
      have h6 := sum_le hv u hu
      simp only [Int.toNat_natCast] at h5
      omega
    · have h3 := sum_le hv a ha
      have h4 : 0 ≤ gi (headsC g) a := hm.lo a ha
      omega
/-- what the laws of critical chains want -/
theorem chain_law {g : List T} {L : List Int} (h : L = chainL g) (h0 : ¬ L.length = 0) : valid g = true ∧ L.length ≤ 200 ∧ g.length ≤ 8 ∧
    (∀ k (hk : k < L.length), 0 ≤ L[k] ∧ L[k] < g.length ∧ 1 ≤ timeOf g L[k].toNat ∧ timeOf g L[k].toNat ≤ 20 ∧ gi (headsC g) L[k].toNat + gi (tailsC g) L[k].toNat = longC g) ∧
    (∀ k (hk : k + 1 < L.length), L[k] ∈ need g L[k + 1].toNat) ∧ sumL (L.map fun x => timeOf g x.toNat) = longL g ∧ ∀ (h0 : 0 < L.length), need g L[0].toNat = [] := by
  have hv : valid g = true := by
    cases hv : valid g
    · rw [chainL_no hv] at h; subst h; simp at h0
    · rfl
  rw [chainL_yes hv] at h
  have hF := valid_fine hv
  have h8 := fine_len hF
  have hsp := tailsC_spec hF (valid_full hv)
  rcases chain_start hv with ⟨_, h1⟩ | ⟨a, ha, h1, h2⟩
  · rw [h1] at h; subst h; simp at h0
  · have hc := chain_crit hv
    rw [← h] at hc
    refine ⟨hv, ?_, h8, ?_, ?_, ?_, ?_⟩
    · rw [h, h2]; exact chainF_len _ _ _ _
    · intro k hk
      obtain ⟨v, hv1, e, hp⟩ := hc L[k] (List.getElem_mem hk)
      rw [e, Int.toNat_natCast]
      have := fine_time hF hv1
      exact ⟨by omega, by omega, this.1, this.2, hp⟩
    · intro k hk
      exact chainF_link hv 200 a ha L (h.trans h2) k hk
    · rw [h, h2, chainF_sum hv 200 a ha, h1, longL_yes hv]
      have := hsp.hi a ha
      have htop := (top_dist g).le
      omega
    · intro hl
      have e2 : chainF g (tailsC g) 200 (a : Int) = (a : Int) :: chainF g (tailsC g) 199 (linkN g (tailsC g) (a : Int) (gi (tailsC g) a - timeOf g a)) := by
        exact chainF_succ _ _ _ _
      have e3 : L[0] = (a : Int) := by
        have e4 := h.trans (h2.trans e2)
        subst e4
        rfl
      rw [e3, Int.toNat_natCast]
      cases hn : need g a with
      | nil => rfl
      | cons x r =>
        exfalso
        have hx : x ∈ need g a := by rw [hn]; simp
        have hr := fine_need hF hx
        have h3 := hsp.toTailMid.isTail x.toNat (by omega)
        have h4 := le_maxL (List.mem_map_of_mem (f := gi (tailsC g)) (mem_users ha hx hr.1))
        have h5 := fine_time hF (i := x.toNat) (by omega)
        have h6 : gi (tailsC g) x.toNat ≤ longC g := by
          unfold longC
          rw [gi_at (by rw [hsp.len]; omega)]
          exact le_maxL (List.getElem_mem _)
        omega
theorem slack_at {g : List T} (hv : valid g = true) {i : Nat} (hi : i < g.length) : gi (slackL g) i = longC g - gi (headsC g) i - gi (tailsC g) i := by
  rw [slackL_yes hv]
  unfold slackC
  rw [gi_at (by simpa using hi)]
  simp
theorem slack_len {g : List T} (hv : valid g = true) : (slackL g).length = g.length := by rw [slackL_yes hv]; simp [slackC]
theorem sumI_take (L : List Int) (f : Int → Int) (k : Nat) (hk : k < L.length) : sumL ((L.take (k + 1)).map f) = sumL ((L.take k).map f) + f L[k] := by
  rw [List.take_succ_eq_append_getElem hk, List.map_append, sumL_append]
  simp [sumL]
/-- what the law of critical tasks' slack wants -/
theorem chain_slack {g : List T} {L S : List Int} (h : L = chainL g) (h0 : ¬ L.length = 0) (hS : S = slackL g) : S.length = g.length ∧ ∀ k (hk : k < L.length), 0 ≤ L[k] ∧ L[k] < S.length ∧ gi S L[k].toNat = 0 := by
  obtain ⟨hv, _, _, hall, _⟩ := chain_law h h0
  subst hS
  have hl := slack_len hv
  refine ⟨hl, ?_⟩
  intro k hk
  obtain ⟨a, b, _, _, c⟩ := hall k hk
  refine ⟨a, by omega, ?_⟩
  rw [slack_at hv (by omega)]
  omega
end Go.Proofs.Ytihgakbopkaemaa
