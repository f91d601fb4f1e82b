/-
  PLAIN MATHEMATICS of plans: they are valid, never idle, and end with the sum of all times at the latest. No condition.
-/
import Derived.Test.YtfholjgndpefdaaMath110
import Derived.Test.YtfholjgndpefdaaMath45
namespace Go.Proofs.Ytfholjgndpefdaa.Bs
theorem list_giZ {l l' : List Int} (h : l.length = l'.length) (hg : ∀ i, i < l.length → giZ l i = giZ l' i) : l = l' := by
  apply List.ext_getElem h
  intro i h1 h2
  have := hg i h1
  rwa [giZ_at h1, giZ_at h2] at this
theorem plan_or {g : List T} {m : List Int} {wk : Int} (h : canV g m wk = true) {k : Nat} {i : Nat} : ∀ d, k + d ≤ 200 → giZ (planK g m wk (k + d)) i = giZ (planK g m wk k) i ∨ (giZ (planK g m wk k) i = 200 ∧ (k : Int) ≤ giZ (planK g m wk (k + d)) i) := by
  have hF := valid_fine (canV_iff.1 h).1
  intro d
  induction d with
  | zero => intro _; exact .inl rfl
  | succ d ih =>
    intro hd
    have h1 := ih (by omega)
    have hj := PJ.all h (k + d) (by omega)
    have h2 : giZ (planK g m wk (k + d + 1)) i = _ := step_at (g := g) (m := m) (S := planK g m wk (k + d)) (wk := wk) (now := k + d) hF hj.pi.len i
    rw [show k + (d + 1) = k + d + 1 from rfl, h2]
    by_cases hm : (i : Int) ∈ planNext g m wk (planK g m wk (k + d)) ((k + d : Nat) : Int)
    · rw [if_pos hm]
      have := next_free hF hm
      right
      rcases h1 with e | e
      · exact ⟨by omega, by omega⟩
      · exact ⟨e.1, by omega⟩
    · rw [if_neg hm]
      exact h1
theorem plan_keep {g : List T} {m : List Int} {wk : Int} (h : canV g m wk = true) {k k' : Nat} (hk : k ≤ k') (hk' : k' ≤ 200) {i : Nat} (_hi : i < g.length) (hb : giZ (planK g m wk k) i ≠ 200) : giZ (planK g m wk k') i = giZ (planK g m wk k) i := by
  have := plan_or h (k := k) (i := i) (k' - k) (by omega)
  rw [show k + (k' - k) = k' from by omega] at this
  rcases this with e | e
  · exact e
  · exact absurd e.1 hb
/-- all is done at a time -/
def allAt (g : List T) (m : List Int) (wk : Int) (t : Nat) : Prop := ∀ i, i < g.length → giZ (planK g m wk t) i + timeOf g i ≤ t
theorem run_plan {g : List T} {m : List Int} {wk : Int} (h : canV g m wk = true) {t : Nat} (ht : t < 200) (hn : ¬ allAt g m wk t) : runAt g (planC g m wk) t ≠ [] := by
  obtain ⟨hv, hm, hw, _⟩ := canV_iff.1 h
  have hF := valid_fine hv
  have hj := PJ.all h t (by omega)
  intro he
  have hin : ∀ i, i < g.length → giZ (planC g m wk) i ≤ t → (t : Int) < giZ (planC g m wk) i + timeOf g i → False := by
    intro i hi h1 h2
    have : (i : Int) ∈ runAt g (planC g m wk) t := mem_runAt.2 ⟨i, hi, h1, h2, rfl⟩
    rw [he] at this
    cases this
  apply hn
  refine plan_idle hv hm hw hj ht ?_ ?_
  · rw [List.eq_nil_iff_forall_not_mem]
    intro x hx
    obtain ⟨j, hjl, h1, h2, rfl⟩ := mem_runAt.1 hx
    have e : giZ (planC g m wk) j = _ := plan_keep h (show t ≤ 200 by omega) (Nat.le_refl _) hjl (by omega)
    exact hin j hjl (by omega) (by omega)
  · rw [List.eq_nil_iff_forall_not_mem]
    intro x hx
    have hxb := next_in hF x hx
    obtain ⟨j, rfl⟩ : ∃ j : Nat, x = j := ⟨x.toNat, by omega⟩
    have h2 : giZ (planK g m wk (t + 1)) j = _ := step_at (g := g) (m := m) (S := planK g m wk t) (wk := wk) (now := t) hF hj.pi.len j
    rw [if_pos hx] at h2
    have e : giZ (planC g m wk) j = _ := plan_keep h (show t + 1 ≤ 200 by omega) (Nat.le_refl _) (show j < g.length by omega) (by omega)
    have := fine_time hF (i := j) (by omega)
    exact hin j (by omega) (by omega) (by omega)
theorem plan_clk {g : List T} {m : List Int} {wk : Int} (h : canV g m wk = true) : clkV g (planC g m wk) = true := by
  have hj : PJ g m wk (planC g m wk) 200 := PJ.all h 200 (Nat.le_refl _)
  rw [clkV_iff]
  refine ⟨hj.pi.len, fun i hi => ?_⟩
  have := hj.pi.st i (by rw [hj.pi.len] at hi; exact hi)
  omega
theorem rs_cut {f : Nat → Int} (hf : ∀ i, 0 ≤ f i) {a : Nat} : ∀ d, rs a f ≤ rs (a + d) f := by
  intro d
  induction d with
  | zero => exact Int.le_refl _
  | succ d ih => rw [show a + (d + 1) = a + d + 1 from rfl, rs_succ]; have := hf (a + d); omega
theorem busy_sum {g : List T} {S : List Int} (hF : fine g = true) (hc : clkV g S = true) {e : Nat} (he : e ≤ 220) (hb : ∀ t, t < e → runAt g S (t : Int) ≠ []) : (e : Int) ≤ sumT g := by
  have h1 := run_time (E := 220) hF hc (fun i hi => by have := clk_at hc i; have := time_b hF i; omega)
  have h2 := rs_cut (f := fun t => ((runAt g S (t : Int)).length : Int)) (fun _ => by omega) (a := e) (220 - e)
  rw [show e + (220 - e) = 220 from by omega, h1] at h2
  have h3 := rs_le (f := fun _ => (1 : Int)) (h := fun t => ((runAt g S (t : Int)).length : Int)) e (fun t ht => by
    have := hb t ht
    have : 0 < (runAt g S (t : Int)).length := List.length_pos_iff.2 this
    show (1 : Int) ≤ ((runAt g S (t : Int)).length : Int)
    omega)
  rw [rs_const] at h3
  omega
theorem all_ex {g : List T} {m : List Int} {wk : Int} (h : canV g m wk = true) : ∃ t : Nat, (t : Int) ≤ sumT g ∧ t ≤ 160 ∧ allAt g m wk t ∧ ∀ u, u < t → ¬ allAt g m wk u := by
  have hF := valid_fine (canV_iff.1 h).1
  have hs := sumT_b2 hF
  have h1 : ∃ t : Nat, t ≤ 160 ∧ allAt g m wk t := by
    apply Classical.byContradiction
    intro hno
    have := busy_sum (e := 161) hF (plan_clk h) (by omega) (fun t ht => run_plan h (by omega) (fun ha => hno ⟨t, by omega, ha⟩))
    omega
  obtain ⟨t0, h160, ht0⟩ := h1
  have h2 : ∀ n : Nat, n ≤ t0 → ∃ t : Nat, t ≤ t0 ∧ allAt g m wk t ∧ (∀ u, u < t → ¬ allAt g m wk u) ∨ ∀ u, u < n → ¬ allAt g m wk u := by
    intro n
    induction n with
    | zero => intro _; exact ⟨0, .inr (fun u hu => by omega)⟩
    | succ n ih =>
      intro hn
      obtain ⟨t, ht⟩ := ih (by omega)
      rcases ht with ht | ht
      · exact ⟨t, .inl ht⟩
      · by_cases ha : allAt g m wk n
        · exact ⟨n, .inl ⟨by omega, ha, ht⟩⟩
        · exact ⟨0, .inr (fun u hu => by rcases Nat.lt_succ_iff_lt_or_eq.1 hu with e | e; (· exact ht u e); subst e; exact ha)⟩
  obtain ⟨t, ht⟩ := h2 t0 (Nat.le_refl _)
  rcases ht with ⟨a, b, c⟩ | ht
  · refine ⟨t, ?_, by omega, b, c⟩
    exact busy_sum hF (plan_clk h) (by omega) (fun u hu => run_plan h (by omega) (c u hu))
  · refine ⟨t0, ?_, h160, ht0, ht⟩
    exact busy_sum hF (plan_clk h) (by omega) (fun u hu => run_plan h (by omega) (ht u hu))
theorem plan_end {g : List T} {m : List Int} {wk : Int} (h : canV g m wk = true) : endC g (planC g m wk) ≤ sumT g ∧ (∀ i, i < g.length → giZ (planC g m wk) i ≠ 200) ∧ ∀ t : Nat, (t : Int) < endC g (planC g m wk) → runAt g (planC g m wk) t ≠ [] := by
  have hF := valid_fine (canV_iff.1 h).1
  obtain ⟨t, hs, h160, ha, hb⟩ := all_ex h
  have hk : ∀ i, i < g.length → giZ (planC g m wk) i = giZ (planK g m wk t) i := fun i hi => by
    have := ha i hi
    have := time_b hF i
    exact plan_keep h (show t ≤ 200 by omega) (Nat.le_refl _) hi (by omega)
  have he : endC g (planC g m wk) ≤ t := end_le (by omega) (fun i hi => by rw [hk i hi]; exact ha i hi)
  refine ⟨by omega, fun i hi => ?_, fun u hu => run_plan h (by omega) (hb u (by omega))⟩
  have := ha i hi
  have := time_b hF i
  rw [hk i hi]
  omega
theorem plan_valid {g : List T} {m : List Int} {wk : Int} (h : canV g m wk = true) : stV g m wk (planC g m wk) = true := by
  have hj : PJ g m wk (planC g m wk) 200 := PJ.all h 200 (Nat.le_refl _)
  have hb := (plan_end h).2.1
  rw [stV_iff]
  refine ⟨h, plan_clk h, ?_⟩
  rw [stK_iff]
  intro i hi
  exact ⟨needOk_iff.2 (hj.nd i hi (hb i hi)), hj.ft i hi (hb i hi)⟩
theorem planL_valid {g : List T} {m : List Int} {wk : Int} (h : canV g m wk = true) : stV g m wk (planL g m wk) = true := by rw [planL_yes h]; exact plan_valid h
theorem planL_can {g : List T} {m S : List Int} {wk : Int} (hS : S = planL g m wk) (h0 : ¬ S.length = 0) : canV g m wk = true ∧ S = planC g m wk ∧ 0 < g.length := by
  cases h : canV g m wk
  · rw [planL_no h] at hS; rw [hS] at h0; exact absurd rfl h0
  · rw [planL_yes h] at hS
    obtain ⟨hv, hm, _⟩ := canV_iff.1 h
    refine ⟨rfl, hS, ?_⟩
    have := planC_len (wk := wk) hv hm
    rw [hS] at h0
    omega
/-- nothing changes until the next end -/
theorem plan_skip {g : List T} {m : List Int} {wk : Int} (h : canV g m wk = true) {t : Nat} : ∀ d, t + 1 + d ≤ 200 → (∀ i, i < g.length → giZ (planK g m wk (t + 1)) i ≠ 200 → giZ (planK g m wk (t + 1)) i + timeOf g i ≤ t ∨ ((t + 1 + d : Nat) : Int) ≤ giZ (planK g m wk (t + 1)) i + timeOf g i) → planK g m wk (t + 1 + d) = planK g m wk (t + 1) := by
  have hF := valid_fine (canV_iff.1 h).1
  intro d
  induction d with
  | zero => intro _ _; rfl
  | succ d ih =>
    intro hd hno
    have e := ih (by omega) (fun i hi hb => by rcases hno i hi hb with a | a; (· exact .inl a); right; omega)
    have hj := PJ.all h t (by omega)
    have hq := plan_quiet (wk := wk) hF hj.pi (show t < t + 1 + d by omega) (by omega) (fun i hi hb => by
      rcases hno i hi hb with a | a
      · exact .inl a
      · right
        show ((t + 1 + d : Nat) : Int) < giZ (planK g m wk (t + 1)) i + timeOf g i
        omega)
    show planStep g m wk (planK g m wk (t + 1 + d)) ((t + 1 + d : Nat) : Int) = _
    rw [e]
    unfold planStep
    rw [show planNext g m wk (planK g m wk (t + 1)) ((t + 1 + d : Nat) : Int) = [] from hq]
    rfl
/-- behind the last end nothing changes -/
theorem plan_stop {g : List T} {m : List Int} {wk : Int} (h : canV g m wk = true) {t : Nat} (ht : t ≤ 200) (hb : ∀ i, i < g.length → giZ (planK g m wk t) i ≠ 200) : planC g m wk = planK g m wk t := by
  have a := (PJ.all h 200 (Nat.le_refl _)).pi.len
  have b := (PJ.all h t ht).pi.len
  refine list_giZ (by show (planK g m wk 200).length = _; omega) (fun i hi => ?_)
  exact plan_keep h ht (Nat.le_refl _) (by change i < (planK g m wk 200).length at hi; omega) (hb i (by change i < (planK g m wk 200).length at hi; omega))
end Go.Proofs.Ytfholjgndpefdaa.Bs
