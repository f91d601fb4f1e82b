/-
  PLAIN MATHEMATICS of logs: behind the end of beginnings there are no events. No condition.
-/
import Derived.Test.YtihgakbopkaemaaMath94
import Derived.Test.YtihgakbopkaemaaK16
namespace Go.Proofs.Ytihgakbopkaemaa.Bs
theorem ovE_none {g : List T} {S : List Int} {t : Int} : ∀ k, (∀ i, i < k → giZ S i + timeOf g i ≠ t) → ovE g S t k = [] := by
  intro k
  induction k with
  | zero => intro _; rfl
  | succ k ih =>
    intro h
    show (if giZ S k + timeOf g k == t then _ else _ : List E) = []
    rw [if_neg (by rw [beq_iff_eq]; exact h k (by omega))]
    exact ih (fun i hi => h i (by omega))
theorem bgE_none {S : List Int} {t : Int} : ∀ k, (∀ i, i < k → giZ S i ≠ t) → bgE S t k = [] := by
  intro k
  induction k with
  | zero => intro _; rfl
  | succ k ih =>
    intro h
    show (if giZ S k == t then _ else _ : List E) = []
    rw [if_neg (by rw [beq_iff_eq]; exact h k (by omega))]
    exact ih (fun i hi => h i (by omega))
theorem lgK_end {g : List T} {S : List Int} {e : Nat} (h : ∀ i, i < g.length → giZ S i + timeOf g i ≤ (e : Int) ∧ giZ S i ≤ (e : Int)) : ∀ d, lgK g S (e + 1 + d) = lgK g S (e + 1) := by
  intro d
  induction d with
  | zero => rfl
  | succ d ih =>
    show lgK g S (e + 1 + d) ++ (ovE g S ((e + 1 + d : Nat) : Int) g.length ++ bgE S ((e + 1 + d : Nat) : Int) g.length) = _
    rw [ih, ovE_none g.length (fun i hi => by have := h i hi; omega), bgE_none g.length (fun i hi => by have := h i hi; omega)]
    simp
/-- the log up to the end is the whole log -/
theorem logL_end {g : List T} {m S : List Int} {wk : Int} (hv : stV g m wk S = true) : ∃ e : Nat, endT g m wk S = (e : Int) ∧ e ≤ 220 ∧ logL g m wk S = lgK g S (e + 1) := by
  obtain ⟨hcan, hk, _⟩ := stV_iff.1 hv
  have hF := valid_fine (canV_iff.1 hcan).1
  have h0 := end_nonneg g S
  have hle : endC g S ≤ 220 := by
    refine end_le (by omega) ?_
    intro i hi
    have h1 := clk_at hk i
    have h2 := fine_time hF hi
    omega
  refine ⟨(endC g S).toNat, by rw [endT_yes hv]; omega, by omega, ?_⟩
  rw [logL_yes hv]
  have hb : ∀ i, i < g.length → giZ S i + timeOf g i ≤ ((endC g S).toNat : Int) ∧ giZ S i ≤ ((endC g S).toNat : Int) := by
    intro i hi
    have h1 := end_ge (S := S) hi
    have h2 := fine_time hF hi
    omega
  have := lgK_end hb (220 - (endC g S).toNat)
  rwa [show (endC g S).toNat + 1 + (220 - (endC g S).toNat) = 221 from by omega] at this
end Go.Proofs.Ytihgakbopkaemaa.Bs
