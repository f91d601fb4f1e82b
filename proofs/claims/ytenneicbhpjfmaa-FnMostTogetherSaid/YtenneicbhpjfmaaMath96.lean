/-
  PLAIN MATHEMATICS of logs: a log with events has tasks that run together. No condition.
-/
import Derived.Test.YtenneicbhpjfmaaMath93
import Derived.Test.YtenneicbhpjfmaaK2
namespace Go.Proofs.Ytenneicbhpjfmaa.Bs
theorem bgM_block {l : List E} {x : Int} (t : Int) : ∀ k, (∀ j, j < k → (ge l j).at_ = x) → bgM l t k = -1 ∨ bgM l t k = x := by
  intro k
  induction k with
  | zero => intro _; left; rfl
  | succ k ih =>
    intro h
    show (if _ then _ else _ : Int) = -1 ∨ (if _ then _ else _ : Int) = x
    split
    · right; exact h k (by omega)
    · exact ih (fun j hj => h j (by omega))
theorem begin_block {g : List T} {l : List E} (hF : fine g = true) {k : Nat} (he : evOk g l k = true) (hb : ∀ j, j < k + 1 → (ge l j).at_ = (ge l 0).at_) : (ge l k).over = false := by
  have h1 := evOk_iff.1 he
  cases ho : (ge l k).over
  · rfl
  · have h2 := (fitE_over ho).1 h1.2.2.2.2.2
    have h3 := bgM_block (l := l) (x := (ge l 0).at_) (ge l k).task k (fun j hj => hb j (by omega))
    have h4 := hb k (by omega)
    obtain ⟨v, hv⟩ : ∃ v : Nat, (ge l k).task = (v : Int) := ⟨(ge l k).task.toNat, by omega⟩
    have hvl : v < g.length := by omega
    have h5 := fine_time' hF hvl
    have h6 := h2.2.2
    rw [hv, Int.toNat_natCast, timeOf_eq hvl] at h6
    rw [hv] at h3
    have h7 := h2.1
    rw [hv] at h7
    omega
theorem mt_inv {g : List T} {l : List E} (h : logV g l = true) (h0 : 0 < l.length) : ∀ k, k ≤ l.length → 1 ≤ mtK l k ∨ (k < l.length ∧ rnK l k = k ∧ ∀ j, j < k + 1 → (ge l j).at_ = (ge l 0).at_) := by
  obtain ⟨hgv, _, hev⟩ := logV_iff.1 h
  have hF := valid_fine hgv
  intro k
  induction k with
  | zero =>
    intro _
    right
    refine ⟨h0, rfl, fun j hj => ?_⟩
    obtain rfl : j = 0 := by omega
    rfl
  | succ k ih =>
    intro hk
    have hms : mtK l (k + 1) = if lastT l k then max (mtK l k) (rnK l (k + 1)) else mtK l k := rfl
    rcases ih (by omega) with h1 | ⟨_, h2, h3⟩
    · left
      rw [hms]
      split
      · rw [Int.max_def]; split <;> omega
      · exact h1
    · have he := evK_at (k := k) (by omega) hev
      have ho := begin_block hF he h3
      have hr := rnK_succ l k
      rw [ho] at hr
      simp only [Bool.false_eq_true, if_false] at hr
      cases hl : lastT l k
      · right
        have hl2 : (decide (k + 1 = l.length) || decide ((ge l k).at_ < (ge l (k + 1)).at_)) = false := hl
        rw [Bool.or_eq_false_iff, decide_eq_false_iff_not, decide_eq_false_iff_not] at hl2
        have hk1 : k + 1 < l.length := by omega
        refine ⟨hk1, by rw [hr, h2]; omega, fun j hj => ?_⟩
        by_cases hjk : j < k + 1
        · exact h3 j hjk
        · obtain rfl : j = k + 1 := by omega
          have h4 := (evOk_iff.1 (evK_at hk1 hev)).2.2.1
          have h5 : nwK l (k + 1) = (ge l k).at_ := rfl
          have h6 := h3 k (by omega)
          omega
      · left
        rw [hms, hl, if_pos rfl, hr, h2, Int.max_def]
        split <;> omega
theorem mt_pos {g : List T} {l : List E} (h : logV g l = true) (h0 : 0 < l.length) : 1 ≤ mtK l l.length := by
  rcases mt_inv h h0 l.length (Nat.le_refl _) with h1 | ⟨h1, _⟩
  · exact h1
  · omega
theorem mt_law {g : List T} {l : List E} (h : logV g l = true) : 0 ≤ mtL g l ∧ mtL g l ≤ g.length ∧ (1 ≤ mtL g l ↔ 0 < l.length) := by
  obtain ⟨hgv, _, hev⟩ := logV_iff.1 h
  have hb := mtK_b (valid_fine hgv) l.length hev
  rw [mtL_yes h]
  refine ⟨hb.1, hb.2, fun hx => ?_, fun hx => mt_pos h hx⟩
  rcases Nat.eq_zero_or_pos l.length with h0 | h0
  · rw [h0] at hx
    simp [mtK] at hx
  · exact h0
end Go.Proofs.Ytenneicbhpjfmaa.Bs
