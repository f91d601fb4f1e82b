/-
  PLAIN MATHEMATICS of logs: what is over at a time is what can be done, grows with the time, and is nothing before 0. No condition.
-/
import Derived.Test.YtihgakbopkaemaaMath93
import Derived.Test.YtihgakbopkaemaaK2
namespace Go.Proofs.Ytihgakbopkaemaa.Bs
theorem at_mono {g : List T} {l : List E} (h : evK g l l.length = true) {k : Nat} : ∀ n, k + n < l.length → (ge l k).at_ ≤ (ge l (k + n)).at_ := by
  intro n
  induction n with
  | zero => intro _; exact Int.le_refl _
  | succ n ih =>
    intro hk
    have h1 := ih (by omega)
    have h2 := (evOk_iff.1 (evK_at (k := k + n + 1) (by omega) h)).2.2.1
    have h3 : nwK l (k + n + 1) = (ge l (k + n)).at_ := rfl
    have h4 : k + (n + 1) = k + n + 1 := rfl
    rw [h4]
    omega
theorem ovN_ovL {g : List T} {l : List E} (h : evK g l l.length = true) (now : Int) : ∀ k, k ≤ l.length → ∃ j, j ≤ k ∧ ovN l now k = ovL l j ∧ (j = k ∨ ∀ i, j ≤ i → i < l.length → now < (ge l i).at_) := by
  intro k
  induction k with
  | zero => intro _; exact ⟨0, Nat.le_refl _, rfl, Or.inl rfl⟩
  | succ k ih =>
    intro hk
    obtain ⟨j, hj, e, hc⟩ := ih (by omega)
    have hs : ovN l now (k + 1) = if (ge l k).over && decide ((ge l k).at_ ≤ now) then ovN l now k ++ [(ge l k).task] else ovN l now k := rfl
    have ho : ovL l (k + 1) = if (ge l k).over then ovL l k ++ [(ge l k).task] else ovL l k := rfl
    by_cases hx : (ge l k).at_ ≤ now
    · rcases hc with rfl | hc
      · refine ⟨j + 1, Nat.le_refl _, ?_, Or.inl rfl⟩
        rw [hs, ho, decide_eq_true hx, Bool.and_true, e]
      · have := hc k hj (by omega)
        omega
    · refine ⟨j, by omega, ?_, Or.inr ?_⟩
      · rw [hs, decide_eq_false hx, Bool.and_false, e]
        rfl
      · rcases hc with rfl | hc
        · intro i h1 h2
          have h3 := at_mono (k := j) h (i - j) (by omega)
          rw [show j + (i - j) = i from by omega] at h3
          omega
        · exact hc
theorem done_valid {g : List T} {l : List E} (h : logV g l = true) (now : Int) : vdone g (doneC g l now) = true := by
  obtain ⟨hgv, _, hev⟩ := logV_iff.1 h
  obtain ⟨j, hj, e, _⟩ := ovN_ovL hev now l.length (Nat.le_refl _)
  have hli := LI.of (valid_fine hgv) j (evK_le hj hev)
  have hm : ∀ x, x ∈ doneC g l now ↔ x ∈ ovL l j := by
    intro x
    unfold doneC
    rw [e, mem_pick]
    constructor
    · rintro ⟨i, _, h2, rfl⟩
      simpa using h2
    · intro hx
      have h3 := hli.oin x hx
      exact ⟨x.toNat, by omega, by simp; rw [show max x 0 = x from by omega]; exact hx, by omega⟩
  rw [vdone_iff]
  refine ⟨hgv, ?_, ?_⟩
  · unfold inG doneC
    rw [Bool.and_eq_true]
    exact ⟨asc_pick _ _, pick_in _ _⟩
  · intro x hx y hy
    rw [hm] at hx ⊢
    exact hli.need_ x (hli.sub x hx) y hy
theorem ovN_more {l : List E} {a b : Int} (hab : a ≤ b) : ∀ k, ∀ x ∈ ovN l a k, x ∈ ovN l b k := by
  intro k
  induction k with
  | zero => intro x hx; exact hx
  | succ k ih =>
    intro x hx
    have ha : ovN l a (k + 1) = if (ge l k).over && decide ((ge l k).at_ ≤ a) then ovN l a k ++ [(ge l k).task] else ovN l a k := rfl
    have hb : ovN l b (k + 1) = if (ge l k).over && decide ((ge l k).at_ ≤ b) then ovN l b k ++ [(ge l k).task] else ovN l b k := rfl
    rw [ha] at hx
    rw [hb]
    split at hx
    · next h1 =>
      rw [Bool.and_eq_true, decide_eq_true_eq] at h1
      rw [if_pos (by rw [Bool.and_eq_true, decide_eq_true_eq]; exact ⟨h1.1, by omega⟩)]
      rcases List.mem_append.1 hx with h2 | h2
      · exact List.mem_append_left _ (ih x h2)
      · exact List.mem_append_right _ h2
    · split
      · exact List.mem_append_left _ (ih x hx)
      · exact ih x hx
theorem done_more {g : List T} {l : List E} {a b : Int} (hab : a ≤ b) : ∀ x ∈ doneC g l a, x ∈ doneC g l b := by
  intro x hx
  unfold doneC at *
  rw [mem_pick] at *
  obtain ⟨i, h1, h2, rfl⟩ := hx
  refine ⟨i, h1, ?_, rfl⟩
  have := ovN_more hab l.length (i : Int) (by simpa using h2)
  simpa using this
theorem done_none {g : List T} {l : List E} (h : logV g l = true) {a : Int} (ha : a < 0) : doneC g l a = [] := by
  obtain ⟨hgv, _, hev⟩ := logV_iff.1 h
  have h1 : ∀ k, k ≤ l.length → ovN l a k = [] := by
    intro k
    induction k with
    | zero => intro _; rfl
    | succ k ih =>
      intro hk
      have hs : ovN l a (k + 1) = if (ge l k).over && decide ((ge l k).at_ ≤ a) then ovN l a k ++ [(ge l k).task] else ovN l a k := rfl
      have h2 := (evOk_iff.1 (evK_at (k := k) (by omega) hev)).1
      rw [hs, decide_eq_false (by omega), Bool.and_false]
      exact ih (by omega)
  unfold doneC
  rw [h1 _ (Nat.le_refl _), List.eq_nil_iff_forall_not_mem]
  intro x hx
  rw [mem_pick] at hx
  obtain ⟨i, _, h2, _⟩ := hx
  simp at h2
end Go.Proofs.Ytihgakbopkaemaa.Bs
