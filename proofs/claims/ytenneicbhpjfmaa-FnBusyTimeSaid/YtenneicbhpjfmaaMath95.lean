/-
  PLAIN MATHEMATICS of logs: less of a log, and its first event again. No condition.
-/
import Derived.Test.YtenneicbhpjfmaaMath93
namespace Go.Proofs.Ytenneicbhpjfmaa.Bs
theorem ge_take {l : List E} {n i : Nat} (h : i < n) : ge (l.take n) i = ge l i := by
  unfold ge
  rw [List.getD_eq_getElem?_getD, List.getD_eq_getElem?_getD, List.getElem?_take_of_lt h]
theorem ge_app {l m : List E} {i : Nat} (h : i < l.length) : ge (l ++ m) i = ge l i := by
  unfold ge
  rw [List.getD_eq_getElem?_getD, List.getD_eq_getElem?_getD, List.getElem?_append_left h]
theorem ge_new {l : List E} {x : E} : ge (l ++ [x]) l.length = x := by
  unfold ge
  rw [List.getD_eq_getElem?_getD, List.getElem?_append_right (Nat.le_refl _)]
  simp
theorem same_bgM {a b : List E} {n : Nat} (h : ∀ i, i < n → ge a i = ge b i) (t : Int) : ∀ k, k ≤ n → bgM a t k = bgM b t k := by
  intro k
  induction k with
  | zero => intro _; rfl
  | succ k ih =>
    intro hk
    show (if !(ge a k).over && ((ge a k).task == t) then (ge a k).at_ else bgM a t k) = (if !(ge b k).over && ((ge b k).task == t) then (ge b k).at_ else bgM b t k)
    rw [h k (by omega), ih (by omega)]
theorem same_ovL {a b : List E} {n : Nat} (h : ∀ i, i < n → ge a i = ge b i) : ∀ k, k ≤ n → ovL a k = ovL b k := by
  intro k
  induction k with
  | zero => intro _; rfl
  | succ k ih =>
    intro hk
    show (if (ge a k).over then ovL a k ++ [(ge a k).task] else ovL a k) = (if (ge b k).over then ovL b k ++ [(ge b k).task] else ovL b k)
    rw [h k (by omega), ih (by omega)]
theorem same_nwK {a b : List E} {n : Nat} (h : ∀ i, i < n → ge a i = ge b i) : ∀ k, k ≤ n → nwK a k = nwK b k := by
  intro k
  cases k with
  | zero => intro _; rfl
  | succ k =>
    intro hk
    show (ge a k).at_ = (ge b k).at_
    rw [h k (by omega)]
theorem same_evOk {g : List T} {a b : List E} {n : Nat} (h : ∀ i, i < n → ge a i = ge b i) {k : Nat} (hk : k < n) : evOk g a k = evOk g b k := by
  unfold evOk fitE
  rw [h k hk, same_bgM h _ k (by omega), same_ovL h k (by omega), same_nwK h k (by omega)]
theorem same_evK {g : List T} {a b : List E} {n : Nat} (h : ∀ i, i < n → ge a i = ge b i) : ∀ k, k ≤ n → evK g a k = evK g b k := by
  intro k
  induction k with
  | zero => intro _; rfl
  | succ k ih =>
    intro hk
    rw [evK_succ, evK_succ, ih (by omega), same_evOk h (by omega)]
theorem log_take {g : List T} {l : List E} (h : logV g l = true) (n : Nat) : logV g (l.take n) = true := by
  obtain ⟨h1, h2, h3⟩ := logV_iff.1 h
  have hl : (l.take n).length ≤ l.length := by rw [List.length_take]; omega
  have hn : (l.take n).length ≤ n := by rw [List.length_take]; omega
  rw [logV_iff]
  refine ⟨h1, by omega, ?_⟩
  rw [same_evK (n := n) (fun i hi => ge_take hi) _ hn]
  exact evK_le hl h3
theorem log_nil {g : List T} (h : valid g = true) : logV g [] = true := by
  rw [logV_iff]
  exact ⟨h, by simp, rfl⟩
theorem log_graph {g : List T} {l : List E} (h : logV g l = true) : valid g = true := (logV_iff.1 h).1
/-- the first event of a valid log is that a task begins -/
theorem log_first {g : List T} {l : List E} (h : logV g l = true) (h0 : 0 < l.length) : (ge l 0).over = false := by
  have h1 := evOk_iff.1 (evK_at h0 (logV_iff.1 h).2.2)
  cases ho : (ge l 0).over
  · rfl
  · have := (fitE_over ho).1 h1.2.2.2.2.2
    have h2 := this.1
    simp [bgM] at h2
theorem bgM_first {g : List T} {l : List E} (h : logV g l = true) (h0 : 0 < l.length) : ∀ k, k < l.length → 0 ≤ bgM l (ge l 0).task (k + 1) := by
  intro k
  induction k with
  | zero =>
    intro _
    have h1 := evOk_iff.1 (evK_at h0 (logV_iff.1 h).2.2)
    show 0 ≤ (if _ then _ else _ : Int)
    rw [log_first h h0]
    simp
    exact h1.1
  | succ k ih =>
    intro hk
    have h1 := evOk_iff.1 (evK_at hk (logV_iff.1 h).2.2)
    have h2 := ih (by omega)
    show 0 ≤ (if _ then _ else _ : Int)
    split
    · exact h1.1
    · exact h2
theorem log_twice {g : List T} {l : List E} (h : logV g l = true) (h0 : 0 < l.length) (at2 : Int) : logV g (l ++ [⟨at2, (ge l 0).task, (ge l 0).over⟩]) = false := by
  have hs : ∀ i, i < l.length → ge (l ++ [⟨at2, (ge l 0).task, (ge l 0).over⟩]) i = ge l i := fun i hi => ge_app hi
  refine logV_no3 (evK_no (k := l.length) (by simp) ?_)
  rw [Bool.eq_false_iff]
  intro hc
  have h1 := (evOk_iff.1 hc).2.2.2.2.2
  rw [ge_new, fitE_begin (by exact log_first h h0)] at h1
  have h2 := h1.1
  rw [same_bgM hs _ l.length (Nat.le_refl _)] at h2
  obtain ⟨k, hk⟩ : ∃ k, l.length = k + 1 := ⟨l.length - 1, by omega⟩
  have h3 := bgM_first h h0 k (by omega)
  rw [hk] at h2
  simp only at h2
  omega
end Go.Proofs.Ytenneicbhpjfmaa.Bs
