/-
  PLAIN MATHEMATICS of graphs of tasks: the time of all pools together. No condition.
-/
import Derived.Test.YtcddjgiclnnilabK2
namespace Go.Proofs.Ytcddjgiclnnilab.Bs
def workA (t : T) : Int := t.time * t.units
def workS (g : List T) : Int := sumZ (g.map workA)
def poolLo (g : List T) (k : Nat) : Int := if k = 0 then 0 else if k = 1 then workC g 0 else if k = 2 then workC g 0 + workC g 1 else workC g 0 + workC g 1 + workC g 2
theorem work_all : ∀ (g : List T), (∀ t ∈ g, 0 ≤ t.pool ∧ t.pool ≤ 2) → workS g = workC g 0 + workC g 1 + workC g 2 := by
  intro g
  induction g with
  | nil => intro _; rfl
  | cons t r ih =>
    intro h
    have h1 := ih (fun x hx => h x (by simp [hx]))
    have h2 := h t (by simp)
    have e : ∀ p, workC (t :: r) p = workF p t + workC r p := fun p => by simp [workC, sumZ]
    have e2 : workS (t :: r) = workA t + workS r := by simp [workS, sumZ]
    rw [e, e, e, e2, h1]
    have h3 : t.pool = 0 ∨ t.pool = 1 ∨ t.pool = 2 := by omega
    have h4 : workA t = workF 0 t + workF 1 t + workF 2 t := by
      unfold workF workA
      rcases h3 with h | h | h <;> rw [h] <;> simp
    omega
theorem work_bd {g : List T} (hF : fine g = true) (p : Int) : 0 ≤ workC g p ∧ workC g p ≤ 640 := by
  have h8 := fine_len hF
  have hb := work_bound hF p g.length (Nat.le_refl _)
  rw [List.take_length] at hb
  have e : sumZ (g.map (workF p)) = workC g p := rfl
  rw [e] at hb
  omega
theorem pool_sum {g : List T} {r : Int} (hv : valid g = true) (h4 : 4 ≤ r) (h8 : r ≤ 8) : ∀ k : Nat, k < 3 → ∃ n m : Int, poolT g k r = n ∧ n * r = m ∧ 0 ≤ m ∧ m ≤ 700 ∧ poolLo g (k + 1) ≤ poolLo g k + m ∧ poolLo g k + m < poolLo g (k + 1) + r := by
  intro k hk
  have hb := work_bd (valid_fine hv) (k : Int)
  have e := poolT_yes (p := (k : Int)) (r := r) hv (by simp; omega) (by simp; omega)
  have hl : poolLo g (k + 1) = poolLo g k + workC g k := by
    have : k = 0 ∨ k = 1 ∨ k = 2 := by omega
    rcases this with rfl | rfl | rfl <;> simp [poolLo]
  refine ⟨_, _, e, rfl, ?_⟩
  rw [hl]
  generalize workC g k = W at *
  generalize poolLo g k = Q at *
  have hr5 : r = 4 ∨ r = 5 ∨ r = 6 ∨ r = 7 ∨ r = 8 := by omega
  rcases hr5 with rfl | rfl | rfl | rfl | rfl <;> omega
theorem poolLo_start (g : List T) : poolLo g 0 = 0 := rfl
theorem poolLo_end {g : List T} (hF : fine g = true) : poolLo g 3 = workS g ∧ 0 ≤ workS g ∧ workS g ≤ 1920 := by
  have h := work_all g (fun t ht => by
    obtain ⟨i, hi, rfl⟩ := List.getElem_of_mem ht
    have := fine_task hF hi
    exact ⟨this.1, this.2.1⟩)
  have h0 := work_bd hF 0
  have h1 := work_bd hF 1
  have h2 := work_bd hF 2
  exact ⟨by rw [h]; rfl, by omega, by omega⟩
end Go.Proofs.Ytcddjgiclnnilab.Bs
