/-
  PLAIN MATHEMATICS of schedules: all orders of tasks. No condition.
-/
import Derived.Test.YtfdaeomlgpflhaaK16
namespace Go.Proofs.Ytfdaeomlgpflhaa.Bs
/-- all orders with r tasks more than a list, in their order -/
def ordsF (g : List T) : Nat → List Int → List (List Int)
  | 0, l => [l]
  | r + 1, l => (List.range g.length).flatMap fun i => if okNext g l i then ordsF g r (l ++ [(i : Int)]) else []
def ordsK (g : List T) (r : Nat) (l : List Int) (k : Nat) : List (List Int) := (List.range k).flatMap fun i => if okNext g l i then ordsF g r (l ++ [(i : Int)]) else []
theorem ordsK_zero (g : List T) (r : Nat) (l : List Int) : ordsK g r l 0 = [] := rfl
theorem ordsK_succ (g : List T) (r : Nat) (l : List Int) (k : Nat) : ordsK g r l (k + 1) = ordsK g r l k ++ (if okNext g l k then ordsF g r (l ++ [(k : Int)]) else []) := by
  unfold ordsK
  rw [List.range_succ, List.flatMap_append]
  simp
theorem ordsF_succ (g : List T) (r : Nat) (l : List Int) : ordsF g (r + 1) l = ordsK g r l g.length := rfl
theorem ords_len {g : List T} (h8 : g.length ≤ 8) : ∀ r l, (ordsF g r l).length ≤ 8 ^ r ∧ ∀ k, k ≤ g.length → (ordsK g r l k).length ≤ k * 8 ^ r := by
  intro r
  induction r with
  | zero =>
    intro l
    refine ⟨by simp [ordsF], ?_⟩
    intro k
    induction k with
    | zero => intro _; simp [ordsK_zero]
    | succ k ih =>
      intro hk
      have := ih (by omega)
      rw [ordsK_succ, List.length_append]
      have h2 : (if okNext g l k then ordsF g 0 (l ++ [(k : Int)]) else []).length ≤ 1 := by split <;> simp [ordsF]
      simp only [Nat.pow_zero, Nat.mul_one] at *
      omega
  | succ r ih =>
    have hF : ∀ l, (ordsF g (r + 1) l).length ≤ 8 ^ (r + 1) := by
      intro l
      rw [ordsF_succ]
      have h1 := (ih l).2 g.length (Nat.le_refl _)
      have h2 : g.length * 8 ^ r ≤ 8 * 8 ^ r := Nat.mul_le_mul_right _ h8
      rw [Nat.pow_succ]
      omega
    intro l
    refine ⟨hF l, ?_⟩
    intro k
    induction k with
    | zero => intro _; simp [ordsK_zero]
    | succ k ihk =>
      intro hk
      have h1 := ihk (by omega)
      rw [ordsK_succ, List.length_append, Nat.add_mul, Nat.one_mul]
      have h2 : (if okNext g l k then ordsF g (r + 1) (l ++ [(k : Int)]) else []).length ≤ 8 ^ (r + 1) := by
        split
        · exact hF _
        · simp
      omega
theorem ords_b {g : List T} (h8 : g.length ≤ 8) {r : Nat} (hr : r ≤ 8) (l : List Int) : (ordsF g r l).length ≤ 16777216 ∧ ∀ k, k ≤ g.length → (ordsK g r l k).length ≤ 134217728 := by
  have h1 := ords_len h8 r l
  have h2 : 8 ^ r ≤ 8 ^ 8 := Nat.pow_le_pow_right (by omega) hr
  have h3 : (8 : Nat) ^ 8 = 16777216 := by decide
  refine ⟨by omega, ?_⟩
  intro k hk
  have h4 := h1.2 k hk
  have h5 : k * 8 ^ r ≤ 8 * 16777216 := Nat.mul_le_mul (by omega) (by omega)
  omega
/-- what a list of an order holds -/
theorem ords_mem {g : List T} : ∀ (r : Nat) (l : List Int), (∀ x ∈ l, 0 ≤ x ∧ x < g.length) → ∀ o ∈ ordsF g r l, o.length = l.length + r ∧ ∀ x ∈ o, 0 ≤ x ∧ x < g.length := by
  intro r
  induction r with
  | zero =>
    intro l hl o ho
    simp only [ordsF, List.mem_singleton] at ho
    subst ho
    exact ⟨by omega, hl⟩
  | succ r ih =>
    intro l hl o ho
    rw [ordsF, List.mem_flatMap] at ho
    obtain ⟨i, hi, ho⟩ := ho
    rw [List.mem_range] at hi
    split at ho
    · obtain ⟨h1, h2⟩ := ih (l ++ [(i : Int)]) (fun x hx => by
        rw [List.mem_append, List.mem_singleton] at hx
        rcases hx with hx | rfl
        · exact hl x hx
        · omega) o ho
      rw [List.length_append, List.length_singleton] at h1
      exact ⟨by omega, h2⟩
    · exact absurd ho (by simp)
def cntC (g : List T) : Int := if valid g && decide (g.length ≤ 5) then ((ordsF g g.length []).length : Int) else -1
theorem cnt_no1 {g : List T} (h : valid g = false) : cntC g = -1 := by unfold cntC; rw [h]; rfl
theorem cnt_no2 {g : List T} (h : ¬ g.length ≤ 5) : cntC g = -1 := by unfold cntC; simp [h]
theorem cnt_yes {g : List T} (h : valid g = true) (h5 : g.length ≤ 5) : cntC g = ((ordsF g g.length []).length : Int) := by unfold cntC; rw [h]; simp [h5]
end Go.Proofs.Ytfdaeomlgpflhaa.Bs
