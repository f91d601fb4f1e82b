/-
  PLAIN MATHEMATICS: sums over the first numbers. No condition.
-/
import Derived.Test.YtihgakbopkaemaaK2
namespace Go.Proofs.Ytihgakbopkaemaa.Bs
/-- sums over the first numbers -/
def rs (n : Nat) (f : Nat → Int) : Int := sumZ ((List.range n).map f)
theorem rs_zero (f : Nat → Int) : rs 0 f = 0 := rfl
theorem rs_succ (n : Nat) (f : Nat → Int) : rs (n + 1) f = rs n f + f n := by
  unfold rs
  rw [List.range_succ, List.map_append, sumZ_append]
  simp [sumZ]
theorem rs_congr {n : Nat} {f h : Nat → Int} (e : ∀ i, i < n → f i = h i) : rs n f = rs n h := by
  unfold rs
  rw [List.map_congr_left (fun i hi => e i (by simpa using hi))]
theorem rs_le {f h : Nat → Int} : ∀ n, (∀ i, i < n → f i ≤ h i) → rs n f ≤ rs n h := by
  intro n
  induction n with
  | zero => intro _; exact Int.le_refl _
  | succ n ih => intro e; rw [rs_succ, rs_succ]; have := ih (fun i hi => e i (by omega)); have := e n (by omega); omega
theorem rs_const (c : Int) : ∀ n : Nat, rs n (fun _ => c) = n * c := by
  intro n
  induction n with
  | zero => simp [rs_zero]
  | succ n ih => rw [rs_succ, ih]; rw [show ((n + 1 : Nat) : Int) = (n : Int) + 1 from by omega, Int.add_mul]; omega
theorem rs_add (f h : Nat → Int) : ∀ n, rs n (fun i => f i + h i) = rs n f + rs n h := by
  intro n
  induction n with
  | zero => rfl
  | succ n ih => rw [rs_succ, rs_succ, rs_succ, ih]; omega
theorem rs_swap (a : Nat → Nat → Int) : ∀ m n, rs m (fun i => rs n (a i)) = rs n (fun j => rs m (fun i => a i j)) := by
  intro m
  induction m with
  | zero => intro n; rw [rs_zero, show (fun j => rs 0 (fun i => a i j)) = (fun _ => (0 : Int)) from by funext j; rfl, rs_const]; simp
  | succ m ih =>
    intro n
    rw [rs_succ, ih n, ← rs_add]
    apply rs_congr
    intro j _
    rw [rs_succ]
theorem pick_sum (f : Nat → Int) (p : Nat → Bool) : ∀ n, sumZ ((pick n p).map fun x => f x.toNat) = rs n (fun i => if p i then f i else 0) := by
  intro n
  induction n with
  | zero => rfl
  | succ n ih =>
    rw [pick_succ, rs_succ, ← ih]
    by_cases h : p n
    · rw [if_pos h, if_pos h, List.map_append, sumZ_append]
      simp [sumZ]
    · rw [if_neg h, if_neg h]
      omega
end Go.Proofs.Ytihgakbopkaemaa.Bs
