/-
  PLAIN MATHEMATICS of logs: the log of beginnings. No condition.
-/
import Derived.Test.YtihgakbopkaemaaK16
import Derived.Test.YtihgakbopkaemaaMath93
namespace Go.Proofs.Ytihgakbopkaemaa.Bs
/-- who of the first tasks is over at a time -/
def ovE (g : List T) (S : List Int) (t : Int) : Nat → List E
  | 0 => []
  | k + 1 => if giZ S k + timeOf g k == t then ovE g S t k ++ [⟨t, (k : Int), true⟩] else ovE g S t k
/-- who begins -/
def bgE (S : List Int) (t : Int) : Nat → List E
  | 0 => []
  | k + 1 => if giZ S k == t then bgE S t k ++ [⟨t, (k : Int), false⟩] else bgE S t k
/-- the events of the first times -/
def lgK (g : List T) (S : List Int) : Nat → List E
  | 0 => []
  | t + 1 => lgK g S t ++ (ovE g S (t : Int) g.length ++ bgE S (t : Int) g.length)
def logL (g : List T) (m : List Int) (wk : Int) (S : List Int) : List E := if stV g m wk S then lgK g S 221 else []
theorem ovE_len (g : List T) (S : List Int) (t : Int) : ∀ k, (ovE g S t k).length ≤ k := by
  intro k
  induction k with
  | zero => simp [ovE]
  | succ k ih =>
    show (if _ then _ else _ : List E).length ≤ _
    split
    · rw [List.length_append, List.length_singleton]; omega
    · omega
theorem bgE_len (S : List Int) (t : Int) : ∀ k, (bgE S t k).length ≤ k := by
  intro k
  induction k with
  | zero => simp [bgE]
  | succ k ih =>
    show (if _ then _ else _ : List E).length ≤ _
    split
    · rw [List.length_append, List.length_singleton]; omega
    · omega
theorem lgK_len (g : List T) (S : List Int) : ∀ t, (lgK g S t).length ≤ 2 * g.length * t := by
  intro t
  induction t with
  | zero => simp [lgK]
  | succ t ih =>
    show (_ ++ (_ ++ _) : List E).length ≤ _
    rw [List.length_append, List.length_append]
    have h1 := ovE_len g S (t : Int) g.length
    have h2 := bgE_len S (t : Int) g.length
    rw [Nat.mul_succ]
    omega
theorem lgK_len8 {g : List T} (S : List Int) {t : Nat} (h8 : g.length ≤ 8) (ht : t ≤ 221) : (lgK g S t).length ≤ 3536 := by
  have h1 := lgK_len g S t
  have h2 : 2 * g.length * t ≤ 2 * 8 * 221 := Nat.mul_le_mul (by omega) ht
  omega
theorem logL_no {g : List T} {m S : List Int} {wk : Int} (h : stV g m wk S = false) : logL g m wk S = [] := by unfold logL; rw [h]; rfl
theorem logL_yes {g : List T} {m S : List Int} {wk : Int} (h : stV g m wk S = true) : logL g m wk S = lgK g S 221 := by unfold logL; rw [h]; rfl
end Go.Proofs.Ytihgakbopkaemaa.Bs
