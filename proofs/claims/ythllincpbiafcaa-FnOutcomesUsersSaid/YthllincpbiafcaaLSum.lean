/-
  WALKS: the laws' sum of a list.
-/
import Derived.Test.YthllincpbiafcaaL1
import Derived.Test.YthllincpbiafcaaK2
namespace Go.Proofs.Ythllincpbiafcaa
open Go.RowKit
theorem sum_bd {l : List Int} (hb : ∀ x ∈ l, 0 ≤ x ∧ x ≤ 100) : ∀ k, k ≤ l.length → 0 ≤ Bs.sumZ (l.take k) ∧ Bs.sumZ (l.take k) ≤ 100 * k := by
  intro k
  induction k with
  | zero => intro _; simp [Bs.sumZ]
  | succ k ih =>
    intro hk
    have h1 := ih (by omega)
    have h2 := hb l[k] (List.getElem_mem (by omega))
    rw [List.take_succ_eq_append_getElem (by omega), Bs.sumZ_append]
    simp only [Bs.sumZ]
    omega
end Go.Proofs.Ythllincpbiafcaa
