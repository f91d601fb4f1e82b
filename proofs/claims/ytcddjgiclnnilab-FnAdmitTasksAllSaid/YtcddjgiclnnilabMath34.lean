/-
  PLAIN MATHEMATICS of graphs of tasks: one worker more, as the machine counts. No condition.
-/
import Derived.Test.YtcddjgiclnnilabMath33
import Derived.IntWalk
namespace Go.Proofs.Ytcddjgiclnnilab.Bs
theorem adm_more_wrap {g : List T} {m r l L M : List Int} {wk : Int} (hL : L = admL g m r l wk) (hM : M = admL g m r l (IntKind.i64.wrap (wk + 1))) (h4 : ¬ wk = 4) (h1 : ¬ wk < 1) : L.length ≤ M.length ∧ M.take L.length = L := by
  by_cases h : wk < 4
  · rw [show IntKind.i64.wrap (wk + 1) = wk + 1 from IntWalk.i64_in _ ⟨by omega, by omega⟩] at hM
    exact adm_more hL hM h4 h1
  · rw [admL_no (admV_no2 (by simp; omega))] at hL
    subst hL
    exact ⟨Nat.zero_le _, rfl⟩
theorem now_succ (r L : List Int) (k : Nat) : nowZ r L (k + 1) = if (r.contains (k : Int) || L.contains (k : Int)) then nowZ r L k ++ [(k : Int)] else nowZ r L k := by
  unfold nowZ
  rw [pick_succ]
end Go.Proofs.Ytcddjgiclnnilab.Bs
