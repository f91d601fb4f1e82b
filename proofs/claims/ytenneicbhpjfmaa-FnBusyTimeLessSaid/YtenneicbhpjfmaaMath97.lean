/-
  PLAIN MATHEMATICS of logs: the time of what is over, of a log without its last event. No condition.
-/
import Derived.Test.YtenneicbhpjfmaaMath95
import Derived.Test.YtenneicbhpjfmaaK2
namespace Go.Proofs.Ytenneicbhpjfmaa.Bs
theorem busy_less {g : List T} {l : List E} {n : Nat} (h : logV g l = true) (hn : l.length = n + 1) : 0 ≤ busL g (l.take n) ∧ ∃ t : Int, 1 ≤ t ∧ busL g l = busL g (l.take n) + (if (ge l n).over then t else 0) := by
  obtain ⟨hgv, _, hev⟩ := logV_iff.1 h
  have hF := valid_fine hgv
  have htl : (l.take n).length = n := by rw [List.length_take]; omega
  have he := evOk_iff.1 (evK_at (k := n) (by omega) hev)
  obtain ⟨v, hv⟩ : ∃ v : Nat, (ge l n).task = (v : Int) := ⟨(ge l n).task.toNat, by omega⟩
  have hvl : v < g.length := by omega
  have hti := fine_time' hF hvl
  have e1 : busL g (l.take n) = busC g l n := by
    rw [busL_yes (log_take h n), htl]
    unfold busC
    rw [same_ovL (n := n) (fun i hi => ge_take hi) n (Nat.le_refl _)]
  have e2 : busL g l = busC g l (n + 1) := by rw [busL_yes h, hn]
  rw [e1, e2, busC_succ]
  refine ⟨(busC_b hF n (evK_le (by omega) hev)).1, timeOf g (ge l n).task.toNat, ?_, rfl⟩
  rw [hv, Int.toNat_natCast, timeOf_eq hvl]
  exact hti.1
end Go.Proofs.Ytenneicbhpjfmaa.Bs
