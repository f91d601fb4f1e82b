/-
  WALKS: the program's functions of chapters 3 and 4, gathered; how long their answers are. No condition.
-/
import Derived.Test.YtihgakbopkaemaaK17
import Derived.Test.YtihgakbopkaemaaK2
import Derived.Test.YtihgakbopkaemaaK4
import Derived.Test.YtihgakbopkaemaaK7
import Derived.Test.YtihgakbopkaemaaK27
namespace Go.Proofs.Ytihgakbopkaemaa
open Go.RowKit
theorem ReadyTasks_len100 (g : List Bs.T) (d : List Int) (hg : g.length ≤ 100) (_hd : d.length ≤ 100) : (Bs.readyL g d).length ≤ 1000 := by
  have := readyL_len' g d
  omega
theorem WaitsFor_len100 (g : List Bs.T) (d : List Int) (a : Int) (hg : g.length ≤ 100) (_hd : d.length ≤ 100) : (Bs.waitsL g d a).length ≤ 1000 := by
  unfold Bs.waitsL
  split
  · rename_i h
    rw [Bool.and_eq_true, decide_eq_true_eq] at h
    unfold Bs.waitsC
    have h1 := List.length_filter_le (fun y => !d.contains y) (Bs.need g a.toNat)
    have h2 : a.toNat < g.length := by omega
    have h3 := Bs.fine_needs_len (valid_fine (Bs.vdone_valid h.1)) h2
    rw [need_at h2] at h1
    rw [need_at h2]
    omega
  · simp
end Go.Proofs.Ytihgakbopkaemaa
