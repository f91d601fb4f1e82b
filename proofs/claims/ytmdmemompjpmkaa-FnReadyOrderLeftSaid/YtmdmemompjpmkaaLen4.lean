/-
  HOW LONG the answer of ReadyOrder is. No condition.
-/
import Derived.Test.YtmdmemompjpmkaaK7
import Derived.Test.YtmdmemompjpmkaaMath29
namespace Go.Proofs.Ytmdmemompjpmkaa
theorem ordL_k (g : List Bs.T) (d : List Int) : (Bs.ordL g d).length ≤ 1000 := by
  unfold Bs.ordL
  split
  · rename_i h
    have hF := valid_fine (Bs.vdone_valid h)
    have := Bs.fine_len hF
    have := Bs.readyC_len g d
    have := Bs.ord_len (d := d) hF
    omega
  · simp
end Go.Proofs.Ytmdmemompjpmkaa
