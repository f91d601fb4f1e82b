/-
  WALKS: what is admitted, of the program.
-/
import Derived.Test.YtlanlcdbcblfjaaW37
import Derived.Test.YtlanlcdbcblfjaaK11
namespace Go.Proofs.Ytlanlcdbcblfjaa
open Go.RowKit
theorem and_bits (a b : Bool) : (a && b) = (b && a) := Bool.and_comm a b
end Go.Proofs.Ytlanlcdbcblfjaa
