/-
  WALKS: how many orders there are, of the program.
-/
import Derived.Test.YtihgakbopkaemaaK7
import Derived.Test.YtihgakbopkaemaaK20
namespace Go.Proofs.Ytihgakbopkaemaa
open Go.RowKit
end Go.Proofs.Ytihgakbopkaemaa
