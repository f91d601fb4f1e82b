/-
  WALKS: the time that a pool needs, of the program.
-/
import Derived.Test.YtcddjgiclnnilaaW36
import Derived.Test.YtcddjgiclnnilaaK4
namespace Go.Proofs.Ytcddjgiclnnilaa
open Go.RowKit
end Go.Proofs.Ytcddjgiclnnilaa
