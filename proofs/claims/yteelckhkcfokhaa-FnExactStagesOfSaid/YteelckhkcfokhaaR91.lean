/-
  WALKS: stages of the model: the stage of each task.
-/
import Derived.Test.YteelckhkcfokhaaR90
namespace Go.Proofs.Yteelckhkcfokhaa
open Go.RowKit
end Go.Proofs.Yteelckhkcfokhaa
