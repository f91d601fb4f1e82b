/-
  No cell of these rows narrows 'for every input' (looked for: loops, veiled, ifaces, maps, wideKeys, modest, calm, conditions, laid).
  DERIVED. THE GIVEN ROWS OF THIS SEAT. 14 by the template 'for every input the law returns true; each argument reads behind the call as it read before'; 0 by the template 'total and deterministic' (their statements: YtcoipkogfgcdeaaTotals.lean).
  GIVEN WITH THE SEED: the statements are not yours to turn. If you find one false, say at which input.
  Laid BY PROGRAM, IN A SANDBOX (cutbox-rows.mjs): the forced cells as the released guide's own fill.sh prints them over the translation a1eacf5842cd07d8… (all of the seat's roots in one cut). By AI agents, Wed Nov 11 2026. No macro, syntax, notation, axiom, sorry.
-/
import Derived.Test.YtcoipkogfgcdeaaChecked
import GoSem.Claim
import GoSem.ClaimJoined
import GoSem.ClaimMapViews
import Derived.JoinedTies
import Derived.KernelRfl
namespace Go.Proofs.Ytcoipkogfgcdeaa
/- THE CELL 'sum', in the pinned program and in every row, IS THE sha256 OF THE DUMP (.gsa) THAT YtcoipkogfgcdeaaProg.lean LOADS. Nothing in Lean hashes anything: it is a label: what it is worth is what the hold of that sum in a sandbox is worth. -/
noncomputable def Try.pinned : Pinned := { name := "ytcoipkogfgcdeaa", sum := "a1eacf5842cd07d87af8fbd42926b819cac9ea41f588cc95ccd360b498e6f027", checked := Try.checked }
namespace Rows
def none {H : Type} : Left H := { results := [], args := [] }

/-- 'laws.FnValidUsers': WHATEVER THE INPUT: true; the input reads as it did. -/
def fnValidUsersSpec : ChangeSpec := { name := "fnValidUsers", fn := fun _ => fun
  | [d] => { results := [.lit (.bool true)], args := [d] }
  | _ => none }
def fnValidUsersRow : OpenClaim := { program := "ytcoipkogfgcdeaa", sum := "a1eacf5842cd07d87af8fbd42926b819cac9ea41f588cc95ccd360b498e6f027", func := "loop.example/buildscheduler/laws.FnValidUsers", spec := "fnValidUsers", apart := false }
def FnValidUsersSaid : Prop := fnValidUsersRow.holds Try.pinned (OpenSpec.ofChange fnValidUsersSpec)

/-- ITS FALSE NEIGHBOUR: 'it returns false'. Refute it at one input. -/
def fnValidUsersWrong : ChangeSpec := { name := "fnValidUsers", fn := fun _ => fun
  | [d] => { results := [.lit (.bool false)], args := [d] }
  | _ => none }
def FnValidUsersWrongFalsely : Prop := fnValidUsersRow.holds Try.pinned (OpenSpec.ofChange fnValidUsersWrong)

/-- 'laws.FnNextUser': WHATEVER THE INPUT: true; the input reads as it did. -/
def fnNextUserSpec : ChangeSpec := { name := "fnNextUser", fn := fun _ => fun
  | [d] => { results := [.lit (.bool true)], args := [d] }
  | _ => none }
def fnNextUserRow : OpenClaim := { program := "ytcoipkogfgcdeaa", sum := "a1eacf5842cd07d87af8fbd42926b819cac9ea41f588cc95ccd360b498e6f027", func := "loop.example/buildscheduler/laws.FnNextUser", spec := "fnNextUser", recurses := true, apart := false }
def FnNextUserSaid : Prop := fnNextUserRow.holds Try.pinned (OpenSpec.ofChange fnNextUserSpec)

/-- ITS FALSE NEIGHBOUR: 'it returns false'. Refute it at one input. -/
def fnNextUserWrong : ChangeSpec := { name := "fnNextUser", fn := fun _ => fun
  | [d] => { results := [.lit (.bool false)], args := [d] }
  | _ => none }
def FnNextUserWrongFalsely : Prop := fnNextUserRow.holds Try.pinned (OpenSpec.ofChange fnNextUserWrong)

/-- 'laws.FnNextUserNone': WHATEVER THE INPUT: true; the input reads as it did. -/
def fnNextUserNoneSpec : ChangeSpec := { name := "fnNextUserNone", fn := fun _ => fun
  | [d] => { results := [.lit (.bool true)], args := [d] }
  | _ => none }
def fnNextUserNoneRow : OpenClaim := { program := "ytcoipkogfgcdeaa", sum := "a1eacf5842cd07d87af8fbd42926b819cac9ea41f588cc95ccd360b498e6f027", func := "loop.example/buildscheduler/laws.FnNextUserNone", spec := "fnNextUserNone", recurses := true, apart := false }
def FnNextUserNoneSaid : Prop := fnNextUserNoneRow.holds Try.pinned (OpenSpec.ofChange fnNextUserNoneSpec)

/-- ITS FALSE NEIGHBOUR: 'it returns false'. Refute it at one input. -/
def fnNextUserNoneWrong : ChangeSpec := { name := "fnNextUserNone", fn := fun _ => fun
  | [d] => { results := [.lit (.bool false)], args := [d] }
  | _ => none }
def FnNextUserNoneWrongFalsely : Prop := fnNextUserNoneRow.holds Try.pinned (OpenSpec.ofChange fnNextUserNoneWrong)

/-- 'laws.FnNextUserShare': WHATEVER THE INPUT: true; the input reads as it did. -/
def fnNextUserShareSpec : ChangeSpec := { name := "fnNextUserShare", fn := fun _ => fun
  | [d] => { results := [.lit (.bool true)], args := [d] }
  | _ => none }
def fnNextUserShareRow : OpenClaim := { program := "ytcoipkogfgcdeaa", sum := "a1eacf5842cd07d87af8fbd42926b819cac9ea41f588cc95ccd360b498e6f027", func := "loop.example/buildscheduler/laws.FnNextUserShare", spec := "fnNextUserShare", recurses := true, apart := false }
def FnNextUserShareSaid : Prop := fnNextUserShareRow.holds Try.pinned (OpenSpec.ofChange fnNextUserShareSpec)

/-- ITS FALSE NEIGHBOUR: 'it returns false'. Refute it at one input. -/
def fnNextUserShareWrong : ChangeSpec := { name := "fnNextUserShare", fn := fun _ => fun
  | [d] => { results := [.lit (.bool false)], args := [d] }
  | _ => none }
def FnNextUserShareWrongFalsely : Prop := fnNextUserShareRow.holds Try.pinned (OpenSpec.ofChange fnNextUserShareWrong)

/-- 'laws.FnServeUser': WHATEVER THE INPUT: true; the input reads as it did. -/
def fnServeUserSpec : ChangeSpec := { name := "fnServeUser", fn := fun _ => fun
  | [d] => { results := [.lit (.bool true)], args := [d] }
  | _ => none }
def fnServeUserRow : OpenClaim := { program := "ytcoipkogfgcdeaa", sum := "a1eacf5842cd07d87af8fbd42926b819cac9ea41f588cc95ccd360b498e6f027", func := "loop.example/buildscheduler/laws.FnServeUser", spec := "fnServeUser", recurses := true, apart := false }
def FnServeUserSaid : Prop := fnServeUserRow.holds Try.pinned (OpenSpec.ofChange fnServeUserSpec)

/-- ITS FALSE NEIGHBOUR: 'it returns false'. Refute it at one input. -/
def fnServeUserWrong : ChangeSpec := { name := "fnServeUser", fn := fun _ => fun
  | [d] => { results := [.lit (.bool false)], args := [d] }
  | _ => none }
def FnServeUserWrongFalsely : Prop := fnServeUserRow.holds Try.pinned (OpenSpec.ofChange fnServeUserWrong)

/-- 'laws.FnServeUserNone': WHATEVER THE INPUT: true; the input reads as it did. -/
def fnServeUserNoneSpec : ChangeSpec := { name := "fnServeUserNone", fn := fun _ => fun
  | [d] => { results := [.lit (.bool true)], args := [d] }
  | _ => none }
def fnServeUserNoneRow : OpenClaim := { program := "ytcoipkogfgcdeaa", sum := "a1eacf5842cd07d87af8fbd42926b819cac9ea41f588cc95ccd360b498e6f027", func := "loop.example/buildscheduler/laws.FnServeUserNone", spec := "fnServeUserNone", recurses := true, apart := false }
def FnServeUserNoneSaid : Prop := fnServeUserNoneRow.holds Try.pinned (OpenSpec.ofChange fnServeUserNoneSpec)

/-- ITS FALSE NEIGHBOUR: 'it returns false'. Refute it at one input. -/
def fnServeUserNoneWrong : ChangeSpec := { name := "fnServeUserNone", fn := fun _ => fun
  | [d] => { results := [.lit (.bool false)], args := [d] }
  | _ => none }
def FnServeUserNoneWrongFalsely : Prop := fnServeUserNoneRow.holds Try.pinned (OpenSpec.ofChange fnServeUserNoneWrong)

/-- 'laws.FnServeAll': WHATEVER THE INPUT: true; the input reads as it did. -/
def fnServeAllSpec : ChangeSpec := { name := "fnServeAll", fn := fun _ => fun
  | [d] => { results := [.lit (.bool true)], args := [d] }
  | _ => none }
def fnServeAllRow : OpenClaim := { program := "ytcoipkogfgcdeaa", sum := "a1eacf5842cd07d87af8fbd42926b819cac9ea41f588cc95ccd360b498e6f027", func := "loop.example/buildscheduler/laws.FnServeAll", spec := "fnServeAll", recurses := true, apart := false }
def FnServeAllSaid : Prop := fnServeAllRow.holds Try.pinned (OpenSpec.ofChange fnServeAllSpec)

/-- ITS FALSE NEIGHBOUR: 'it returns false'. Refute it at one input. -/
def fnServeAllWrong : ChangeSpec := { name := "fnServeAll", fn := fun _ => fun
  | [d] => { results := [.lit (.bool false)], args := [d] }
  | _ => none }
def FnServeAllWrongFalsely : Prop := fnServeAllRow.holds Try.pinned (OpenSpec.ofChange fnServeAllWrong)

/-- 'laws.FnServeAllStep': WHATEVER THE INPUT: true; the input reads as it did. -/
def fnServeAllStepSpec : ChangeSpec := { name := "fnServeAllStep", fn := fun _ => fun
  | [d] => { results := [.lit (.bool true)], args := [d] }
  | _ => none }
def fnServeAllStepRow : OpenClaim := { program := "ytcoipkogfgcdeaa", sum := "a1eacf5842cd07d87af8fbd42926b819cac9ea41f588cc95ccd360b498e6f027", func := "loop.example/buildscheduler/laws.FnServeAllStep", spec := "fnServeAllStep", recurses := true, apart := false }
def FnServeAllStepSaid : Prop := fnServeAllStepRow.holds Try.pinned (OpenSpec.ofChange fnServeAllStepSpec)

/-- ITS FALSE NEIGHBOUR: 'it returns false'. Refute it at one input. -/
def fnServeAllStepWrong : ChangeSpec := { name := "fnServeAllStep", fn := fun _ => fun
  | [d] => { results := [.lit (.bool false)], args := [d] }
  | _ => none }
def FnServeAllStepWrongFalsely : Prop := fnServeAllStepRow.holds Try.pinned (OpenSpec.ofChange fnServeAllStepWrong)

/-- 'laws.FnServeAllFair': WHATEVER THE INPUT: true; the input reads as it did. -/
def fnServeAllFairSpec : ChangeSpec := { name := "fnServeAllFair", fn := fun _ => fun
  | [d] => { results := [.lit (.bool true)], args := [d] }
  | _ => none }
def fnServeAllFairRow : OpenClaim := { program := "ytcoipkogfgcdeaa", sum := "a1eacf5842cd07d87af8fbd42926b819cac9ea41f588cc95ccd360b498e6f027", func := "loop.example/buildscheduler/laws.FnServeAllFair", spec := "fnServeAllFair", recurses := true, apart := false }
def FnServeAllFairSaid : Prop := fnServeAllFairRow.holds Try.pinned (OpenSpec.ofChange fnServeAllFairSpec)

/-- ITS FALSE NEIGHBOUR: 'it returns false'. Refute it at one input. -/
def fnServeAllFairWrong : ChangeSpec := { name := "fnServeAllFair", fn := fun _ => fun
  | [d] => { results := [.lit (.bool false)], args := [d] }
  | _ => none }
def FnServeAllFairWrongFalsely : Prop := fnServeAllFairRow.holds Try.pinned (OpenSpec.ofChange fnServeAllFairWrong)

/-- 'laws.FnServeAllCount': WHATEVER THE INPUT: true; the input reads as it did. -/
def fnServeAllCountSpec : ChangeSpec := { name := "fnServeAllCount", fn := fun _ => fun
  | [d] => { results := [.lit (.bool true)], args := [d] }
  | _ => none }
def fnServeAllCountRow : OpenClaim := { program := "ytcoipkogfgcdeaa", sum := "a1eacf5842cd07d87af8fbd42926b819cac9ea41f588cc95ccd360b498e6f027", func := "loop.example/buildscheduler/laws.FnServeAllCount", spec := "fnServeAllCount", recurses := true, apart := false }
def FnServeAllCountSaid : Prop := fnServeAllCountRow.holds Try.pinned (OpenSpec.ofChange fnServeAllCountSpec)

/-- ITS FALSE NEIGHBOUR: 'it returns false'. Refute it at one input. -/
def fnServeAllCountWrong : ChangeSpec := { name := "fnServeAllCount", fn := fun _ => fun
  | [d] => { results := [.lit (.bool false)], args := [d] }
  | _ => none }
def FnServeAllCountWrongFalsely : Prop := fnServeAllCountRow.holds Try.pinned (OpenSpec.ofChange fnServeAllCountWrong)

/-- 'laws.FnFairParts': WHATEVER THE INPUT: true; the input reads as it did. -/
def fnFairPartsSpec : ChangeSpec := { name := "fnFairParts", fn := fun _ => fun
  | [d] => { results := [.lit (.bool true)], args := [d] }
  | _ => none }
def fnFairPartsRow : OpenClaim := { program := "ytcoipkogfgcdeaa", sum := "a1eacf5842cd07d87af8fbd42926b819cac9ea41f588cc95ccd360b498e6f027", func := "loop.example/buildscheduler/laws.FnFairParts", spec := "fnFairParts", apart := false }
def FnFairPartsSaid : Prop := fnFairPartsRow.holds Try.pinned (OpenSpec.ofChange fnFairPartsSpec)

/-- ITS FALSE NEIGHBOUR: 'it returns false'. Refute it at one input. -/
def fnFairPartsWrong : ChangeSpec := { name := "fnFairParts", fn := fun _ => fun
  | [d] => { results := [.lit (.bool false)], args := [d] }
  | _ => none }
def FnFairPartsWrongFalsely : Prop := fnFairPartsRow.holds Try.pinned (OpenSpec.ofChange fnFairPartsWrong)

/-- 'laws.FnFairPartsUsed': WHATEVER THE INPUT: true; the input reads as it did. -/
def fnFairPartsUsedSpec : ChangeSpec := { name := "fnFairPartsUsed", fn := fun _ => fun
  | [d] => { results := [.lit (.bool true)], args := [d] }
  | _ => none }
def fnFairPartsUsedRow : OpenClaim := { program := "ytcoipkogfgcdeaa", sum := "a1eacf5842cd07d87af8fbd42926b819cac9ea41f588cc95ccd360b498e6f027", func := "loop.example/buildscheduler/laws.FnFairPartsUsed", spec := "fnFairPartsUsed", apart := false }
def FnFairPartsUsedSaid : Prop := fnFairPartsUsedRow.holds Try.pinned (OpenSpec.ofChange fnFairPartsUsedSpec)

/-- ITS FALSE NEIGHBOUR: 'it returns false'. Refute it at one input. -/
def fnFairPartsUsedWrong : ChangeSpec := { name := "fnFairPartsUsed", fn := fun _ => fun
  | [d] => { results := [.lit (.bool false)], args := [d] }
  | _ => none }
def FnFairPartsUsedWrongFalsely : Prop := fnFairPartsUsedRow.holds Try.pinned (OpenSpec.ofChange fnFairPartsUsedWrong)

/-- 'laws.FnFairPartsEqual': WHATEVER THE INPUT: true; the input reads as it did. -/
def fnFairPartsEqualSpec : ChangeSpec := { name := "fnFairPartsEqual", fn := fun _ => fun
  | [d] => { results := [.lit (.bool true)], args := [d] }
  | _ => none }
def fnFairPartsEqualRow : OpenClaim := { program := "ytcoipkogfgcdeaa", sum := "a1eacf5842cd07d87af8fbd42926b819cac9ea41f588cc95ccd360b498e6f027", func := "loop.example/buildscheduler/laws.FnFairPartsEqual", spec := "fnFairPartsEqual", apart := false }
def FnFairPartsEqualSaid : Prop := fnFairPartsEqualRow.holds Try.pinned (OpenSpec.ofChange fnFairPartsEqualSpec)

/-- ITS FALSE NEIGHBOUR: 'it returns false'. Refute it at one input. -/
def fnFairPartsEqualWrong : ChangeSpec := { name := "fnFairPartsEqual", fn := fun _ => fun
  | [d] => { results := [.lit (.bool false)], args := [d] }
  | _ => none }
def FnFairPartsEqualWrongFalsely : Prop := fnFairPartsEqualRow.holds Try.pinned (OpenSpec.ofChange fnFairPartsEqualWrong)

/-- 'laws.FnOutcomesUsers': WHATEVER THE INPUT: true; the input reads as it did. -/
def fnOutcomesUsersSpec : ChangeSpec := { name := "fnOutcomesUsers", fn := fun _ => fun
  | [d] => { results := [.lit (.bool true)], args := [d] }
  | _ => none }
def fnOutcomesUsersRow : OpenClaim := { program := "ytcoipkogfgcdeaa", sum := "a1eacf5842cd07d87af8fbd42926b819cac9ea41f588cc95ccd360b498e6f027", func := "loop.example/buildscheduler/laws.FnOutcomesUsers", spec := "fnOutcomesUsers", apart := false }
def FnOutcomesUsersSaid : Prop := fnOutcomesUsersRow.holds Try.pinned (OpenSpec.ofChange fnOutcomesUsersSpec)

/-- ITS FALSE NEIGHBOUR: 'it returns false'. Refute it at one input. -/
def fnOutcomesUsersWrong : ChangeSpec := { name := "fnOutcomesUsers", fn := fun _ => fun
  | [d] => { results := [.lit (.bool false)], args := [d] }
  | _ => none }
def FnOutcomesUsersWrongFalsely : Prop := fnOutcomesUsersRow.holds Try.pinned (OpenSpec.ofChange fnOutcomesUsersWrong)

/- THE SECOND FORM. 'bulk': how many values and letters a reading holds, each counted each time it is reached (what is shared counts as often as it is met; a slice's spare places count too). A statement '..UptoSaid' is the law's where the arguments, and the package variables that the reading takes, are together of bulk at most 1048576: NARROWER than '..Said'. Prove '..Said' where nothing that the law and all that it calls make is longer than what came in: it says more and counts as full. Else prove '..UptoSaid'. A law counts once. -/
mutual
def uptoBulk {H : Type} : DataW H → Nat
  | .lit (.string bytes) => bytes.length + 1
  | .lit _ => 1
  | .nil => 1
  | .ptr d => uptoBulk d + 1
  | .slice elems spare => uptoBulkAll elems + uptoBulkAll spare + 1
  | .agg parts => uptoBulkAll parts + 1
  | .iface _ d => uptoBulk d + 1
  | .map entries => uptoBulkEntries entries + 1
  | .held _ => 1
def uptoBulkAll {H : Type} : List (DataW H) → Nat
  | [] => 0
  | d :: r => uptoBulk d + uptoBulkAll r
def uptoBulkEntries {H : Type} : List (Lit × DataW H) → Nat
  | [] => 0
  | x :: r => uptoBulkEntry x + uptoBulkEntries r
def uptoBulkEntry {H : Type} : Lit × DataW H → Nat
  | (.string bytes, d) => bytes.length + uptoBulk d + 1
  | (_, d) => uptoBulk d + 1
 end
def uptoSmall : (H : Type) → List (DataW H) → Bool := fun _ ds => decide (uptoBulkAll ds ≤ 1048576)
def OpenSpec.upto (s : _root_.Go.ChangeSpec) : _root_.Go.OpenSpec := { _root_.Go.OpenSpec.ofChange s with cond := some uptoSmall }

/-- 'laws.FnValidUsers', WHERE WHAT IT READS IS OF BULK AT MOST 1048576: true; the input reads as it did. -/
def fnValidUsersUptoRow : OpenClaim := { program := "ytcoipkogfgcdeaa", sum := "a1eacf5842cd07d87af8fbd42926b819cac9ea41f588cc95ccd360b498e6f027", func := "loop.example/buildscheduler/laws.FnValidUsers", spec := "fnValidUsers", apart := false, narrowed := true }
def FnValidUsersUptoSaid : Prop := fnValidUsersUptoRow.holds Try.pinned (OpenSpec.upto fnValidUsersSpec)

/-- 'laws.FnNextUser', WHERE WHAT IT READS IS OF BULK AT MOST 1048576: true; the input reads as it did. -/
def fnNextUserUptoRow : OpenClaim := { program := "ytcoipkogfgcdeaa", sum := "a1eacf5842cd07d87af8fbd42926b819cac9ea41f588cc95ccd360b498e6f027", func := "loop.example/buildscheduler/laws.FnNextUser", spec := "fnNextUser", recurses := true, apart := false, narrowed := true }
def FnNextUserUptoSaid : Prop := fnNextUserUptoRow.holds Try.pinned (OpenSpec.upto fnNextUserSpec)

/-- 'laws.FnNextUserNone', WHERE WHAT IT READS IS OF BULK AT MOST 1048576: true; the input reads as it did. -/
def fnNextUserNoneUptoRow : OpenClaim := { program := "ytcoipkogfgcdeaa", sum := "a1eacf5842cd07d87af8fbd42926b819cac9ea41f588cc95ccd360b498e6f027", func := "loop.example/buildscheduler/laws.FnNextUserNone", spec := "fnNextUserNone", recurses := true, apart := false, narrowed := true }
def FnNextUserNoneUptoSaid : Prop := fnNextUserNoneUptoRow.holds Try.pinned (OpenSpec.upto fnNextUserNoneSpec)

/-- 'laws.FnNextUserShare', WHERE WHAT IT READS IS OF BULK AT MOST 1048576: true; the input reads as it did. -/
def fnNextUserShareUptoRow : OpenClaim := { program := "ytcoipkogfgcdeaa", sum := "a1eacf5842cd07d87af8fbd42926b819cac9ea41f588cc95ccd360b498e6f027", func := "loop.example/buildscheduler/laws.FnNextUserShare", spec := "fnNextUserShare", recurses := true, apart := false, narrowed := true }
def FnNextUserShareUptoSaid : Prop := fnNextUserShareUptoRow.holds Try.pinned (OpenSpec.upto fnNextUserShareSpec)

/-- 'laws.FnServeUser', WHERE WHAT IT READS IS OF BULK AT MOST 1048576: true; the input reads as it did. -/
def fnServeUserUptoRow : OpenClaim := { program := "ytcoipkogfgcdeaa", sum := "a1eacf5842cd07d87af8fbd42926b819cac9ea41f588cc95ccd360b498e6f027", func := "loop.example/buildscheduler/laws.FnServeUser", spec := "fnServeUser", recurses := true, apart := false, narrowed := true }
def FnServeUserUptoSaid : Prop := fnServeUserUptoRow.holds Try.pinned (OpenSpec.upto fnServeUserSpec)

/-- 'laws.FnServeUserNone', WHERE WHAT IT READS IS OF BULK AT MOST 1048576: true; the input reads as it did. -/
def fnServeUserNoneUptoRow : OpenClaim := { program := "ytcoipkogfgcdeaa", sum := "a1eacf5842cd07d87af8fbd42926b819cac9ea41f588cc95ccd360b498e6f027", func := "loop.example/buildscheduler/laws.FnServeUserNone", spec := "fnServeUserNone", recurses := true, apart := false, narrowed := true }
def FnServeUserNoneUptoSaid : Prop := fnServeUserNoneUptoRow.holds Try.pinned (OpenSpec.upto fnServeUserNoneSpec)

/-- 'laws.FnServeAll', WHERE WHAT IT READS IS OF BULK AT MOST 1048576: true; the input reads as it did. -/
def fnServeAllUptoRow : OpenClaim := { program := "ytcoipkogfgcdeaa", sum := "a1eacf5842cd07d87af8fbd42926b819cac9ea41f588cc95ccd360b498e6f027", func := "loop.example/buildscheduler/laws.FnServeAll", spec := "fnServeAll", recurses := true, apart := false, narrowed := true }
def FnServeAllUptoSaid : Prop := fnServeAllUptoRow.holds Try.pinned (OpenSpec.upto fnServeAllSpec)

/-- 'laws.FnServeAllStep', WHERE WHAT IT READS IS OF BULK AT MOST 1048576: true; the input reads as it did. -/
def fnServeAllStepUptoRow : OpenClaim := { program := "ytcoipkogfgcdeaa", sum := "a1eacf5842cd07d87af8fbd42926b819cac9ea41f588cc95ccd360b498e6f027", func := "loop.example/buildscheduler/laws.FnServeAllStep", spec := "fnServeAllStep", recurses := true, apart := false, narrowed := true }
def FnServeAllStepUptoSaid : Prop := fnServeAllStepUptoRow.holds Try.pinned (OpenSpec.upto fnServeAllStepSpec)

/-- 'laws.FnServeAllFair', WHERE WHAT IT READS IS OF BULK AT MOST 1048576: true; the input reads as it did. -/
def fnServeAllFairUptoRow : OpenClaim := { program := "ytcoipkogfgcdeaa", sum := "a1eacf5842cd07d87af8fbd42926b819cac9ea41f588cc95ccd360b498e6f027", func := "loop.example/buildscheduler/laws.FnServeAllFair", spec := "fnServeAllFair", recurses := true, apart := false, narrowed := true }
def FnServeAllFairUptoSaid : Prop := fnServeAllFairUptoRow.holds Try.pinned (OpenSpec.upto fnServeAllFairSpec)

/-- 'laws.FnServeAllCount', WHERE WHAT IT READS IS OF BULK AT MOST 1048576: true; the input reads as it did. -/
def fnServeAllCountUptoRow : OpenClaim := { program := "ytcoipkogfgcdeaa", sum := "a1eacf5842cd07d87af8fbd42926b819cac9ea41f588cc95ccd360b498e6f027", func := "loop.example/buildscheduler/laws.FnServeAllCount", spec := "fnServeAllCount", recurses := true, apart := false, narrowed := true }
def FnServeAllCountUptoSaid : Prop := fnServeAllCountUptoRow.holds Try.pinned (OpenSpec.upto fnServeAllCountSpec)

/-- 'laws.FnFairParts', WHERE WHAT IT READS IS OF BULK AT MOST 1048576: true; the input reads as it did. -/
def fnFairPartsUptoRow : OpenClaim := { program := "ytcoipkogfgcdeaa", sum := "a1eacf5842cd07d87af8fbd42926b819cac9ea41f588cc95ccd360b498e6f027", func := "loop.example/buildscheduler/laws.FnFairParts", spec := "fnFairParts", apart := false, narrowed := true }
def FnFairPartsUptoSaid : Prop := fnFairPartsUptoRow.holds Try.pinned (OpenSpec.upto fnFairPartsSpec)

/-- 'laws.FnFairPartsUsed', WHERE WHAT IT READS IS OF BULK AT MOST 1048576: true; the input reads as it did. -/
def fnFairPartsUsedUptoRow : OpenClaim := { program := "ytcoipkogfgcdeaa", sum := "a1eacf5842cd07d87af8fbd42926b819cac9ea41f588cc95ccd360b498e6f027", func := "loop.example/buildscheduler/laws.FnFairPartsUsed", spec := "fnFairPartsUsed", apart := false, narrowed := true }
def FnFairPartsUsedUptoSaid : Prop := fnFairPartsUsedUptoRow.holds Try.pinned (OpenSpec.upto fnFairPartsUsedSpec)

/-- 'laws.FnFairPartsEqual', WHERE WHAT IT READS IS OF BULK AT MOST 1048576: true; the input reads as it did. -/
def fnFairPartsEqualUptoRow : OpenClaim := { program := "ytcoipkogfgcdeaa", sum := "a1eacf5842cd07d87af8fbd42926b819cac9ea41f588cc95ccd360b498e6f027", func := "loop.example/buildscheduler/laws.FnFairPartsEqual", spec := "fnFairPartsEqual", apart := false, narrowed := true }
def FnFairPartsEqualUptoSaid : Prop := fnFairPartsEqualUptoRow.holds Try.pinned (OpenSpec.upto fnFairPartsEqualSpec)

/-- 'laws.FnOutcomesUsers', WHERE WHAT IT READS IS OF BULK AT MOST 1048576: true; the input reads as it did. -/
def fnOutcomesUsersUptoRow : OpenClaim := { program := "ytcoipkogfgcdeaa", sum := "a1eacf5842cd07d87af8fbd42926b819cac9ea41f588cc95ccd360b498e6f027", func := "loop.example/buildscheduler/laws.FnOutcomesUsers", spec := "fnOutcomesUsers", apart := false, narrowed := true }
def FnOutcomesUsersUptoSaid : Prop := fnOutcomesUsersUptoRow.holds Try.pinned (OpenSpec.upto fnOutcomesUsersSpec)

end Rows
end Go.Proofs.Ytcoipkogfgcdeaa
