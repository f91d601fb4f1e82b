/-
  No cell of these rows narrows 'for every input' (looked for: loops, veiled, ifaces, maps, wideKeys, modest, calm, conditions, laid).
  DERIVED. THE GIVEN ROWS OF THIS SEAT. 10 by the template 'for every input the law returns true; each argument reads behind the call as it read before'; 0 by the template 'total and deterministic' (their statements: YtkonohimafblcaaTotals.lean).
  GIVEN WITH THE SEED: the statements are not yours to turn. If you find one false, say at which input.
  Laid BY PROGRAM, IN A SANDBOX (cutbox-rows.mjs): the forced cells as the released guide's own fill.sh prints them over the translation ddda884896865b29… (all of the seat's roots in one cut). By AI agents, Wed Nov 11 2026. No macro, syntax, notation, axiom, sorry.
-/
import Derived.Test.YtkonohimafblcaaChecked
import GoSem.Claim
import GoSem.ClaimJoined
import GoSem.ClaimMapViews
import Derived.JoinedTies
import Derived.KernelRfl
namespace Go.Proofs.Ytkonohimafblcaa
/- THE CELL 'sum', in the pinned program and in every row, IS THE sha256 OF THE DUMP (.gsa) THAT YtkonohimafblcaaProg.lean LOADS. Nothing in Lean hashes anything: it is a label: what it is worth is what the hold of that sum in a sandbox is worth. -/
noncomputable def Try.pinned : Pinned := { name := "ytkonohimafblcaa", sum := "ddda884896865b29d996788b7be31029a5efe1df8f307f12addde1f6e6a7793b", checked := Try.checked }
namespace Rows
def none {H : Type} : Left H := { results := [], args := [] }

/-- 'laws.FnExactValidUsers': WHATEVER THE INPUT: true; the input reads as it did. -/
def fnExactValidUsersSpec : ChangeSpec := { name := "fnExactValidUsers", fn := fun _ => fun
  | [d] => { results := [.lit (.bool true)], args := [d] }
  | _ => none }
def fnExactValidUsersRow : OpenClaim := { program := "ytkonohimafblcaa", sum := "ddda884896865b29d996788b7be31029a5efe1df8f307f12addde1f6e6a7793b", func := "loop.example/buildscheduler/laws.FnExactValidUsers", spec := "fnExactValidUsers", apart := false }
def FnExactValidUsersSaid : Prop := fnExactValidUsersRow.holds Try.pinned (OpenSpec.ofChange fnExactValidUsersSpec)

/-- ITS FALSE NEIGHBOUR: 'it returns false'. Refute it at one input. -/
def fnExactValidUsersWrong : ChangeSpec := { name := "fnExactValidUsers", fn := fun _ => fun
  | [d] => { results := [.lit (.bool false)], args := [d] }
  | _ => none }
def FnExactValidUsersWrongFalsely : Prop := fnExactValidUsersRow.holds Try.pinned (OpenSpec.ofChange fnExactValidUsersWrong)

/-- 'laws.FnExactNextUser': WHATEVER THE INPUT: true; the input reads as it did. -/
def fnExactNextUserSpec : ChangeSpec := { name := "fnExactNextUser", fn := fun _ => fun
  | [d] => { results := [.lit (.bool true)], args := [d] }
  | _ => none }
def fnExactNextUserRow : OpenClaim := { program := "ytkonohimafblcaa", sum := "ddda884896865b29d996788b7be31029a5efe1df8f307f12addde1f6e6a7793b", func := "loop.example/buildscheduler/laws.FnExactNextUser", spec := "fnExactNextUser", recurses := true, apart := false }
def FnExactNextUserSaid : Prop := fnExactNextUserRow.holds Try.pinned (OpenSpec.ofChange fnExactNextUserSpec)

/-- ITS FALSE NEIGHBOUR: 'it returns false'. Refute it at one input. -/
def fnExactNextUserWrong : ChangeSpec := { name := "fnExactNextUser", fn := fun _ => fun
  | [d] => { results := [.lit (.bool false)], args := [d] }
  | _ => none }
def FnExactNextUserWrongFalsely : Prop := fnExactNextUserRow.holds Try.pinned (OpenSpec.ofChange fnExactNextUserWrong)

/-- 'laws.FnExactServeUser': WHATEVER THE INPUT: true; the input reads as it did. -/
def fnExactServeUserSpec : ChangeSpec := { name := "fnExactServeUser", fn := fun _ => fun
  | [d1, d2] => { results := [.lit (.bool true)], args := [d1, d2] }
  | _ => none }
def fnExactServeUserRow : OpenClaim := { program := "ytkonohimafblcaa", sum := "ddda884896865b29d996788b7be31029a5efe1df8f307f12addde1f6e6a7793b", func := "loop.example/buildscheduler/laws.FnExactServeUser", spec := "fnExactServeUser", recurses := true, apart := false }
def FnExactServeUserSaid : Prop := fnExactServeUserRow.holds Try.pinned (OpenSpec.ofChange fnExactServeUserSpec)

/-- ITS FALSE NEIGHBOUR: 'it returns false'. Refute it at one input. -/
def fnExactServeUserWrong : ChangeSpec := { name := "fnExactServeUser", fn := fun _ => fun
  | [d1, d2] => { results := [.lit (.bool false)], args := [d1, d2] }
  | _ => none }
def FnExactServeUserWrongFalsely : Prop := fnExactServeUserRow.holds Try.pinned (OpenSpec.ofChange fnExactServeUserWrong)

/-- 'laws.FnExactServeAll': WHATEVER THE INPUT: true; the input reads as it did. -/
def fnExactServeAllSpec : ChangeSpec := { name := "fnExactServeAll", fn := fun _ => fun
  | [d1, d2] => { results := [.lit (.bool true)], args := [d1, d2] }
  | _ => none }
def fnExactServeAllRow : OpenClaim := { program := "ytkonohimafblcaa", sum := "ddda884896865b29d996788b7be31029a5efe1df8f307f12addde1f6e6a7793b", func := "loop.example/buildscheduler/laws.FnExactServeAll", spec := "fnExactServeAll", recurses := true, apart := false }
def FnExactServeAllSaid : Prop := fnExactServeAllRow.holds Try.pinned (OpenSpec.ofChange fnExactServeAllSpec)

/-- ITS FALSE NEIGHBOUR: 'it returns false'. Refute it at one input. -/
def fnExactServeAllWrong : ChangeSpec := { name := "fnExactServeAll", fn := fun _ => fun
  | [d1, d2] => { results := [.lit (.bool false)], args := [d1, d2] }
  | _ => none }
def FnExactServeAllWrongFalsely : Prop := fnExactServeAllRow.holds Try.pinned (OpenSpec.ofChange fnExactServeAllWrong)

/-- 'laws.FnExactFairParts': WHATEVER THE INPUT: true; the input reads as it did. -/
def fnExactFairPartsSpec : ChangeSpec := { name := "fnExactFairParts", fn := fun _ => fun
  | [d1, d2] => { results := [.lit (.bool true)], args := [d1, d2] }
  | _ => none }
def fnExactFairPartsRow : OpenClaim := { program := "ytkonohimafblcaa", sum := "ddda884896865b29d996788b7be31029a5efe1df8f307f12addde1f6e6a7793b", func := "loop.example/buildscheduler/laws.FnExactFairParts", spec := "fnExactFairParts", apart := false }
def FnExactFairPartsSaid : Prop := fnExactFairPartsRow.holds Try.pinned (OpenSpec.ofChange fnExactFairPartsSpec)

/-- ITS FALSE NEIGHBOUR: 'it returns false'. Refute it at one input. -/
def fnExactFairPartsWrong : ChangeSpec := { name := "fnExactFairParts", fn := fun _ => fun
  | [d1, d2] => { results := [.lit (.bool false)], args := [d1, d2] }
  | _ => none }
def FnExactFairPartsWrongFalsely : Prop := fnExactFairPartsRow.holds Try.pinned (OpenSpec.ofChange fnExactFairPartsWrong)

/-- 'laws.FnExactStaleTasks': WHATEVER THE INPUT: true; the input reads as it did. -/
def fnExactStaleTasksSpec : ChangeSpec := { name := "fnExactStaleTasks", fn := fun _ => fun
  | [d1, d2] => { results := [.lit (.bool true)], args := [d1, d2] }
  | _ => none }
def fnExactStaleTasksRow : OpenClaim := { program := "ytkonohimafblcaa", sum := "ddda884896865b29d996788b7be31029a5efe1df8f307f12addde1f6e6a7793b", func := "loop.example/buildscheduler/laws.FnExactStaleTasks", spec := "fnExactStaleTasks", apart := false }
def FnExactStaleTasksSaid : Prop := fnExactStaleTasksRow.holds Try.pinned (OpenSpec.ofChange fnExactStaleTasksSpec)

/-- ITS FALSE NEIGHBOUR: 'it returns false'. Refute it at one input. -/
def fnExactStaleTasksWrong : ChangeSpec := { name := "fnExactStaleTasks", fn := fun _ => fun
  | [d1, d2] => { results := [.lit (.bool false)], args := [d1, d2] }
  | _ => none }
def FnExactStaleTasksWrongFalsely : Prop := fnExactStaleTasksRow.holds Try.pinned (OpenSpec.ofChange fnExactStaleTasksWrong)

/-- 'laws.FnExactTaskKeys': WHATEVER THE INPUT: true; the input reads as it did. -/
def fnExactTaskKeysSpec : ChangeSpec := { name := "fnExactTaskKeys", fn := fun _ => fun
  | [d1, d2] => { results := [.lit (.bool true)], args := [d1, d2] }
  | _ => none }
def fnExactTaskKeysRow : OpenClaim := { program := "ytkonohimafblcaa", sum := "ddda884896865b29d996788b7be31029a5efe1df8f307f12addde1f6e6a7793b", func := "loop.example/buildscheduler/laws.FnExactTaskKeys", spec := "fnExactTaskKeys", apart := false }
def FnExactTaskKeysSaid : Prop := fnExactTaskKeysRow.holds Try.pinned (OpenSpec.ofChange fnExactTaskKeysSpec)

/-- ITS FALSE NEIGHBOUR: 'it returns false'. Refute it at one input. -/
def fnExactTaskKeysWrong : ChangeSpec := { name := "fnExactTaskKeys", fn := fun _ => fun
  | [d1, d2] => { results := [.lit (.bool false)], args := [d1, d2] }
  | _ => none }
def FnExactTaskKeysWrongFalsely : Prop := fnExactTaskKeysRow.holds Try.pinned (OpenSpec.ofChange fnExactTaskKeysWrong)

/-- 'laws.FnExactMissingKeys': WHATEVER THE INPUT: true; the input reads as it did. -/
def fnExactMissingKeysSpec : ChangeSpec := { name := "fnExactMissingKeys", fn := fun _ => fun
  | [d1, d2, d3] => { results := [.lit (.bool true)], args := [d1, d2, d3] }
  | _ => none }
def fnExactMissingKeysRow : OpenClaim := { program := "ytkonohimafblcaa", sum := "ddda884896865b29d996788b7be31029a5efe1df8f307f12addde1f6e6a7793b", func := "loop.example/buildscheduler/laws.FnExactMissingKeys", spec := "fnExactMissingKeys", apart := false }
def FnExactMissingKeysSaid : Prop := fnExactMissingKeysRow.holds Try.pinned (OpenSpec.ofChange fnExactMissingKeysSpec)

/-- ITS FALSE NEIGHBOUR: 'it returns false'. Refute it at one input. -/
def fnExactMissingKeysWrong : ChangeSpec := { name := "fnExactMissingKeys", fn := fun _ => fun
  | [d1, d2, d3] => { results := [.lit (.bool false)], args := [d1, d2, d3] }
  | _ => none }
def FnExactMissingKeysWrongFalsely : Prop := fnExactMissingKeysRow.holds Try.pinned (OpenSpec.ofChange fnExactMissingKeysWrong)

/-- 'laws.FnExactStaleTime': WHATEVER THE INPUT: true; the input reads as it did. -/
def fnExactStaleTimeSpec : ChangeSpec := { name := "fnExactStaleTime", fn := fun _ => fun
  | [d1, d2] => { results := [.lit (.bool true)], args := [d1, d2] }
  | _ => none }
def fnExactStaleTimeRow : OpenClaim := { program := "ytkonohimafblcaa", sum := "ddda884896865b29d996788b7be31029a5efe1df8f307f12addde1f6e6a7793b", func := "loop.example/buildscheduler/laws.FnExactStaleTime", spec := "fnExactStaleTime", apart := false }
def FnExactStaleTimeSaid : Prop := fnExactStaleTimeRow.holds Try.pinned (OpenSpec.ofChange fnExactStaleTimeSpec)

/-- ITS FALSE NEIGHBOUR: 'it returns false'. Refute it at one input. -/
def fnExactStaleTimeWrong : ChangeSpec := { name := "fnExactStaleTime", fn := fun _ => fun
  | [d1, d2] => { results := [.lit (.bool false)], args := [d1, d2] }
  | _ => none }
def FnExactStaleTimeWrongFalsely : Prop := fnExactStaleTimeRow.holds Try.pinned (OpenSpec.ofChange fnExactStaleTimeWrong)

/-- 'laws.FnExactPlanStarts': WHATEVER THE INPUT: true; the input reads as it did. -/
def fnExactPlanStartsSpec : ChangeSpec := { name := "fnExactPlanStarts", fn := fun _ => fun
  | [d1, d2, d3] => { results := [.lit (.bool true)], args := [d1, d2, d3] }
  | _ => none }
def fnExactPlanStartsRow : OpenClaim := { program := "ytkonohimafblcaa", sum := "ddda884896865b29d996788b7be31029a5efe1df8f307f12addde1f6e6a7793b", func := "loop.example/buildscheduler/laws.FnExactPlanStarts", spec := "fnExactPlanStarts", apart := false }
def FnExactPlanStartsSaid : Prop := fnExactPlanStartsRow.holds Try.pinned (OpenSpec.ofChange fnExactPlanStartsSpec)

/-- ITS FALSE NEIGHBOUR: 'it returns false'. Refute it at one input. -/
def fnExactPlanStartsWrong : ChangeSpec := { name := "fnExactPlanStarts", fn := fun _ => fun
  | [d1, d2, d3] => { results := [.lit (.bool false)], args := [d1, d2, d3] }
  | _ => none }
def FnExactPlanStartsWrongFalsely : Prop := fnExactPlanStartsRow.holds Try.pinned (OpenSpec.ofChange fnExactPlanStartsWrong)

/- THE SECOND FORM. 'bulk': how many values and letters a reading holds, each counted each time it is reached (what is shared counts as often as it is met; a slice's spare places count too). A statement '..UptoSaid' is the law's where the arguments, and the package variables that the reading takes, are together of bulk at most 1048576: NARROWER than '..Said'. Prove '..Said' where nothing that the law and all that it calls make is longer than what came in: it says more and counts as full. Else prove '..UptoSaid'. A law counts once. -/
mutual
def uptoBulk {H : Type} : DataW H → Nat
  | .lit (.string bytes) => bytes.length + 1
  | .lit _ => 1
  | .nil => 1
  | .ptr d => uptoBulk d + 1
  | .slice elems spare => uptoBulkAll elems + uptoBulkAll spare + 1
  | .agg parts => uptoBulkAll parts + 1
  | .iface _ d => uptoBulk d + 1
  | .map entries => uptoBulkEntries entries + 1
  | .held _ => 1
def uptoBulkAll {H : Type} : List (DataW H) → Nat
  | [] => 0
  | d :: r => uptoBulk d + uptoBulkAll r
def uptoBulkEntries {H : Type} : List (Lit × DataW H) → Nat
  | [] => 0
  | x :: r => uptoBulkEntry x + uptoBulkEntries r
def uptoBulkEntry {H : Type} : Lit × DataW H → Nat
  | (.string bytes, d) => bytes.length + uptoBulk d + 1
  | (_, d) => uptoBulk d + 1
 end
def uptoSmall : (H : Type) → List (DataW H) → Bool := fun _ ds => decide (uptoBulkAll ds ≤ 1048576)
def OpenSpec.upto (s : _root_.Go.ChangeSpec) : _root_.Go.OpenSpec := { _root_.Go.OpenSpec.ofChange s with cond := some uptoSmall }

/-- 'laws.FnExactValidUsers', WHERE WHAT IT READS IS OF BULK AT MOST 1048576: true; the input reads as it did. -/
def fnExactValidUsersUptoRow : OpenClaim := { program := "ytkonohimafblcaa", sum := "ddda884896865b29d996788b7be31029a5efe1df8f307f12addde1f6e6a7793b", func := "loop.example/buildscheduler/laws.FnExactValidUsers", spec := "fnExactValidUsers", apart := false, narrowed := true }
def FnExactValidUsersUptoSaid : Prop := fnExactValidUsersUptoRow.holds Try.pinned (OpenSpec.upto fnExactValidUsersSpec)

/-- 'laws.FnExactNextUser', WHERE WHAT IT READS IS OF BULK AT MOST 1048576: true; the input reads as it did. -/
def fnExactNextUserUptoRow : OpenClaim := { program := "ytkonohimafblcaa", sum := "ddda884896865b29d996788b7be31029a5efe1df8f307f12addde1f6e6a7793b", func := "loop.example/buildscheduler/laws.FnExactNextUser", spec := "fnExactNextUser", recurses := true, apart := false, narrowed := true }
def FnExactNextUserUptoSaid : Prop := fnExactNextUserUptoRow.holds Try.pinned (OpenSpec.upto fnExactNextUserSpec)

/-- 'laws.FnExactServeUser', WHERE WHAT IT READS IS OF BULK AT MOST 1048576: true; the input reads as it did. -/
def fnExactServeUserUptoRow : OpenClaim := { program := "ytkonohimafblcaa", sum := "ddda884896865b29d996788b7be31029a5efe1df8f307f12addde1f6e6a7793b", func := "loop.example/buildscheduler/laws.FnExactServeUser", spec := "fnExactServeUser", recurses := true, apart := false, narrowed := true }
def FnExactServeUserUptoSaid : Prop := fnExactServeUserUptoRow.holds Try.pinned (OpenSpec.upto fnExactServeUserSpec)

/-- 'laws.FnExactServeAll', WHERE WHAT IT READS IS OF BULK AT MOST 1048576: true; the input reads as it did. -/
def fnExactServeAllUptoRow : OpenClaim := { program := "ytkonohimafblcaa", sum := "ddda884896865b29d996788b7be31029a5efe1df8f307f12addde1f6e6a7793b", func := "loop.example/buildscheduler/laws.FnExactServeAll", spec := "fnExactServeAll", recurses := true, apart := false, narrowed := true }
def FnExactServeAllUptoSaid : Prop := fnExactServeAllUptoRow.holds Try.pinned (OpenSpec.upto fnExactServeAllSpec)

/-- 'laws.FnExactFairParts', WHERE WHAT IT READS IS OF BULK AT MOST 1048576: true; the input reads as it did. -/
def fnExactFairPartsUptoRow : OpenClaim := { program := "ytkonohimafblcaa", sum := "ddda884896865b29d996788b7be31029a5efe1df8f307f12addde1f6e6a7793b", func := "loop.example/buildscheduler/laws.FnExactFairParts", spec := "fnExactFairParts", apart := false, narrowed := true }
def FnExactFairPartsUptoSaid : Prop := fnExactFairPartsUptoRow.holds Try.pinned (OpenSpec.upto fnExactFairPartsSpec)

/-- 'laws.FnExactStaleTasks', WHERE WHAT IT READS IS OF BULK AT MOST 1048576: true; the input reads as it did. -/
def fnExactStaleTasksUptoRow : OpenClaim := { program := "ytkonohimafblcaa", sum := "ddda884896865b29d996788b7be31029a5efe1df8f307f12addde1f6e6a7793b", func := "loop.example/buildscheduler/laws.FnExactStaleTasks", spec := "fnExactStaleTasks", apart := false, narrowed := true }
def FnExactStaleTasksUptoSaid : Prop := fnExactStaleTasksUptoRow.holds Try.pinned (OpenSpec.upto fnExactStaleTasksSpec)

/-- 'laws.FnExactTaskKeys', WHERE WHAT IT READS IS OF BULK AT MOST 1048576: true; the input reads as it did. -/
def fnExactTaskKeysUptoRow : OpenClaim := { program := "ytkonohimafblcaa", sum := "ddda884896865b29d996788b7be31029a5efe1df8f307f12addde1f6e6a7793b", func := "loop.example/buildscheduler/laws.FnExactTaskKeys", spec := "fnExactTaskKeys", apart := false, narrowed := true }
def FnExactTaskKeysUptoSaid : Prop := fnExactTaskKeysUptoRow.holds Try.pinned (OpenSpec.upto fnExactTaskKeysSpec)

/-- 'laws.FnExactMissingKeys', WHERE WHAT IT READS IS OF BULK AT MOST 1048576: true; the input reads as it did. -/
def fnExactMissingKeysUptoRow : OpenClaim := { program := "ytkonohimafblcaa", sum := "ddda884896865b29d996788b7be31029a5efe1df8f307f12addde1f6e6a7793b", func := "loop.example/buildscheduler/laws.FnExactMissingKeys", spec := "fnExactMissingKeys", apart := false, narrowed := true }
def FnExactMissingKeysUptoSaid : Prop := fnExactMissingKeysUptoRow.holds Try.pinned (OpenSpec.upto fnExactMissingKeysSpec)

/-- 'laws.FnExactStaleTime', WHERE WHAT IT READS IS OF BULK AT MOST 1048576: true; the input reads as it did. -/
def fnExactStaleTimeUptoRow : OpenClaim := { program := "ytkonohimafblcaa", sum := "ddda884896865b29d996788b7be31029a5efe1df8f307f12addde1f6e6a7793b", func := "loop.example/buildscheduler/laws.FnExactStaleTime", spec := "fnExactStaleTime", apart := false, narrowed := true }
def FnExactStaleTimeUptoSaid : Prop := fnExactStaleTimeUptoRow.holds Try.pinned (OpenSpec.upto fnExactStaleTimeSpec)

/-- 'laws.FnExactPlanStarts', WHERE WHAT IT READS IS OF BULK AT MOST 1048576: true; the input reads as it did. -/
def fnExactPlanStartsUptoRow : OpenClaim := { program := "ytkonohimafblcaa", sum := "ddda884896865b29d996788b7be31029a5efe1df8f307f12addde1f6e6a7793b", func := "loop.example/buildscheduler/laws.FnExactPlanStarts", spec := "fnExactPlanStarts", apart := false, narrowed := true }
def FnExactPlanStartsUptoSaid : Prop := fnExactPlanStartsUptoRow.holds Try.pinned (OpenSpec.upto fnExactPlanStartsSpec)

end Rows
end Go.Proofs.Ytkonohimafblcaa
