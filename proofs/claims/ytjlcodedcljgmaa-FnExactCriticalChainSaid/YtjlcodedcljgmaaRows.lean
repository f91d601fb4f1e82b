/-
  No cell of these rows narrows 'for every input' (looked for: loops, veiled, ifaces, maps, wideKeys, modest, calm, conditions, laid).
  DERIVED. THE GIVEN ROWS OF THIS SEAT. 10 by the template 'for every input the law returns true; each argument reads behind the call as it read before'; 0 by the template 'total and deterministic' (their statements: YtjlcodedcljgmaaTotals.lean).
  GIVEN WITH THE SEED: the statements are not yours to turn. If you find one false, say at which input.
  Laid BY PROGRAM, IN A SANDBOX (cutbox-rows.mjs): the forced cells as the released guide's own fill.sh prints them over the translation 600718db0454db91… (all of the seat's roots in one cut). By AI agents, Wed Nov 11 2026. No macro, syntax, notation, axiom, sorry.
-/
import Derived.Test.YtjlcodedcljgmaaChecked
import GoSem.Claim
import GoSem.ClaimJoined
import GoSem.ClaimMapViews
import Derived.JoinedTies
import Derived.KernelRfl
namespace Go.Proofs.Ytjlcodedcljgmaa
/- THE CELL 'sum', in the pinned program and in every row, IS THE sha256 OF THE DUMP (.gsa) THAT YtjlcodedcljgmaaProg.lean LOADS. Nothing in Lean hashes anything: it is a label: what it is worth is what the hold of that sum in a sandbox is worth. -/
noncomputable def Try.pinned : Pinned := { name := "ytjlcodedcljgmaa", sum := "600718db0454db910fd033eebb3b006e2e296c3b7792a8dea01206f21bcdf73d", checked := Try.checked }
namespace Rows
def none {H : Type} : Left H := { results := [], args := [] }

/-- 'laws.FnExactValidGraph': WHATEVER THE INPUT: true; the input reads as it did. -/
def fnExactValidGraphSpec : ChangeSpec := { name := "fnExactValidGraph", fn := fun _ => fun
  | [d] => { results := [.lit (.bool true)], args := [d] }
  | _ => none }
def fnExactValidGraphRow : OpenClaim := { program := "ytjlcodedcljgmaa", sum := "600718db0454db910fd033eebb3b006e2e296c3b7792a8dea01206f21bcdf73d", func := "loop.example/buildscheduler/laws.FnExactValidGraph", spec := "fnExactValidGraph", apart := false }
def FnExactValidGraphSaid : Prop := fnExactValidGraphRow.holds Try.pinned (OpenSpec.ofChange fnExactValidGraphSpec)

/-- ITS FALSE NEIGHBOUR: 'it returns false'. Refute it at one input. -/
def fnExactValidGraphWrong : ChangeSpec := { name := "fnExactValidGraph", fn := fun _ => fun
  | [d] => { results := [.lit (.bool false)], args := [d] }
  | _ => none }
def FnExactValidGraphWrongFalsely : Prop := fnExactValidGraphRow.holds Try.pinned (OpenSpec.ofChange fnExactValidGraphWrong)

/-- 'laws.FnExactTopOrder': WHATEVER THE INPUT: true; the input reads as it did. -/
def fnExactTopOrderSpec : ChangeSpec := { name := "fnExactTopOrder", fn := fun _ => fun
  | [d] => { results := [.lit (.bool true)], args := [d] }
  | _ => none }
def fnExactTopOrderRow : OpenClaim := { program := "ytjlcodedcljgmaa", sum := "600718db0454db910fd033eebb3b006e2e296c3b7792a8dea01206f21bcdf73d", func := "loop.example/buildscheduler/laws.FnExactTopOrder", spec := "fnExactTopOrder", apart := false }
def FnExactTopOrderSaid : Prop := fnExactTopOrderRow.holds Try.pinned (OpenSpec.ofChange fnExactTopOrderSpec)

/-- ITS FALSE NEIGHBOUR: 'it returns false'. Refute it at one input. -/
def fnExactTopOrderWrong : ChangeSpec := { name := "fnExactTopOrder", fn := fun _ => fun
  | [d] => { results := [.lit (.bool false)], args := [d] }
  | _ => none }
def FnExactTopOrderWrongFalsely : Prop := fnExactTopOrderRow.holds Try.pinned (OpenSpec.ofChange fnExactTopOrderWrong)

/-- 'laws.FnExactStuckTasks': WHATEVER THE INPUT: true; the input reads as it did. -/
def fnExactStuckTasksSpec : ChangeSpec := { name := "fnExactStuckTasks", fn := fun _ => fun
  | [d] => { results := [.lit (.bool true)], args := [d] }
  | _ => none }
def fnExactStuckTasksRow : OpenClaim := { program := "ytjlcodedcljgmaa", sum := "600718db0454db910fd033eebb3b006e2e296c3b7792a8dea01206f21bcdf73d", func := "loop.example/buildscheduler/laws.FnExactStuckTasks", spec := "fnExactStuckTasks", apart := false }
def FnExactStuckTasksSaid : Prop := fnExactStuckTasksRow.holds Try.pinned (OpenSpec.ofChange fnExactStuckTasksSpec)

/-- ITS FALSE NEIGHBOUR: 'it returns false'. Refute it at one input. -/
def fnExactStuckTasksWrong : ChangeSpec := { name := "fnExactStuckTasks", fn := fun _ => fun
  | [d] => { results := [.lit (.bool false)], args := [d] }
  | _ => none }
def FnExactStuckTasksWrongFalsely : Prop := fnExactStuckTasksRow.holds Try.pinned (OpenSpec.ofChange fnExactStuckTasksWrong)

/-- 'laws.FnExactAllNeeds': WHATEVER THE INPUT: true; the input reads as it did. -/
def fnExactAllNeedsSpec : ChangeSpec := { name := "fnExactAllNeeds", fn := fun _ => fun
  | [d1, d2] => { results := [.lit (.bool true)], args := [d1, d2] }
  | _ => none }
def fnExactAllNeedsRow : OpenClaim := { program := "ytjlcodedcljgmaa", sum := "600718db0454db910fd033eebb3b006e2e296c3b7792a8dea01206f21bcdf73d", func := "loop.example/buildscheduler/laws.FnExactAllNeeds", spec := "fnExactAllNeeds", apart := false }
def FnExactAllNeedsSaid : Prop := fnExactAllNeedsRow.holds Try.pinned (OpenSpec.ofChange fnExactAllNeedsSpec)

/-- ITS FALSE NEIGHBOUR: 'it returns false'. Refute it at one input. -/
def fnExactAllNeedsWrong : ChangeSpec := { name := "fnExactAllNeeds", fn := fun _ => fun
  | [d1, d2] => { results := [.lit (.bool false)], args := [d1, d2] }
  | _ => none }
def FnExactAllNeedsWrongFalsely : Prop := fnExactAllNeedsRow.holds Try.pinned (OpenSpec.ofChange fnExactAllNeedsWrong)

/-- 'laws.FnExactAllUsers': WHATEVER THE INPUT: true; the input reads as it did. -/
def fnExactAllUsersSpec : ChangeSpec := { name := "fnExactAllUsers", fn := fun _ => fun
  | [d1, d2] => { results := [.lit (.bool true)], args := [d1, d2] }
  | _ => none }
def fnExactAllUsersRow : OpenClaim := { program := "ytjlcodedcljgmaa", sum := "600718db0454db910fd033eebb3b006e2e296c3b7792a8dea01206f21bcdf73d", func := "loop.example/buildscheduler/laws.FnExactAllUsers", spec := "fnExactAllUsers", apart := false }
def FnExactAllUsersSaid : Prop := fnExactAllUsersRow.holds Try.pinned (OpenSpec.ofChange fnExactAllUsersSpec)

/-- ITS FALSE NEIGHBOUR: 'it returns false'. Refute it at one input. -/
def fnExactAllUsersWrong : ChangeSpec := { name := "fnExactAllUsers", fn := fun _ => fun
  | [d1, d2] => { results := [.lit (.bool false)], args := [d1, d2] }
  | _ => none }
def FnExactAllUsersWrongFalsely : Prop := fnExactAllUsersRow.holds Try.pinned (OpenSpec.ofChange fnExactAllUsersWrong)

/-- 'laws.FnExactHeadTimes': WHATEVER THE INPUT: true; the input reads as it did. -/
def fnExactHeadTimesSpec : ChangeSpec := { name := "fnExactHeadTimes", fn := fun _ => fun
  | [d] => { results := [.lit (.bool true)], args := [d] }
  | _ => none }
def fnExactHeadTimesRow : OpenClaim := { program := "ytjlcodedcljgmaa", sum := "600718db0454db910fd033eebb3b006e2e296c3b7792a8dea01206f21bcdf73d", func := "loop.example/buildscheduler/laws.FnExactHeadTimes", spec := "fnExactHeadTimes", apart := false }
def FnExactHeadTimesSaid : Prop := fnExactHeadTimesRow.holds Try.pinned (OpenSpec.ofChange fnExactHeadTimesSpec)

/-- ITS FALSE NEIGHBOUR: 'it returns false'. Refute it at one input. -/
def fnExactHeadTimesWrong : ChangeSpec := { name := "fnExactHeadTimes", fn := fun _ => fun
  | [d] => { results := [.lit (.bool false)], args := [d] }
  | _ => none }
def FnExactHeadTimesWrongFalsely : Prop := fnExactHeadTimesRow.holds Try.pinned (OpenSpec.ofChange fnExactHeadTimesWrong)

/-- 'laws.FnExactTailTimes': WHATEVER THE INPUT: true; the input reads as it did. -/
def fnExactTailTimesSpec : ChangeSpec := { name := "fnExactTailTimes", fn := fun _ => fun
  | [d] => { results := [.lit (.bool true)], args := [d] }
  | _ => none }
def fnExactTailTimesRow : OpenClaim := { program := "ytjlcodedcljgmaa", sum := "600718db0454db910fd033eebb3b006e2e296c3b7792a8dea01206f21bcdf73d", func := "loop.example/buildscheduler/laws.FnExactTailTimes", spec := "fnExactTailTimes", apart := false }
def FnExactTailTimesSaid : Prop := fnExactTailTimesRow.holds Try.pinned (OpenSpec.ofChange fnExactTailTimesSpec)

/-- ITS FALSE NEIGHBOUR: 'it returns false'. Refute it at one input. -/
def fnExactTailTimesWrong : ChangeSpec := { name := "fnExactTailTimes", fn := fun _ => fun
  | [d] => { results := [.lit (.bool false)], args := [d] }
  | _ => none }
def FnExactTailTimesWrongFalsely : Prop := fnExactTailTimesRow.holds Try.pinned (OpenSpec.ofChange fnExactTailTimesWrong)

/-- 'laws.FnExactLongestTime': WHATEVER THE INPUT: true; the input reads as it did. -/
def fnExactLongestTimeSpec : ChangeSpec := { name := "fnExactLongestTime", fn := fun _ => fun
  | [d] => { results := [.lit (.bool true)], args := [d] }
  | _ => none }
def fnExactLongestTimeRow : OpenClaim := { program := "ytjlcodedcljgmaa", sum := "600718db0454db910fd033eebb3b006e2e296c3b7792a8dea01206f21bcdf73d", func := "loop.example/buildscheduler/laws.FnExactLongestTime", spec := "fnExactLongestTime", apart := false }
def FnExactLongestTimeSaid : Prop := fnExactLongestTimeRow.holds Try.pinned (OpenSpec.ofChange fnExactLongestTimeSpec)

/-- ITS FALSE NEIGHBOUR: 'it returns false'. Refute it at one input. -/
def fnExactLongestTimeWrong : ChangeSpec := { name := "fnExactLongestTime", fn := fun _ => fun
  | [d] => { results := [.lit (.bool false)], args := [d] }
  | _ => none }
def FnExactLongestTimeWrongFalsely : Prop := fnExactLongestTimeRow.holds Try.pinned (OpenSpec.ofChange fnExactLongestTimeWrong)

/-- 'laws.FnExactCriticalChain': WHATEVER THE INPUT: true; the input reads as it did. -/
def fnExactCriticalChainSpec : ChangeSpec := { name := "fnExactCriticalChain", fn := fun _ => fun
  | [d] => { results := [.lit (.bool true)], args := [d] }
  | _ => none }
def fnExactCriticalChainRow : OpenClaim := { program := "ytjlcodedcljgmaa", sum := "600718db0454db910fd033eebb3b006e2e296c3b7792a8dea01206f21bcdf73d", func := "loop.example/buildscheduler/laws.FnExactCriticalChain", spec := "fnExactCriticalChain", apart := false }
def FnExactCriticalChainSaid : Prop := fnExactCriticalChainRow.holds Try.pinned (OpenSpec.ofChange fnExactCriticalChainSpec)

/-- ITS FALSE NEIGHBOUR: 'it returns false'. Refute it at one input. -/
def fnExactCriticalChainWrong : ChangeSpec := { name := "fnExactCriticalChain", fn := fun _ => fun
  | [d] => { results := [.lit (.bool false)], args := [d] }
  | _ => none }
def FnExactCriticalChainWrongFalsely : Prop := fnExactCriticalChainRow.holds Try.pinned (OpenSpec.ofChange fnExactCriticalChainWrong)

/-- 'laws.FnExactSlackTimes': WHATEVER THE INPUT: true; the input reads as it did. -/
def fnExactSlackTimesSpec : ChangeSpec := { name := "fnExactSlackTimes", fn := fun _ => fun
  | [d] => { results := [.lit (.bool true)], args := [d] }
  | _ => none }
def fnExactSlackTimesRow : OpenClaim := { program := "ytjlcodedcljgmaa", sum := "600718db0454db910fd033eebb3b006e2e296c3b7792a8dea01206f21bcdf73d", func := "loop.example/buildscheduler/laws.FnExactSlackTimes", spec := "fnExactSlackTimes", apart := false }
def FnExactSlackTimesSaid : Prop := fnExactSlackTimesRow.holds Try.pinned (OpenSpec.ofChange fnExactSlackTimesSpec)

/-- ITS FALSE NEIGHBOUR: 'it returns false'. Refute it at one input. -/
def fnExactSlackTimesWrong : ChangeSpec := { name := "fnExactSlackTimes", fn := fun _ => fun
  | [d] => { results := [.lit (.bool false)], args := [d] }
  | _ => none }
def FnExactSlackTimesWrongFalsely : Prop := fnExactSlackTimesRow.holds Try.pinned (OpenSpec.ofChange fnExactSlackTimesWrong)

/- THE SECOND FORM. 'bulk': how many values and letters a reading holds, each counted each time it is reached (what is shared counts as often as it is met; a slice's spare places count too). A statement '..UptoSaid' is the law's where the arguments, and the package variables that the reading takes, are together of bulk at most 1048576: NARROWER than '..Said'. Prove '..Said' where nothing that the law and all that it calls make is longer than what came in: it says more and counts as full. Else prove '..UptoSaid'. A law counts once. -/
mutual
def uptoBulk {H : Type} : DataW H → Nat
  | .lit (.string bytes) => bytes.length + 1
  | .lit _ => 1
  | .nil => 1
  | .ptr d => uptoBulk d + 1
  | .slice elems spare => uptoBulkAll elems + uptoBulkAll spare + 1
  | .agg parts => uptoBulkAll parts + 1
  | .iface _ d => uptoBulk d + 1
  | .map entries => uptoBulkEntries entries + 1
  | .held _ => 1
def uptoBulkAll {H : Type} : List (DataW H) → Nat
  | [] => 0
  | d :: r => uptoBulk d + uptoBulkAll r
def uptoBulkEntries {H : Type} : List (Lit × DataW H) → Nat
  | [] => 0
  | x :: r => uptoBulkEntry x + uptoBulkEntries r
def uptoBulkEntry {H : Type} : Lit × DataW H → Nat
  | (.string bytes, d) => bytes.length + uptoBulk d + 1
  | (_, d) => uptoBulk d + 1
 end
def uptoSmall : (H : Type) → List (DataW H) → Bool := fun _ ds => decide (uptoBulkAll ds ≤ 1048576)
def OpenSpec.upto (s : _root_.Go.ChangeSpec) : _root_.Go.OpenSpec := { _root_.Go.OpenSpec.ofChange s with cond := some uptoSmall }

/-- 'laws.FnExactValidGraph', WHERE WHAT IT READS IS OF BULK AT MOST 1048576: true; the input reads as it did. -/
def fnExactValidGraphUptoRow : OpenClaim := { program := "ytjlcodedcljgmaa", sum := "600718db0454db910fd033eebb3b006e2e296c3b7792a8dea01206f21bcdf73d", func := "loop.example/buildscheduler/laws.FnExactValidGraph", spec := "fnExactValidGraph", apart := false, narrowed := true }
def FnExactValidGraphUptoSaid : Prop := fnExactValidGraphUptoRow.holds Try.pinned (OpenSpec.upto fnExactValidGraphSpec)

/-- 'laws.FnExactTopOrder', WHERE WHAT IT READS IS OF BULK AT MOST 1048576: true; the input reads as it did. -/
def fnExactTopOrderUptoRow : OpenClaim := { program := "ytjlcodedcljgmaa", sum := "600718db0454db910fd033eebb3b006e2e296c3b7792a8dea01206f21bcdf73d", func := "loop.example/buildscheduler/laws.FnExactTopOrder", spec := "fnExactTopOrder", apart := false, narrowed := true }
def FnExactTopOrderUptoSaid : Prop := fnExactTopOrderUptoRow.holds Try.pinned (OpenSpec.upto fnExactTopOrderSpec)

/-- 'laws.FnExactStuckTasks', WHERE WHAT IT READS IS OF BULK AT MOST 1048576: true; the input reads as it did. -/
def fnExactStuckTasksUptoRow : OpenClaim := { program := "ytjlcodedcljgmaa", sum := "600718db0454db910fd033eebb3b006e2e296c3b7792a8dea01206f21bcdf73d", func := "loop.example/buildscheduler/laws.FnExactStuckTasks", spec := "fnExactStuckTasks", apart := false, narrowed := true }
def FnExactStuckTasksUptoSaid : Prop := fnExactStuckTasksUptoRow.holds Try.pinned (OpenSpec.upto fnExactStuckTasksSpec)

/-- 'laws.FnExactAllNeeds', WHERE WHAT IT READS IS OF BULK AT MOST 1048576: true; the input reads as it did. -/
def fnExactAllNeedsUptoRow : OpenClaim := { program := "ytjlcodedcljgmaa", sum := "600718db0454db910fd033eebb3b006e2e296c3b7792a8dea01206f21bcdf73d", func := "loop.example/buildscheduler/laws.FnExactAllNeeds", spec := "fnExactAllNeeds", apart := false, narrowed := true }
def FnExactAllNeedsUptoSaid : Prop := fnExactAllNeedsUptoRow.holds Try.pinned (OpenSpec.upto fnExactAllNeedsSpec)

/-- 'laws.FnExactAllUsers', WHERE WHAT IT READS IS OF BULK AT MOST 1048576: true; the input reads as it did. -/
def fnExactAllUsersUptoRow : OpenClaim := { program := "ytjlcodedcljgmaa", sum := "600718db0454db910fd033eebb3b006e2e296c3b7792a8dea01206f21bcdf73d", func := "loop.example/buildscheduler/laws.FnExactAllUsers", spec := "fnExactAllUsers", apart := false, narrowed := true }
def FnExactAllUsersUptoSaid : Prop := fnExactAllUsersUptoRow.holds Try.pinned (OpenSpec.upto fnExactAllUsersSpec)

/-- 'laws.FnExactHeadTimes', WHERE WHAT IT READS IS OF BULK AT MOST 1048576: true; the input reads as it did. -/
def fnExactHeadTimesUptoRow : OpenClaim := { program := "ytjlcodedcljgmaa", sum := "600718db0454db910fd033eebb3b006e2e296c3b7792a8dea01206f21bcdf73d", func := "loop.example/buildscheduler/laws.FnExactHeadTimes", spec := "fnExactHeadTimes", apart := false, narrowed := true }
def FnExactHeadTimesUptoSaid : Prop := fnExactHeadTimesUptoRow.holds Try.pinned (OpenSpec.upto fnExactHeadTimesSpec)

/-- 'laws.FnExactTailTimes', WHERE WHAT IT READS IS OF BULK AT MOST 1048576: true; the input reads as it did. -/
def fnExactTailTimesUptoRow : OpenClaim := { program := "ytjlcodedcljgmaa", sum := "600718db0454db910fd033eebb3b006e2e296c3b7792a8dea01206f21bcdf73d", func := "loop.example/buildscheduler/laws.FnExactTailTimes", spec := "fnExactTailTimes", apart := false, narrowed := true }
def FnExactTailTimesUptoSaid : Prop := fnExactTailTimesUptoRow.holds Try.pinned (OpenSpec.upto fnExactTailTimesSpec)

/-- 'laws.FnExactLongestTime', WHERE WHAT IT READS IS OF BULK AT MOST 1048576: true; the input reads as it did. -/
def fnExactLongestTimeUptoRow : OpenClaim := { program := "ytjlcodedcljgmaa", sum := "600718db0454db910fd033eebb3b006e2e296c3b7792a8dea01206f21bcdf73d", func := "loop.example/buildscheduler/laws.FnExactLongestTime", spec := "fnExactLongestTime", apart := false, narrowed := true }
def FnExactLongestTimeUptoSaid : Prop := fnExactLongestTimeUptoRow.holds Try.pinned (OpenSpec.upto fnExactLongestTimeSpec)

/-- 'laws.FnExactCriticalChain', WHERE WHAT IT READS IS OF BULK AT MOST 1048576: true; the input reads as it did. -/
def fnExactCriticalChainUptoRow : OpenClaim := { program := "ytjlcodedcljgmaa", sum := "600718db0454db910fd033eebb3b006e2e296c3b7792a8dea01206f21bcdf73d", func := "loop.example/buildscheduler/laws.FnExactCriticalChain", spec := "fnExactCriticalChain", apart := false, narrowed := true }
def FnExactCriticalChainUptoSaid : Prop := fnExactCriticalChainUptoRow.holds Try.pinned (OpenSpec.upto fnExactCriticalChainSpec)

/-- 'laws.FnExactSlackTimes', WHERE WHAT IT READS IS OF BULK AT MOST 1048576: true; the input reads as it did. -/
def fnExactSlackTimesUptoRow : OpenClaim := { program := "ytjlcodedcljgmaa", sum := "600718db0454db910fd033eebb3b006e2e296c3b7792a8dea01206f21bcdf73d", func := "loop.example/buildscheduler/laws.FnExactSlackTimes", spec := "fnExactSlackTimes", apart := false, narrowed := true }
def FnExactSlackTimesUptoSaid : Prop := fnExactSlackTimesUptoRow.holds Try.pinned (OpenSpec.upto fnExactSlackTimesSpec)

end Rows
end Go.Proofs.Ytjlcodedcljgmaa
