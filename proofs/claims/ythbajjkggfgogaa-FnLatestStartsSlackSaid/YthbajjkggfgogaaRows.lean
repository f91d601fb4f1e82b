/-
  No cell of these rows narrows 'for every input' (looked for: loops, veiled, ifaces, maps, wideKeys, modest, calm, conditions, laid).
  DERIVED. THE GIVEN ROWS OF THIS SEAT. 11 by the template 'for every input the law returns true; each argument reads behind the call as it read before'; 0 by the template 'total and deterministic' (their statements: YthbajjkggfgogaaTotals.lean).
  GIVEN WITH THE SEED: the statements are not yours to turn. If you find one false, say at which input.
  Laid BY PROGRAM, IN A SANDBOX (cutbox-rows.mjs): the forced cells as the released guide's own fill.sh prints them over the translation 6e41795347a15a3f… (all of the seat's roots in one cut). By AI agents, Wed Nov 11 2026. No macro, syntax, notation, axiom, sorry.
-/
import Derived.Test.YthbajjkggfgogaaChecked
import GoSem.Claim
import GoSem.ClaimJoined
import GoSem.ClaimMapViews
import Derived.JoinedTies
import Derived.KernelRfl
namespace Go.Proofs.Ythbajjkggfgogaa
/- THE CELL 'sum', in the pinned program and in every row, IS THE sha256 OF THE DUMP (.gsa) THAT YthbajjkggfgogaaProg.lean LOADS. Nothing in Lean hashes anything: it is a label: what it is worth is what the hold of that sum in a sandbox is worth. -/
noncomputable def Try.pinned : Pinned := { name := "ythbajjkggfgogaa", sum := "6e41795347a15a3ff403c90af8bf67ec6506e2d441c6ebca98dc0236543aaf55", checked := Try.checked }
namespace Rows
def none {H : Type} : Left H := { results := [], args := [] }

/-- 'laws.FnLatestStarts': WHATEVER THE INPUT: true; the input reads as it did. -/
def fnLatestStartsSpec : ChangeSpec := { name := "fnLatestStarts", fn := fun _ => fun
  | [d] => { results := [.lit (.bool true)], args := [d] }
  | _ => none }
def fnLatestStartsRow : OpenClaim := { program := "ythbajjkggfgogaa", sum := "6e41795347a15a3ff403c90af8bf67ec6506e2d441c6ebca98dc0236543aaf55", func := "loop.example/buildscheduler/laws.FnLatestStarts", spec := "fnLatestStarts", apart := false }
def FnLatestStartsSaid : Prop := fnLatestStartsRow.holds Try.pinned (OpenSpec.ofChange fnLatestStartsSpec)

/-- ITS FALSE NEIGHBOUR: 'it returns false'. Refute it at one input. -/
def fnLatestStartsWrong : ChangeSpec := { name := "fnLatestStarts", fn := fun _ => fun
  | [d] => { results := [.lit (.bool false)], args := [d] }
  | _ => none }
def FnLatestStartsWrongFalsely : Prop := fnLatestStartsRow.holds Try.pinned (OpenSpec.ofChange fnLatestStartsWrong)

/-- 'laws.FnLatestStartsSlack': WHATEVER THE INPUT: true; the input reads as it did. -/
def fnLatestStartsSlackSpec : ChangeSpec := { name := "fnLatestStartsSlack", fn := fun _ => fun
  | [d] => { results := [.lit (.bool true)], args := [d] }
  | _ => none }
def fnLatestStartsSlackRow : OpenClaim := { program := "ythbajjkggfgogaa", sum := "6e41795347a15a3ff403c90af8bf67ec6506e2d441c6ebca98dc0236543aaf55", func := "loop.example/buildscheduler/laws.FnLatestStartsSlack", spec := "fnLatestStartsSlack", apart := false }
def FnLatestStartsSlackSaid : Prop := fnLatestStartsSlackRow.holds Try.pinned (OpenSpec.ofChange fnLatestStartsSlackSpec)

/-- ITS FALSE NEIGHBOUR: 'it returns false'. Refute it at one input. -/
def fnLatestStartsSlackWrong : ChangeSpec := { name := "fnLatestStartsSlack", fn := fun _ => fun
  | [d] => { results := [.lit (.bool false)], args := [d] }
  | _ => none }
def FnLatestStartsSlackWrongFalsely : Prop := fnLatestStartsSlackRow.holds Try.pinned (OpenSpec.ofChange fnLatestStartsSlackWrong)

/-- 'laws.FnLateTasks': WHATEVER THE INPUT: true; the input reads as it did. -/
def fnLateTasksSpec : ChangeSpec := { name := "fnLateTasks", fn := fun _ => fun
  | [d] => { results := [.lit (.bool true)], args := [d] }
  | _ => none }
def fnLateTasksRow : OpenClaim := { program := "ythbajjkggfgogaa", sum := "6e41795347a15a3ff403c90af8bf67ec6506e2d441c6ebca98dc0236543aaf55", func := "loop.example/buildscheduler/laws.FnLateTasks", spec := "fnLateTasks", apart := false }
def FnLateTasksSaid : Prop := fnLateTasksRow.holds Try.pinned (OpenSpec.ofChange fnLateTasksSpec)

/-- ITS FALSE NEIGHBOUR: 'it returns false'. Refute it at one input. -/
def fnLateTasksWrong : ChangeSpec := { name := "fnLateTasks", fn := fun _ => fun
  | [d] => { results := [.lit (.bool false)], args := [d] }
  | _ => none }
def FnLateTasksWrongFalsely : Prop := fnLateTasksRow.holds Try.pinned (OpenSpec.ofChange fnLateTasksWrong)

/-- 'laws.FnLateTasksLast': WHATEVER THE INPUT: true; the input reads as it did. -/
def fnLateTasksLastSpec : ChangeSpec := { name := "fnLateTasksLast", fn := fun _ => fun
  | [d] => { results := [.lit (.bool true)], args := [d] }
  | _ => none }
def fnLateTasksLastRow : OpenClaim := { program := "ythbajjkggfgogaa", sum := "6e41795347a15a3ff403c90af8bf67ec6506e2d441c6ebca98dc0236543aaf55", func := "loop.example/buildscheduler/laws.FnLateTasksLast", spec := "fnLateTasksLast", apart := false }
def FnLateTasksLastSaid : Prop := fnLateTasksLastRow.holds Try.pinned (OpenSpec.ofChange fnLateTasksLastSpec)

/-- ITS FALSE NEIGHBOUR: 'it returns false'. Refute it at one input. -/
def fnLateTasksLastWrong : ChangeSpec := { name := "fnLateTasksLast", fn := fun _ => fun
  | [d] => { results := [.lit (.bool false)], args := [d] }
  | _ => none }
def FnLateTasksLastWrongFalsely : Prop := fnLateTasksLastRow.holds Try.pinned (OpenSpec.ofChange fnLateTasksLastWrong)

/-- 'laws.FnMeetsDeadline': WHATEVER THE INPUT: true; the input reads as it did. -/
def fnMeetsDeadlineSpec : ChangeSpec := { name := "fnMeetsDeadline", fn := fun _ => fun
  | [d] => { results := [.lit (.bool true)], args := [d] }
  | _ => none }
def fnMeetsDeadlineRow : OpenClaim := { program := "ythbajjkggfgogaa", sum := "6e41795347a15a3ff403c90af8bf67ec6506e2d441c6ebca98dc0236543aaf55", func := "loop.example/buildscheduler/laws.FnMeetsDeadline", spec := "fnMeetsDeadline", apart := false }
def FnMeetsDeadlineSaid : Prop := fnMeetsDeadlineRow.holds Try.pinned (OpenSpec.ofChange fnMeetsDeadlineSpec)

/-- ITS FALSE NEIGHBOUR: 'it returns false'. Refute it at one input. -/
def fnMeetsDeadlineWrong : ChangeSpec := { name := "fnMeetsDeadline", fn := fun _ => fun
  | [d] => { results := [.lit (.bool false)], args := [d] }
  | _ => none }
def FnMeetsDeadlineWrongFalsely : Prop := fnMeetsDeadlineRow.holds Try.pinned (OpenSpec.ofChange fnMeetsDeadlineWrong)

/-- 'laws.FnWorkersFor': WHATEVER THE INPUT: true; the input reads as it did. -/
def fnWorkersForSpec : ChangeSpec := { name := "fnWorkersFor", fn := fun _ => fun
  | [d] => { results := [.lit (.bool true)], args := [d] }
  | _ => none }
def fnWorkersForRow : OpenClaim := { program := "ythbajjkggfgogaa", sum := "6e41795347a15a3ff403c90af8bf67ec6506e2d441c6ebca98dc0236543aaf55", func := "loop.example/buildscheduler/laws.FnWorkersFor", spec := "fnWorkersFor", apart := false }
def FnWorkersForSaid : Prop := fnWorkersForRow.holds Try.pinned (OpenSpec.ofChange fnWorkersForSpec)

/-- ITS FALSE NEIGHBOUR: 'it returns false'. Refute it at one input. -/
def fnWorkersForWrong : ChangeSpec := { name := "fnWorkersFor", fn := fun _ => fun
  | [d] => { results := [.lit (.bool false)], args := [d] }
  | _ => none }
def FnWorkersForWrongFalsely : Prop := fnWorkersForRow.holds Try.pinned (OpenSpec.ofChange fnWorkersForWrong)

/-- 'laws.FnWorkersForOne': WHATEVER THE INPUT: true; the input reads as it did. -/
def fnWorkersForOneSpec : ChangeSpec := { name := "fnWorkersForOne", fn := fun _ => fun
  | [d] => { results := [.lit (.bool true)], args := [d] }
  | _ => none }
def fnWorkersForOneRow : OpenClaim := { program := "ythbajjkggfgogaa", sum := "6e41795347a15a3ff403c90af8bf67ec6506e2d441c6ebca98dc0236543aaf55", func := "loop.example/buildscheduler/laws.FnWorkersForOne", spec := "fnWorkersForOne", apart := false }
def FnWorkersForOneSaid : Prop := fnWorkersForOneRow.holds Try.pinned (OpenSpec.ofChange fnWorkersForOneSpec)

/-- ITS FALSE NEIGHBOUR: 'it returns false'. Refute it at one input. -/
def fnWorkersForOneWrong : ChangeSpec := { name := "fnWorkersForOne", fn := fun _ => fun
  | [d] => { results := [.lit (.bool false)], args := [d] }
  | _ => none }
def FnWorkersForOneWrongFalsely : Prop := fnWorkersForOneRow.holds Try.pinned (OpenSpec.ofChange fnWorkersForOneWrong)

/-- 'laws.FnLatestStartsMore': WHATEVER THE INPUT: true; the input reads as it did. -/
def fnLatestStartsMoreSpec : ChangeSpec := { name := "fnLatestStartsMore", fn := fun _ => fun
  | [d] => { results := [.lit (.bool true)], args := [d] }
  | _ => none }
def fnLatestStartsMoreRow : OpenClaim := { program := "ythbajjkggfgogaa", sum := "6e41795347a15a3ff403c90af8bf67ec6506e2d441c6ebca98dc0236543aaf55", func := "loop.example/buildscheduler/laws.FnLatestStartsMore", spec := "fnLatestStartsMore", apart := false }
def FnLatestStartsMoreSaid : Prop := fnLatestStartsMoreRow.holds Try.pinned (OpenSpec.ofChange fnLatestStartsMoreSpec)

/-- ITS FALSE NEIGHBOUR: 'it returns false'. Refute it at one input. -/
def fnLatestStartsMoreWrong : ChangeSpec := { name := "fnLatestStartsMore", fn := fun _ => fun
  | [d] => { results := [.lit (.bool false)], args := [d] }
  | _ => none }
def FnLatestStartsMoreWrongFalsely : Prop := fnLatestStartsMoreRow.holds Try.pinned (OpenSpec.ofChange fnLatestStartsMoreWrong)

/-- 'laws.FnLateTasksUsers': WHATEVER THE INPUT: true; the input reads as it did. -/
def fnLateTasksUsersSpec : ChangeSpec := { name := "fnLateTasksUsers", fn := fun _ => fun
  | [d] => { results := [.lit (.bool true)], args := [d] }
  | _ => none }
def fnLateTasksUsersRow : OpenClaim := { program := "ythbajjkggfgogaa", sum := "6e41795347a15a3ff403c90af8bf67ec6506e2d441c6ebca98dc0236543aaf55", func := "loop.example/buildscheduler/laws.FnLateTasksUsers", spec := "fnLateTasksUsers", apart := false }
def FnLateTasksUsersSaid : Prop := fnLateTasksUsersRow.holds Try.pinned (OpenSpec.ofChange fnLateTasksUsersSpec)

/-- ITS FALSE NEIGHBOUR: 'it returns false'. Refute it at one input. -/
def fnLateTasksUsersWrong : ChangeSpec := { name := "fnLateTasksUsers", fn := fun _ => fun
  | [d] => { results := [.lit (.bool false)], args := [d] }
  | _ => none }
def FnLateTasksUsersWrongFalsely : Prop := fnLateTasksUsersRow.holds Try.pinned (OpenSpec.ofChange fnLateTasksUsersWrong)

/-- 'laws.FnMeetsDeadlineNever': WHATEVER THE INPUT: true; the input reads as it did. -/
def fnMeetsDeadlineNeverSpec : ChangeSpec := { name := "fnMeetsDeadlineNever", fn := fun _ => fun
  | [d] => { results := [.lit (.bool true)], args := [d] }
  | _ => none }
def fnMeetsDeadlineNeverRow : OpenClaim := { program := "ythbajjkggfgogaa", sum := "6e41795347a15a3ff403c90af8bf67ec6506e2d441c6ebca98dc0236543aaf55", func := "loop.example/buildscheduler/laws.FnMeetsDeadlineNever", spec := "fnMeetsDeadlineNever", apart := false }
def FnMeetsDeadlineNeverSaid : Prop := fnMeetsDeadlineNeverRow.holds Try.pinned (OpenSpec.ofChange fnMeetsDeadlineNeverSpec)

/-- ITS FALSE NEIGHBOUR: 'it returns false'. Refute it at one input. -/
def fnMeetsDeadlineNeverWrong : ChangeSpec := { name := "fnMeetsDeadlineNever", fn := fun _ => fun
  | [d] => { results := [.lit (.bool false)], args := [d] }
  | _ => none }
def FnMeetsDeadlineNeverWrongFalsely : Prop := fnMeetsDeadlineNeverRow.holds Try.pinned (OpenSpec.ofChange fnMeetsDeadlineNeverWrong)

/-- 'laws.FnWorkersForLater': WHATEVER THE INPUT: true; the input reads as it did. -/
def fnWorkersForLaterSpec : ChangeSpec := { name := "fnWorkersForLater", fn := fun _ => fun
  | [d] => { results := [.lit (.bool true)], args := [d] }
  | _ => none }
def fnWorkersForLaterRow : OpenClaim := { program := "ythbajjkggfgogaa", sum := "6e41795347a15a3ff403c90af8bf67ec6506e2d441c6ebca98dc0236543aaf55", func := "loop.example/buildscheduler/laws.FnWorkersForLater", spec := "fnWorkersForLater", apart := false }
def FnWorkersForLaterSaid : Prop := fnWorkersForLaterRow.holds Try.pinned (OpenSpec.ofChange fnWorkersForLaterSpec)

/-- ITS FALSE NEIGHBOUR: 'it returns false'. Refute it at one input. -/
def fnWorkersForLaterWrong : ChangeSpec := { name := "fnWorkersForLater", fn := fun _ => fun
  | [d] => { results := [.lit (.bool false)], args := [d] }
  | _ => none }
def FnWorkersForLaterWrongFalsely : Prop := fnWorkersForLaterRow.holds Try.pinned (OpenSpec.ofChange fnWorkersForLaterWrong)

/- THE SECOND FORM. 'bulk': how many values and letters a reading holds, each counted each time it is reached (what is shared counts as often as it is met; a slice's spare places count too). A statement '..UptoSaid' is the law's where the arguments, and the package variables that the reading takes, are together of bulk at most 1048576: NARROWER than '..Said'. Prove '..Said' where nothing that the law and all that it calls make is longer than what came in: it says more and counts as full. Else prove '..UptoSaid'. A law counts once. -/
mutual
def uptoBulk {H : Type} : DataW H → Nat
  | .lit (.string bytes) => bytes.length + 1
  | .lit _ => 1
  | .nil => 1
  | .ptr d => uptoBulk d + 1
  | .slice elems spare => uptoBulkAll elems + uptoBulkAll spare + 1
  | .agg parts => uptoBulkAll parts + 1
  | .iface _ d => uptoBulk d + 1
  | .map entries => uptoBulkEntries entries + 1
  | .held _ => 1
def uptoBulkAll {H : Type} : List (DataW H) → Nat
  | [] => 0
  | d :: r => uptoBulk d + uptoBulkAll r
def uptoBulkEntries {H : Type} : List (Lit × DataW H) → Nat
  | [] => 0
  | x :: r => uptoBulkEntry x + uptoBulkEntries r
def uptoBulkEntry {H : Type} : Lit × DataW H → Nat
  | (.string bytes, d) => bytes.length + uptoBulk d + 1
  | (_, d) => uptoBulk d + 1
 end
def uptoSmall : (H : Type) → List (DataW H) → Bool := fun _ ds => decide (uptoBulkAll ds ≤ 1048576)
def OpenSpec.upto (s : _root_.Go.ChangeSpec) : _root_.Go.OpenSpec := { _root_.Go.OpenSpec.ofChange s with cond := some uptoSmall }

/-- 'laws.FnLatestStarts', WHERE WHAT IT READS IS OF BULK AT MOST 1048576: true; the input reads as it did. -/
def fnLatestStartsUptoRow : OpenClaim := { program := "ythbajjkggfgogaa", sum := "6e41795347a15a3ff403c90af8bf67ec6506e2d441c6ebca98dc0236543aaf55", func := "loop.example/buildscheduler/laws.FnLatestStarts", spec := "fnLatestStarts", apart := false, narrowed := true }
def FnLatestStartsUptoSaid : Prop := fnLatestStartsUptoRow.holds Try.pinned (OpenSpec.upto fnLatestStartsSpec)

/-- 'laws.FnLatestStartsSlack', WHERE WHAT IT READS IS OF BULK AT MOST 1048576: true; the input reads as it did. -/
def fnLatestStartsSlackUptoRow : OpenClaim := { program := "ythbajjkggfgogaa", sum := "6e41795347a15a3ff403c90af8bf67ec6506e2d441c6ebca98dc0236543aaf55", func := "loop.example/buildscheduler/laws.FnLatestStartsSlack", spec := "fnLatestStartsSlack", apart := false, narrowed := true }
def FnLatestStartsSlackUptoSaid : Prop := fnLatestStartsSlackUptoRow.holds Try.pinned (OpenSpec.upto fnLatestStartsSlackSpec)

/-- 'laws.FnLateTasks', WHERE WHAT IT READS IS OF BULK AT MOST 1048576: true; the input reads as it did. -/
def fnLateTasksUptoRow : OpenClaim := { program := "ythbajjkggfgogaa", sum := "6e41795347a15a3ff403c90af8bf67ec6506e2d441c6ebca98dc0236543aaf55", func := "loop.example/buildscheduler/laws.FnLateTasks", spec := "fnLateTasks", apart := false, narrowed := true }
def FnLateTasksUptoSaid : Prop := fnLateTasksUptoRow.holds Try.pinned (OpenSpec.upto fnLateTasksSpec)

/-- 'laws.FnLateTasksLast', WHERE WHAT IT READS IS OF BULK AT MOST 1048576: true; the input reads as it did. -/
def fnLateTasksLastUptoRow : OpenClaim := { program := "ythbajjkggfgogaa", sum := "6e41795347a15a3ff403c90af8bf67ec6506e2d441c6ebca98dc0236543aaf55", func := "loop.example/buildscheduler/laws.FnLateTasksLast", spec := "fnLateTasksLast", apart := false, narrowed := true }
def FnLateTasksLastUptoSaid : Prop := fnLateTasksLastUptoRow.holds Try.pinned (OpenSpec.upto fnLateTasksLastSpec)

/-- 'laws.FnMeetsDeadline', WHERE WHAT IT READS IS OF BULK AT MOST 1048576: true; the input reads as it did. -/
def fnMeetsDeadlineUptoRow : OpenClaim := { program := "ythbajjkggfgogaa", sum := "6e41795347a15a3ff403c90af8bf67ec6506e2d441c6ebca98dc0236543aaf55", func := "loop.example/buildscheduler/laws.FnMeetsDeadline", spec := "fnMeetsDeadline", apart := false, narrowed := true }
def FnMeetsDeadlineUptoSaid : Prop := fnMeetsDeadlineUptoRow.holds Try.pinned (OpenSpec.upto fnMeetsDeadlineSpec)

/-- 'laws.FnWorkersFor', WHERE WHAT IT READS IS OF BULK AT MOST 1048576: true; the input reads as it did. -/
def fnWorkersForUptoRow : OpenClaim := { program := "ythbajjkggfgogaa", sum := "6e41795347a15a3ff403c90af8bf67ec6506e2d441c6ebca98dc0236543aaf55", func := "loop.example/buildscheduler/laws.FnWorkersFor", spec := "fnWorkersFor", apart := false, narrowed := true }
def FnWorkersForUptoSaid : Prop := fnWorkersForUptoRow.holds Try.pinned (OpenSpec.upto fnWorkersForSpec)

/-- 'laws.FnWorkersForOne', WHERE WHAT IT READS IS OF BULK AT MOST 1048576: true; the input reads as it did. -/
def fnWorkersForOneUptoRow : OpenClaim := { program := "ythbajjkggfgogaa", sum := "6e41795347a15a3ff403c90af8bf67ec6506e2d441c6ebca98dc0236543aaf55", func := "loop.example/buildscheduler/laws.FnWorkersForOne", spec := "fnWorkersForOne", apart := false, narrowed := true }
def FnWorkersForOneUptoSaid : Prop := fnWorkersForOneUptoRow.holds Try.pinned (OpenSpec.upto fnWorkersForOneSpec)

/-- 'laws.FnLatestStartsMore', WHERE WHAT IT READS IS OF BULK AT MOST 1048576: true; the input reads as it did. -/
def fnLatestStartsMoreUptoRow : OpenClaim := { program := "ythbajjkggfgogaa", sum := "6e41795347a15a3ff403c90af8bf67ec6506e2d441c6ebca98dc0236543aaf55", func := "loop.example/buildscheduler/laws.FnLatestStartsMore", spec := "fnLatestStartsMore", apart := false, narrowed := true }
def FnLatestStartsMoreUptoSaid : Prop := fnLatestStartsMoreUptoRow.holds Try.pinned (OpenSpec.upto fnLatestStartsMoreSpec)

/-- 'laws.FnLateTasksUsers', WHERE WHAT IT READS IS OF BULK AT MOST 1048576: true; the input reads as it did. -/
def fnLateTasksUsersUptoRow : OpenClaim := { program := "ythbajjkggfgogaa", sum := "6e41795347a15a3ff403c90af8bf67ec6506e2d441c6ebca98dc0236543aaf55", func := "loop.example/buildscheduler/laws.FnLateTasksUsers", spec := "fnLateTasksUsers", apart := false, narrowed := true }
def FnLateTasksUsersUptoSaid : Prop := fnLateTasksUsersUptoRow.holds Try.pinned (OpenSpec.upto fnLateTasksUsersSpec)

/-- 'laws.FnMeetsDeadlineNever', WHERE WHAT IT READS IS OF BULK AT MOST 1048576: true; the input reads as it did. -/
def fnMeetsDeadlineNeverUptoRow : OpenClaim := { program := "ythbajjkggfgogaa", sum := "6e41795347a15a3ff403c90af8bf67ec6506e2d441c6ebca98dc0236543aaf55", func := "loop.example/buildscheduler/laws.FnMeetsDeadlineNever", spec := "fnMeetsDeadlineNever", apart := false, narrowed := true }
def FnMeetsDeadlineNeverUptoSaid : Prop := fnMeetsDeadlineNeverUptoRow.holds Try.pinned (OpenSpec.upto fnMeetsDeadlineNeverSpec)

/-- 'laws.FnWorkersForLater', WHERE WHAT IT READS IS OF BULK AT MOST 1048576: true; the input reads as it did. -/
def fnWorkersForLaterUptoRow : OpenClaim := { program := "ythbajjkggfgogaa", sum := "6e41795347a15a3ff403c90af8bf67ec6506e2d441c6ebca98dc0236543aaf55", func := "loop.example/buildscheduler/laws.FnWorkersForLater", spec := "fnWorkersForLater", apart := false, narrowed := true }
def FnWorkersForLaterUptoSaid : Prop := fnWorkersForLaterUptoRow.holds Try.pinned (OpenSpec.upto fnWorkersForLaterSpec)

end Rows
end Go.Proofs.Ythbajjkggfgogaa
