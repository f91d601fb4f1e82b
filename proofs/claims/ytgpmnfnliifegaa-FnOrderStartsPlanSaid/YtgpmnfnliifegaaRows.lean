/-
  No cell of these rows narrows 'for every input' (looked for: loops, veiled, ifaces, maps, wideKeys, modest, calm, conditions, laid).
  DERIVED. THE GIVEN ROWS OF THIS SEAT. 9 by the template 'for every input the law returns true; each argument reads behind the call as it read before'; 0 by the template 'total and deterministic' (their statements: YtgpmnfnliifegaaTotals.lean).
  GIVEN WITH THE SEED: the statements are not yours to turn. If you find one false, say at which input.
  Laid BY PROGRAM, IN A SANDBOX (cutbox-rows.mjs): the forced cells as the released guide's own fill.sh prints them over the translation 3e3e41cb41ab0712… (all of the seat's roots in one cut). By AI agents, Wed Nov 11 2026. No macro, syntax, notation, axiom, sorry.
-/
import Derived.Test.YtgpmnfnliifegaaChecked
import GoSem.Claim
import GoSem.ClaimJoined
import GoSem.ClaimMapViews
import Derived.JoinedTies
import Derived.KernelRfl
namespace Go.Proofs.Ytgpmnfnliifegaa
/- THE CELL 'sum', in the pinned program and in every row, IS THE sha256 OF THE DUMP (.gsa) THAT YtgpmnfnliifegaaProg.lean LOADS. Nothing in Lean hashes anything: it is a label: what it is worth is what the hold of that sum in a sandbox is worth. -/
noncomputable def Try.pinned : Pinned := { name := "ytgpmnfnliifegaa", sum := "3e3e41cb41ab071231b75fbdd475f0c615f612a2f78640d8a99966fbc5b4c62d", checked := Try.checked }
namespace Rows
def none {H : Type} : Left H := { results := [], args := [] }

/-- 'laws.FnPlanStarts': WHATEVER THE INPUT: true; the input reads as it did. -/
def fnPlanStartsSpec : ChangeSpec := { name := "fnPlanStarts", fn := fun _ => fun
  | [d] => { results := [.lit (.bool true)], args := [d] }
  | _ => none }
def fnPlanStartsRow : OpenClaim := { program := "ytgpmnfnliifegaa", sum := "3e3e41cb41ab071231b75fbdd475f0c615f612a2f78640d8a99966fbc5b4c62d", func := "loop.example/buildscheduler/laws.FnPlanStarts", spec := "fnPlanStarts", apart := false }
def FnPlanStartsSaid : Prop := fnPlanStartsRow.holds Try.pinned (OpenSpec.ofChange fnPlanStartsSpec)

/-- ITS FALSE NEIGHBOUR: 'it returns false'. Refute it at one input. -/
def fnPlanStartsWrong : ChangeSpec := { name := "fnPlanStarts", fn := fun _ => fun
  | [d] => { results := [.lit (.bool false)], args := [d] }
  | _ => none }
def FnPlanStartsWrongFalsely : Prop := fnPlanStartsRow.holds Try.pinned (OpenSpec.ofChange fnPlanStartsWrong)

/-- 'laws.FnPlanStartsBusy': WHATEVER THE INPUT: true; the input reads as it did. -/
def fnPlanStartsBusySpec : ChangeSpec := { name := "fnPlanStartsBusy", fn := fun _ => fun
  | [d] => { results := [.lit (.bool true)], args := [d] }
  | _ => none }
def fnPlanStartsBusyRow : OpenClaim := { program := "ytgpmnfnliifegaa", sum := "3e3e41cb41ab071231b75fbdd475f0c615f612a2f78640d8a99966fbc5b4c62d", func := "loop.example/buildscheduler/laws.FnPlanStartsBusy", spec := "fnPlanStartsBusy", apart := false }
def FnPlanStartsBusySaid : Prop := fnPlanStartsBusyRow.holds Try.pinned (OpenSpec.ofChange fnPlanStartsBusySpec)

/-- ITS FALSE NEIGHBOUR: 'it returns false'. Refute it at one input. -/
def fnPlanStartsBusyWrong : ChangeSpec := { name := "fnPlanStartsBusy", fn := fun _ => fun
  | [d] => { results := [.lit (.bool false)], args := [d] }
  | _ => none }
def FnPlanStartsBusyWrongFalsely : Prop := fnPlanStartsBusyRow.holds Try.pinned (OpenSpec.ofChange fnPlanStartsBusyWrong)

/-- 'laws.FnPlanStartsOne': WHATEVER THE INPUT: true; the input reads as it did. -/
def fnPlanStartsOneSpec : ChangeSpec := { name := "fnPlanStartsOne", fn := fun _ => fun
  | [d] => { results := [.lit (.bool true)], args := [d] }
  | _ => none }
def fnPlanStartsOneRow : OpenClaim := { program := "ytgpmnfnliifegaa", sum := "3e3e41cb41ab071231b75fbdd475f0c615f612a2f78640d8a99966fbc5b4c62d", func := "loop.example/buildscheduler/laws.FnPlanStartsOne", spec := "fnPlanStartsOne", apart := false }
def FnPlanStartsOneSaid : Prop := fnPlanStartsOneRow.holds Try.pinned (OpenSpec.ofChange fnPlanStartsOneSpec)

/-- ITS FALSE NEIGHBOUR: 'it returns false'. Refute it at one input. -/
def fnPlanStartsOneWrong : ChangeSpec := { name := "fnPlanStartsOne", fn := fun _ => fun
  | [d] => { results := [.lit (.bool false)], args := [d] }
  | _ => none }
def FnPlanStartsOneWrongFalsely : Prop := fnPlanStartsOneRow.holds Try.pinned (OpenSpec.ofChange fnPlanStartsOneWrong)

/-- 'laws.FnPlanStartsFirst': WHATEVER THE INPUT: true; the input reads as it did. -/
def fnPlanStartsFirstSpec : ChangeSpec := { name := "fnPlanStartsFirst", fn := fun _ => fun
  | [d] => { results := [.lit (.bool true)], args := [d] }
  | _ => none }
def fnPlanStartsFirstRow : OpenClaim := { program := "ytgpmnfnliifegaa", sum := "3e3e41cb41ab071231b75fbdd475f0c615f612a2f78640d8a99966fbc5b4c62d", func := "loop.example/buildscheduler/laws.FnPlanStartsFirst", spec := "fnPlanStartsFirst", apart := false }
def FnPlanStartsFirstSaid : Prop := fnPlanStartsFirstRow.holds Try.pinned (OpenSpec.ofChange fnPlanStartsFirstSpec)

/-- ITS FALSE NEIGHBOUR: 'it returns false'. Refute it at one input. -/
def fnPlanStartsFirstWrong : ChangeSpec := { name := "fnPlanStartsFirst", fn := fun _ => fun
  | [d] => { results := [.lit (.bool false)], args := [d] }
  | _ => none }
def FnPlanStartsFirstWrongFalsely : Prop := fnPlanStartsFirstRow.holds Try.pinned (OpenSpec.ofChange fnPlanStartsFirstWrong)

/-- 'laws.FnPlanStartsTwice': WHATEVER THE INPUT: true; the input reads as it did. -/
def fnPlanStartsTwiceSpec : ChangeSpec := { name := "fnPlanStartsTwice", fn := fun _ => fun
  | [d] => { results := [.lit (.bool true)], args := [d] }
  | _ => none }
def fnPlanStartsTwiceRow : OpenClaim := { program := "ytgpmnfnliifegaa", sum := "3e3e41cb41ab071231b75fbdd475f0c615f612a2f78640d8a99966fbc5b4c62d", func := "loop.example/buildscheduler/laws.FnPlanStartsTwice", spec := "fnPlanStartsTwice", apart := false }
def FnPlanStartsTwiceSaid : Prop := fnPlanStartsTwiceRow.holds Try.pinned (OpenSpec.ofChange fnPlanStartsTwiceSpec)

/-- ITS FALSE NEIGHBOUR: 'it returns false'. Refute it at one input. -/
def fnPlanStartsTwiceWrong : ChangeSpec := { name := "fnPlanStartsTwice", fn := fun _ => fun
  | [d] => { results := [.lit (.bool false)], args := [d] }
  | _ => none }
def FnPlanStartsTwiceWrongFalsely : Prop := fnPlanStartsTwiceRow.holds Try.pinned (OpenSpec.ofChange fnPlanStartsTwiceWrong)

/-- 'laws.FnLeastTimeMore': WHATEVER THE INPUT: true; the input reads as it did. -/
def fnLeastTimeMoreSpec : ChangeSpec := { name := "fnLeastTimeMore", fn := fun _ => fun
  | [d] => { results := [.lit (.bool true)], args := [d] }
  | _ => none }
def fnLeastTimeMoreRow : OpenClaim := { program := "ytgpmnfnliifegaa", sum := "3e3e41cb41ab071231b75fbdd475f0c615f612a2f78640d8a99966fbc5b4c62d", func := "loop.example/buildscheduler/laws.FnLeastTimeMore", spec := "fnLeastTimeMore", apart := false }
def FnLeastTimeMoreSaid : Prop := fnLeastTimeMoreRow.holds Try.pinned (OpenSpec.ofChange fnLeastTimeMoreSpec)

/-- ITS FALSE NEIGHBOUR: 'it returns false'. Refute it at one input. -/
def fnLeastTimeMoreWrong : ChangeSpec := { name := "fnLeastTimeMore", fn := fun _ => fun
  | [d] => { results := [.lit (.bool false)], args := [d] }
  | _ => none }
def FnLeastTimeMoreWrongFalsely : Prop := fnLeastTimeMoreRow.holds Try.pinned (OpenSpec.ofChange fnLeastTimeMoreWrong)

/-- 'laws.FnHeadTimesMany': WHATEVER THE INPUT: true; the input reads as it did. -/
def fnHeadTimesManySpec : ChangeSpec := { name := "fnHeadTimesMany", fn := fun _ => fun
  | [d] => { results := [.lit (.bool true)], args := [d] }
  | _ => none }
def fnHeadTimesManyRow : OpenClaim := { program := "ytgpmnfnliifegaa", sum := "3e3e41cb41ab071231b75fbdd475f0c615f612a2f78640d8a99966fbc5b4c62d", func := "loop.example/buildscheduler/laws.FnHeadTimesMany", spec := "fnHeadTimesMany", apart := false }
def FnHeadTimesManySaid : Prop := fnHeadTimesManyRow.holds Try.pinned (OpenSpec.ofChange fnHeadTimesManySpec)

/-- ITS FALSE NEIGHBOUR: 'it returns false'. Refute it at one input. -/
def fnHeadTimesManyWrong : ChangeSpec := { name := "fnHeadTimesMany", fn := fun _ => fun
  | [d] => { results := [.lit (.bool false)], args := [d] }
  | _ => none }
def FnHeadTimesManyWrongFalsely : Prop := fnHeadTimesManyRow.holds Try.pinned (OpenSpec.ofChange fnHeadTimesManyWrong)

/-- 'laws.FnBestTime': WHATEVER THE INPUT: true; the input reads as it did. -/
def fnBestTimeSpec : ChangeSpec := { name := "fnBestTime", fn := fun _ => fun
  | [d] => { results := [.lit (.bool true)], args := [d] }
  | _ => none }
def fnBestTimeRow : OpenClaim := { program := "ytgpmnfnliifegaa", sum := "3e3e41cb41ab071231b75fbdd475f0c615f612a2f78640d8a99966fbc5b4c62d", func := "loop.example/buildscheduler/laws.FnBestTime", spec := "fnBestTime", recurses := true, apart := false }
def FnBestTimeSaid : Prop := fnBestTimeRow.holds Try.pinned (OpenSpec.ofChange fnBestTimeSpec)

/-- ITS FALSE NEIGHBOUR: 'it returns false'. Refute it at one input. -/
def fnBestTimeWrong : ChangeSpec := { name := "fnBestTime", fn := fun _ => fun
  | [d] => { results := [.lit (.bool false)], args := [d] }
  | _ => none }
def FnBestTimeWrongFalsely : Prop := fnBestTimeRow.holds Try.pinned (OpenSpec.ofChange fnBestTimeWrong)

/-- 'laws.FnOrderStartsPlan': WHATEVER THE INPUT: true; the input reads as it did. -/
def fnOrderStartsPlanSpec : ChangeSpec := { name := "fnOrderStartsPlan", fn := fun _ => fun
  | [d] => { results := [.lit (.bool true)], args := [d] }
  | _ => none }
def fnOrderStartsPlanRow : OpenClaim := { program := "ytgpmnfnliifegaa", sum := "3e3e41cb41ab071231b75fbdd475f0c615f612a2f78640d8a99966fbc5b4c62d", func := "loop.example/buildscheduler/laws.FnOrderStartsPlan", spec := "fnOrderStartsPlan", apart := false }
def FnOrderStartsPlanSaid : Prop := fnOrderStartsPlanRow.holds Try.pinned (OpenSpec.ofChange fnOrderStartsPlanSpec)

/-- ITS FALSE NEIGHBOUR: 'it returns false'. Refute it at one input. -/
def fnOrderStartsPlanWrong : ChangeSpec := { name := "fnOrderStartsPlan", fn := fun _ => fun
  | [d] => { results := [.lit (.bool false)], args := [d] }
  | _ => none }
def FnOrderStartsPlanWrongFalsely : Prop := fnOrderStartsPlanRow.holds Try.pinned (OpenSpec.ofChange fnOrderStartsPlanWrong)

/- THE SECOND FORM. 'bulk': how many values and letters a reading holds, each counted each time it is reached (what is shared counts as often as it is met; a slice's spare places count too). A statement '..UptoSaid' is the law's where the arguments, and the package variables that the reading takes, are together of bulk at most 1048576: NARROWER than '..Said'. Prove '..Said' where nothing that the law and all that it calls make is longer than what came in: it says more and counts as full. Else prove '..UptoSaid'. A law counts once. -/
mutual
def uptoBulk {H : Type} : DataW H → Nat
  | .lit (.string bytes) => bytes.length + 1
  | .lit _ => 1
  | .nil => 1
  | .ptr d => uptoBulk d + 1
  | .slice elems spare => uptoBulkAll elems + uptoBulkAll spare + 1
  | .agg parts => uptoBulkAll parts + 1
  | .iface _ d => uptoBulk d + 1
  | .map entries => uptoBulkEntries entries + 1
  | .held _ => 1
def uptoBulkAll {H : Type} : List (DataW H) → Nat
  | [] => 0
  | d :: r => uptoBulk d + uptoBulkAll r
def uptoBulkEntries {H : Type} : List (Lit × DataW H) → Nat
  | [] => 0
  | x :: r => uptoBulkEntry x + uptoBulkEntries r
def uptoBulkEntry {H : Type} : Lit × DataW H → Nat
  | (.string bytes, d) => bytes.length + uptoBulk d + 1
  | (_, d) => uptoBulk d + 1
 end
def uptoSmall : (H : Type) → List (DataW H) → Bool := fun _ ds => decide (uptoBulkAll ds ≤ 1048576)
def OpenSpec.upto (s : _root_.Go.ChangeSpec) : _root_.Go.OpenSpec := { _root_.Go.OpenSpec.ofChange s with cond := some uptoSmall }

/-- 'laws.FnPlanStarts', WHERE WHAT IT READS IS OF BULK AT MOST 1048576: true; the input reads as it did. -/
def fnPlanStartsUptoRow : OpenClaim := { program := "ytgpmnfnliifegaa", sum := "3e3e41cb41ab071231b75fbdd475f0c615f612a2f78640d8a99966fbc5b4c62d", func := "loop.example/buildscheduler/laws.FnPlanStarts", spec := "fnPlanStarts", apart := false, narrowed := true }
def FnPlanStartsUptoSaid : Prop := fnPlanStartsUptoRow.holds Try.pinned (OpenSpec.upto fnPlanStartsSpec)

/-- 'laws.FnPlanStartsBusy', WHERE WHAT IT READS IS OF BULK AT MOST 1048576: true; the input reads as it did. -/
def fnPlanStartsBusyUptoRow : OpenClaim := { program := "ytgpmnfnliifegaa", sum := "3e3e41cb41ab071231b75fbdd475f0c615f612a2f78640d8a99966fbc5b4c62d", func := "loop.example/buildscheduler/laws.FnPlanStartsBusy", spec := "fnPlanStartsBusy", apart := false, narrowed := true }
def FnPlanStartsBusyUptoSaid : Prop := fnPlanStartsBusyUptoRow.holds Try.pinned (OpenSpec.upto fnPlanStartsBusySpec)

/-- 'laws.FnPlanStartsOne', WHERE WHAT IT READS IS OF BULK AT MOST 1048576: true; the input reads as it did. -/
def fnPlanStartsOneUptoRow : OpenClaim := { program := "ytgpmnfnliifegaa", sum := "3e3e41cb41ab071231b75fbdd475f0c615f612a2f78640d8a99966fbc5b4c62d", func := "loop.example/buildscheduler/laws.FnPlanStartsOne", spec := "fnPlanStartsOne", apart := false, narrowed := true }
def FnPlanStartsOneUptoSaid : Prop := fnPlanStartsOneUptoRow.holds Try.pinned (OpenSpec.upto fnPlanStartsOneSpec)

/-- 'laws.FnPlanStartsFirst', WHERE WHAT IT READS IS OF BULK AT MOST 1048576: true; the input reads as it did. -/
def fnPlanStartsFirstUptoRow : OpenClaim := { program := "ytgpmnfnliifegaa", sum := "3e3e41cb41ab071231b75fbdd475f0c615f612a2f78640d8a99966fbc5b4c62d", func := "loop.example/buildscheduler/laws.FnPlanStartsFirst", spec := "fnPlanStartsFirst", apart := false, narrowed := true }
def FnPlanStartsFirstUptoSaid : Prop := fnPlanStartsFirstUptoRow.holds Try.pinned (OpenSpec.upto fnPlanStartsFirstSpec)

/-- 'laws.FnPlanStartsTwice', WHERE WHAT IT READS IS OF BULK AT MOST 1048576: true; the input reads as it did. -/
def fnPlanStartsTwiceUptoRow : OpenClaim := { program := "ytgpmnfnliifegaa", sum := "3e3e41cb41ab071231b75fbdd475f0c615f612a2f78640d8a99966fbc5b4c62d", func := "loop.example/buildscheduler/laws.FnPlanStartsTwice", spec := "fnPlanStartsTwice", apart := false, narrowed := true }
def FnPlanStartsTwiceUptoSaid : Prop := fnPlanStartsTwiceUptoRow.holds Try.pinned (OpenSpec.upto fnPlanStartsTwiceSpec)

/-- 'laws.FnLeastTimeMore', WHERE WHAT IT READS IS OF BULK AT MOST 1048576: true; the input reads as it did. -/
def fnLeastTimeMoreUptoRow : OpenClaim := { program := "ytgpmnfnliifegaa", sum := "3e3e41cb41ab071231b75fbdd475f0c615f612a2f78640d8a99966fbc5b4c62d", func := "loop.example/buildscheduler/laws.FnLeastTimeMore", spec := "fnLeastTimeMore", apart := false, narrowed := true }
def FnLeastTimeMoreUptoSaid : Prop := fnLeastTimeMoreUptoRow.holds Try.pinned (OpenSpec.upto fnLeastTimeMoreSpec)

/-- 'laws.FnHeadTimesMany', WHERE WHAT IT READS IS OF BULK AT MOST 1048576: true; the input reads as it did. -/
def fnHeadTimesManyUptoRow : OpenClaim := { program := "ytgpmnfnliifegaa", sum := "3e3e41cb41ab071231b75fbdd475f0c615f612a2f78640d8a99966fbc5b4c62d", func := "loop.example/buildscheduler/laws.FnHeadTimesMany", spec := "fnHeadTimesMany", apart := false, narrowed := true }
def FnHeadTimesManyUptoSaid : Prop := fnHeadTimesManyUptoRow.holds Try.pinned (OpenSpec.upto fnHeadTimesManySpec)

/-- 'laws.FnBestTime', WHERE WHAT IT READS IS OF BULK AT MOST 1048576: true; the input reads as it did. -/
def fnBestTimeUptoRow : OpenClaim := { program := "ytgpmnfnliifegaa", sum := "3e3e41cb41ab071231b75fbdd475f0c615f612a2f78640d8a99966fbc5b4c62d", func := "loop.example/buildscheduler/laws.FnBestTime", spec := "fnBestTime", recurses := true, apart := false, narrowed := true }
def FnBestTimeUptoSaid : Prop := fnBestTimeUptoRow.holds Try.pinned (OpenSpec.upto fnBestTimeSpec)

/-- 'laws.FnOrderStartsPlan', WHERE WHAT IT READS IS OF BULK AT MOST 1048576: true; the input reads as it did. -/
def fnOrderStartsPlanUptoRow : OpenClaim := { program := "ytgpmnfnliifegaa", sum := "3e3e41cb41ab071231b75fbdd475f0c615f612a2f78640d8a99966fbc5b4c62d", func := "loop.example/buildscheduler/laws.FnOrderStartsPlan", spec := "fnOrderStartsPlan", apart := false, narrowed := true }
def FnOrderStartsPlanUptoSaid : Prop := fnOrderStartsPlanUptoRow.holds Try.pinned (OpenSpec.upto fnOrderStartsPlanSpec)

end Rows
end Go.Proofs.Ytgpmnfnliifegaa
