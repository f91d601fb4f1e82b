/-
  No cell of these rows narrows 'for every input' (looked for: loops, veiled, ifaces, maps, wideKeys, modest, calm, conditions, laid).
  DERIVED. THE GIVEN ROWS OF THIS SEAT. 12 by the template 'for every input the law returns true; each argument reads behind the call as it read before'; 0 by the template 'total and deterministic' (their statements: YtcddjgiclnnilaaTotals.lean).
  GIVEN WITH THE SEED: the statements are not yours to turn. If you find one false, say at which input.
  Laid BY PROGRAM, IN A SANDBOX (cutbox-rows.mjs): the forced cells as the released guide's own fill.sh prints them over the translation 18edf8c2ff1cbf61… (all of the seat's roots in one cut). By AI agents, Wed Nov 11 2026. No macro, syntax, notation, axiom, sorry.
-/
import Derived.Test.YtcddjgiclnnilaaChecked
import GoSem.Claim
import GoSem.ClaimJoined
import GoSem.ClaimMapViews
import Derived.JoinedTies
import Derived.KernelRfl
namespace Go.Proofs.Ytcddjgiclnnilaa
/- THE CELL 'sum', in the pinned program and in every row, IS THE sha256 OF THE DUMP (.gsa) THAT YtcddjgiclnnilaaProg.lean LOADS. Nothing in Lean hashes anything: it is a label: what it is worth is what the hold of that sum in a sandbox is worth. -/
noncomputable def Try.pinned : Pinned := { name := "ytcddjgiclnnilaa", sum := "18edf8c2ff1cbf61be625b181c018c4c6765e8615727b8cf1a70e34cd2dee6d1", checked := Try.checked }
namespace Rows
def none {H : Type} : Left H := { results := [], args := [] }

/-- 'laws.FnValidDone': WHATEVER THE INPUT: true; the input reads as it did. -/
def fnValidDoneSpec : ChangeSpec := { name := "fnValidDone", fn := fun _ => fun
  | [d] => { results := [.lit (.bool true)], args := [d] }
  | _ => none }
def fnValidDoneRow : OpenClaim := { program := "ytcddjgiclnnilaa", sum := "18edf8c2ff1cbf61be625b181c018c4c6765e8615727b8cf1a70e34cd2dee6d1", func := "loop.example/buildscheduler/laws.FnValidDone", spec := "fnValidDone", apart := false }
def FnValidDoneSaid : Prop := fnValidDoneRow.holds Try.pinned (OpenSpec.ofChange fnValidDoneSpec)

/-- ITS FALSE NEIGHBOUR: 'it returns false'. Refute it at one input. -/
def fnValidDoneWrong : ChangeSpec := { name := "fnValidDone", fn := fun _ => fun
  | [d] => { results := [.lit (.bool false)], args := [d] }
  | _ => none }
def FnValidDoneWrongFalsely : Prop := fnValidDoneRow.holds Try.pinned (OpenSpec.ofChange fnValidDoneWrong)

/-- 'laws.FnReadyTasks': WHATEVER THE INPUT: true; the input reads as it did. -/
def fnReadyTasksSpec : ChangeSpec := { name := "fnReadyTasks", fn := fun _ => fun
  | [d] => { results := [.lit (.bool true)], args := [d] }
  | _ => none }
def fnReadyTasksRow : OpenClaim := { program := "ytcddjgiclnnilaa", sum := "18edf8c2ff1cbf61be625b181c018c4c6765e8615727b8cf1a70e34cd2dee6d1", func := "loop.example/buildscheduler/laws.FnReadyTasks", spec := "fnReadyTasks", apart := false }
def FnReadyTasksSaid : Prop := fnReadyTasksRow.holds Try.pinned (OpenSpec.ofChange fnReadyTasksSpec)

/-- ITS FALSE NEIGHBOUR: 'it returns false'. Refute it at one input. -/
def fnReadyTasksWrong : ChangeSpec := { name := "fnReadyTasks", fn := fun _ => fun
  | [d] => { results := [.lit (.bool false)], args := [d] }
  | _ => none }
def FnReadyTasksWrongFalsely : Prop := fnReadyTasksRow.holds Try.pinned (OpenSpec.ofChange fnReadyTasksWrong)

/-- 'laws.FnReadyTasksFirst': WHATEVER THE INPUT: true; the input reads as it did. -/
def fnReadyTasksFirstSpec : ChangeSpec := { name := "fnReadyTasksFirst", fn := fun _ => fun
  | [d] => { results := [.lit (.bool true)], args := [d] }
  | _ => none }
def fnReadyTasksFirstRow : OpenClaim := { program := "ytcddjgiclnnilaa", sum := "18edf8c2ff1cbf61be625b181c018c4c6765e8615727b8cf1a70e34cd2dee6d1", func := "loop.example/buildscheduler/laws.FnReadyTasksFirst", spec := "fnReadyTasksFirst", apart := false }
def FnReadyTasksFirstSaid : Prop := fnReadyTasksFirstRow.holds Try.pinned (OpenSpec.ofChange fnReadyTasksFirstSpec)

/-- ITS FALSE NEIGHBOUR: 'it returns false'. Refute it at one input. -/
def fnReadyTasksFirstWrong : ChangeSpec := { name := "fnReadyTasksFirst", fn := fun _ => fun
  | [d] => { results := [.lit (.bool false)], args := [d] }
  | _ => none }
def FnReadyTasksFirstWrongFalsely : Prop := fnReadyTasksFirstRow.holds Try.pinned (OpenSpec.ofChange fnReadyTasksFirstWrong)

/-- 'laws.FnReadyOrder': WHATEVER THE INPUT: true; the input reads as it did. -/
def fnReadyOrderSpec : ChangeSpec := { name := "fnReadyOrder", fn := fun _ => fun
  | [d] => { results := [.lit (.bool true)], args := [d] }
  | _ => none }
def fnReadyOrderRow : OpenClaim := { program := "ytcddjgiclnnilaa", sum := "18edf8c2ff1cbf61be625b181c018c4c6765e8615727b8cf1a70e34cd2dee6d1", func := "loop.example/buildscheduler/laws.FnReadyOrder", spec := "fnReadyOrder", apart := false }
def FnReadyOrderSaid : Prop := fnReadyOrderRow.holds Try.pinned (OpenSpec.ofChange fnReadyOrderSpec)

/-- ITS FALSE NEIGHBOUR: 'it returns false'. Refute it at one input. -/
def fnReadyOrderWrong : ChangeSpec := { name := "fnReadyOrder", fn := fun _ => fun
  | [d] => { results := [.lit (.bool false)], args := [d] }
  | _ => none }
def FnReadyOrderWrongFalsely : Prop := fnReadyOrderRow.holds Try.pinned (OpenSpec.ofChange fnReadyOrderWrong)

/-- 'laws.FnFinishTask': WHATEVER THE INPUT: true; the input reads as it did. -/
def fnFinishTaskSpec : ChangeSpec := { name := "fnFinishTask", fn := fun _ => fun
  | [d] => { results := [.lit (.bool true)], args := [d] }
  | _ => none }
def fnFinishTaskRow : OpenClaim := { program := "ytcddjgiclnnilaa", sum := "18edf8c2ff1cbf61be625b181c018c4c6765e8615727b8cf1a70e34cd2dee6d1", func := "loop.example/buildscheduler/laws.FnFinishTask", spec := "fnFinishTask", apart := false }
def FnFinishTaskSaid : Prop := fnFinishTaskRow.holds Try.pinned (OpenSpec.ofChange fnFinishTaskSpec)

/-- ITS FALSE NEIGHBOUR: 'it returns false'. Refute it at one input. -/
def fnFinishTaskWrong : ChangeSpec := { name := "fnFinishTask", fn := fun _ => fun
  | [d] => { results := [.lit (.bool false)], args := [d] }
  | _ => none }
def FnFinishTaskWrongFalsely : Prop := fnFinishTaskRow.holds Try.pinned (OpenSpec.ofChange fnFinishTaskWrong)

/-- 'laws.FnFinishTaskOrder': WHATEVER THE INPUT: true; the input reads as it did. -/
def fnFinishTaskOrderSpec : ChangeSpec := { name := "fnFinishTaskOrder", fn := fun _ => fun
  | [d] => { results := [.lit (.bool true)], args := [d] }
  | _ => none }
def fnFinishTaskOrderRow : OpenClaim := { program := "ytcddjgiclnnilaa", sum := "18edf8c2ff1cbf61be625b181c018c4c6765e8615727b8cf1a70e34cd2dee6d1", func := "loop.example/buildscheduler/laws.FnFinishTaskOrder", spec := "fnFinishTaskOrder", apart := false }
def FnFinishTaskOrderSaid : Prop := fnFinishTaskOrderRow.holds Try.pinned (OpenSpec.ofChange fnFinishTaskOrderSpec)

/-- ITS FALSE NEIGHBOUR: 'it returns false'. Refute it at one input. -/
def fnFinishTaskOrderWrong : ChangeSpec := { name := "fnFinishTaskOrder", fn := fun _ => fun
  | [d] => { results := [.lit (.bool false)], args := [d] }
  | _ => none }
def FnFinishTaskOrderWrongFalsely : Prop := fnFinishTaskOrderRow.holds Try.pinned (OpenSpec.ofChange fnFinishTaskOrderWrong)

/-- 'laws.FnWaitsFor': WHATEVER THE INPUT: true; the input reads as it did. -/
def fnWaitsForSpec : ChangeSpec := { name := "fnWaitsFor", fn := fun _ => fun
  | [d] => { results := [.lit (.bool true)], args := [d] }
  | _ => none }
def fnWaitsForRow : OpenClaim := { program := "ytcddjgiclnnilaa", sum := "18edf8c2ff1cbf61be625b181c018c4c6765e8615727b8cf1a70e34cd2dee6d1", func := "loop.example/buildscheduler/laws.FnWaitsFor", spec := "fnWaitsFor", apart := false }
def FnWaitsForSaid : Prop := fnWaitsForRow.holds Try.pinned (OpenSpec.ofChange fnWaitsForSpec)

/-- ITS FALSE NEIGHBOUR: 'it returns false'. Refute it at one input. -/
def fnWaitsForWrong : ChangeSpec := { name := "fnWaitsFor", fn := fun _ => fun
  | [d] => { results := [.lit (.bool false)], args := [d] }
  | _ => none }
def FnWaitsForWrongFalsely : Prop := fnWaitsForRow.holds Try.pinned (OpenSpec.ofChange fnWaitsForWrong)

/-- 'laws.FnValidRoom': WHATEVER THE INPUT: true; the input reads as it did. -/
def fnValidRoomSpec : ChangeSpec := { name := "fnValidRoom", fn := fun _ => fun
  | [d] => { results := [.lit (.bool true)], args := [d] }
  | _ => none }
def fnValidRoomRow : OpenClaim := { program := "ytcddjgiclnnilaa", sum := "18edf8c2ff1cbf61be625b181c018c4c6765e8615727b8cf1a70e34cd2dee6d1", func := "loop.example/buildscheduler/laws.FnValidRoom", spec := "fnValidRoom", apart := false }
def FnValidRoomSaid : Prop := fnValidRoomRow.holds Try.pinned (OpenSpec.ofChange fnValidRoomSpec)

/-- ITS FALSE NEIGHBOUR: 'it returns false'. Refute it at one input. -/
def fnValidRoomWrong : ChangeSpec := { name := "fnValidRoom", fn := fun _ => fun
  | [d] => { results := [.lit (.bool false)], args := [d] }
  | _ => none }
def FnValidRoomWrongFalsely : Prop := fnValidRoomRow.holds Try.pinned (OpenSpec.ofChange fnValidRoomWrong)

/-- 'laws.FnUsedUnits': WHATEVER THE INPUT: true; the input reads as it did. -/
def fnUsedUnitsSpec : ChangeSpec := { name := "fnUsedUnits", fn := fun _ => fun
  | [d] => { results := [.lit (.bool true)], args := [d] }
  | _ => none }
def fnUsedUnitsRow : OpenClaim := { program := "ytcddjgiclnnilaa", sum := "18edf8c2ff1cbf61be625b181c018c4c6765e8615727b8cf1a70e34cd2dee6d1", func := "loop.example/buildscheduler/laws.FnUsedUnits", spec := "fnUsedUnits", apart := false }
def FnUsedUnitsSaid : Prop := fnUsedUnitsRow.holds Try.pinned (OpenSpec.ofChange fnUsedUnitsSpec)

/-- ITS FALSE NEIGHBOUR: 'it returns false'. Refute it at one input. -/
def fnUsedUnitsWrong : ChangeSpec := { name := "fnUsedUnits", fn := fun _ => fun
  | [d] => { results := [.lit (.bool false)], args := [d] }
  | _ => none }
def FnUsedUnitsWrongFalsely : Prop := fnUsedUnitsRow.holds Try.pinned (OpenSpec.ofChange fnUsedUnitsWrong)

/-- 'laws.FnRunsTogether': WHATEVER THE INPUT: true; the input reads as it did. -/
def fnRunsTogetherSpec : ChangeSpec := { name := "fnRunsTogether", fn := fun _ => fun
  | [d] => { results := [.lit (.bool true)], args := [d] }
  | _ => none }
def fnRunsTogetherRow : OpenClaim := { program := "ytcddjgiclnnilaa", sum := "18edf8c2ff1cbf61be625b181c018c4c6765e8615727b8cf1a70e34cd2dee6d1", func := "loop.example/buildscheduler/laws.FnRunsTogether", spec := "fnRunsTogether", apart := false }
def FnRunsTogetherSaid : Prop := fnRunsTogetherRow.holds Try.pinned (OpenSpec.ofChange fnRunsTogetherSpec)

/-- ITS FALSE NEIGHBOUR: 'it returns false'. Refute it at one input. -/
def fnRunsTogetherWrong : ChangeSpec := { name := "fnRunsTogether", fn := fun _ => fun
  | [d] => { results := [.lit (.bool false)], args := [d] }
  | _ => none }
def FnRunsTogetherWrongFalsely : Prop := fnRunsTogetherRow.holds Try.pinned (OpenSpec.ofChange fnRunsTogetherWrong)

/-- 'laws.FnRunsTogetherUnits': WHATEVER THE INPUT: true; the input reads as it did. -/
def fnRunsTogetherUnitsSpec : ChangeSpec := { name := "fnRunsTogetherUnits", fn := fun _ => fun
  | [d] => { results := [.lit (.bool true)], args := [d] }
  | _ => none }
def fnRunsTogetherUnitsRow : OpenClaim := { program := "ytcddjgiclnnilaa", sum := "18edf8c2ff1cbf61be625b181c018c4c6765e8615727b8cf1a70e34cd2dee6d1", func := "loop.example/buildscheduler/laws.FnRunsTogetherUnits", spec := "fnRunsTogetherUnits", apart := false }
def FnRunsTogetherUnitsSaid : Prop := fnRunsTogetherUnitsRow.holds Try.pinned (OpenSpec.ofChange fnRunsTogetherUnitsSpec)

/-- ITS FALSE NEIGHBOUR: 'it returns false'. Refute it at one input. -/
def fnRunsTogetherUnitsWrong : ChangeSpec := { name := "fnRunsTogetherUnits", fn := fun _ => fun
  | [d] => { results := [.lit (.bool false)], args := [d] }
  | _ => none }
def FnRunsTogetherUnitsWrongFalsely : Prop := fnRunsTogetherUnitsRow.holds Try.pinned (OpenSpec.ofChange fnRunsTogetherUnitsWrong)

/-- 'laws.FnAdmitTasks': WHATEVER THE INPUT: true; the input reads as it did. -/
def fnAdmitTasksSpec : ChangeSpec := { name := "fnAdmitTasks", fn := fun _ => fun
  | [d] => { results := [.lit (.bool true)], args := [d] }
  | _ => none }
def fnAdmitTasksRow : OpenClaim := { program := "ytcddjgiclnnilaa", sum := "18edf8c2ff1cbf61be625b181c018c4c6765e8615727b8cf1a70e34cd2dee6d1", func := "loop.example/buildscheduler/laws.FnAdmitTasks", spec := "fnAdmitTasks", apart := false }
def FnAdmitTasksSaid : Prop := fnAdmitTasksRow.holds Try.pinned (OpenSpec.ofChange fnAdmitTasksSpec)

/-- ITS FALSE NEIGHBOUR: 'it returns false'. Refute it at one input. -/
def fnAdmitTasksWrong : ChangeSpec := { name := "fnAdmitTasks", fn := fun _ => fun
  | [d] => { results := [.lit (.bool false)], args := [d] }
  | _ => none }
def FnAdmitTasksWrongFalsely : Prop := fnAdmitTasksRow.holds Try.pinned (OpenSpec.ofChange fnAdmitTasksWrong)

/- THE SECOND FORM. 'bulk': how many values and letters a reading holds, each counted each time it is reached (what is shared counts as often as it is met; a slice's spare places count too). A statement '..UptoSaid' is the law's where the arguments, and the package variables that the reading takes, are together of bulk at most 1048576: NARROWER than '..Said'. Prove '..Said' where nothing that the law and all that it calls make is longer than what came in: it says more and counts as full. Else prove '..UptoSaid'. A law counts once. -/
mutual
def uptoBulk {H : Type} : DataW H → Nat
  | .lit (.string bytes) => bytes.length + 1
  | .lit _ => 1
  | .nil => 1
  | .ptr d => uptoBulk d + 1
  | .slice elems spare => uptoBulkAll elems + uptoBulkAll spare + 1
  | .agg parts => uptoBulkAll parts + 1
  | .iface _ d => uptoBulk d + 1
  | .map entries => uptoBulkEntries entries + 1
  | .held _ => 1
def uptoBulkAll {H : Type} : List (DataW H) → Nat
  | [] => 0
  | d :: r => uptoBulk d + uptoBulkAll r
def uptoBulkEntries {H : Type} : List (Lit × DataW H) → Nat
  | [] => 0
  | x :: r => uptoBulkEntry x + uptoBulkEntries r
def uptoBulkEntry {H : Type} : Lit × DataW H → Nat
  | (.string bytes, d) => bytes.length + uptoBulk d + 1
  | (_, d) => uptoBulk d + 1
 end
def uptoSmall : (H : Type) → List (DataW H) → Bool := fun _ ds => decide (uptoBulkAll ds ≤ 1048576)
def OpenSpec.upto (s : _root_.Go.ChangeSpec) : _root_.Go.OpenSpec := { _root_.Go.OpenSpec.ofChange s with cond := some uptoSmall }

/-- 'laws.FnValidDone', WHERE WHAT IT READS IS OF BULK AT MOST 1048576: true; the input reads as it did. -/
def fnValidDoneUptoRow : OpenClaim := { program := "ytcddjgiclnnilaa", sum := "18edf8c2ff1cbf61be625b181c018c4c6765e8615727b8cf1a70e34cd2dee6d1", func := "loop.example/buildscheduler/laws.FnValidDone", spec := "fnValidDone", apart := false, narrowed := true }
def FnValidDoneUptoSaid : Prop := fnValidDoneUptoRow.holds Try.pinned (OpenSpec.upto fnValidDoneSpec)

/-- 'laws.FnReadyTasks', WHERE WHAT IT READS IS OF BULK AT MOST 1048576: true; the input reads as it did. -/
def fnReadyTasksUptoRow : OpenClaim := { program := "ytcddjgiclnnilaa", sum := "18edf8c2ff1cbf61be625b181c018c4c6765e8615727b8cf1a70e34cd2dee6d1", func := "loop.example/buildscheduler/laws.FnReadyTasks", spec := "fnReadyTasks", apart := false, narrowed := true }
def FnReadyTasksUptoSaid : Prop := fnReadyTasksUptoRow.holds Try.pinned (OpenSpec.upto fnReadyTasksSpec)

/-- 'laws.FnReadyTasksFirst', WHERE WHAT IT READS IS OF BULK AT MOST 1048576: true; the input reads as it did. -/
def fnReadyTasksFirstUptoRow : OpenClaim := { program := "ytcddjgiclnnilaa", sum := "18edf8c2ff1cbf61be625b181c018c4c6765e8615727b8cf1a70e34cd2dee6d1", func := "loop.example/buildscheduler/laws.FnReadyTasksFirst", spec := "fnReadyTasksFirst", apart := false, narrowed := true }
def FnReadyTasksFirstUptoSaid : Prop := fnReadyTasksFirstUptoRow.holds Try.pinned (OpenSpec.upto fnReadyTasksFirstSpec)

/-- 'laws.FnReadyOrder', WHERE WHAT IT READS IS OF BULK AT MOST 1048576: true; the input reads as it did. -/
def fnReadyOrderUptoRow : OpenClaim := { program := "ytcddjgiclnnilaa", sum := "18edf8c2ff1cbf61be625b181c018c4c6765e8615727b8cf1a70e34cd2dee6d1", func := "loop.example/buildscheduler/laws.FnReadyOrder", spec := "fnReadyOrder", apart := false, narrowed := true }
def FnReadyOrderUptoSaid : Prop := fnReadyOrderUptoRow.holds Try.pinned (OpenSpec.upto fnReadyOrderSpec)

/-- 'laws.FnFinishTask', WHERE WHAT IT READS IS OF BULK AT MOST 1048576: true; the input reads as it did. -/
def fnFinishTaskUptoRow : OpenClaim := { program := "ytcddjgiclnnilaa", sum := "18edf8c2ff1cbf61be625b181c018c4c6765e8615727b8cf1a70e34cd2dee6d1", func := "loop.example/buildscheduler/laws.FnFinishTask", spec := "fnFinishTask", apart := false, narrowed := true }
def FnFinishTaskUptoSaid : Prop := fnFinishTaskUptoRow.holds Try.pinned (OpenSpec.upto fnFinishTaskSpec)

/-- 'laws.FnFinishTaskOrder', WHERE WHAT IT READS IS OF BULK AT MOST 1048576: true; the input reads as it did. -/
def fnFinishTaskOrderUptoRow : OpenClaim := { program := "ytcddjgiclnnilaa", sum := "18edf8c2ff1cbf61be625b181c018c4c6765e8615727b8cf1a70e34cd2dee6d1", func := "loop.example/buildscheduler/laws.FnFinishTaskOrder", spec := "fnFinishTaskOrder", apart := false, narrowed := true }
def FnFinishTaskOrderUptoSaid : Prop := fnFinishTaskOrderUptoRow.holds Try.pinned (OpenSpec.upto fnFinishTaskOrderSpec)

/-- 'laws.FnWaitsFor', WHERE WHAT IT READS IS OF BULK AT MOST 1048576: true; the input reads as it did. -/
def fnWaitsForUptoRow : OpenClaim := { program := "ytcddjgiclnnilaa", sum := "18edf8c2ff1cbf61be625b181c018c4c6765e8615727b8cf1a70e34cd2dee6d1", func := "loop.example/buildscheduler/laws.FnWaitsFor", spec := "fnWaitsFor", apart := false, narrowed := true }
def FnWaitsForUptoSaid : Prop := fnWaitsForUptoRow.holds Try.pinned (OpenSpec.upto fnWaitsForSpec)

/-- 'laws.FnValidRoom', WHERE WHAT IT READS IS OF BULK AT MOST 1048576: true; the input reads as it did. -/
def fnValidRoomUptoRow : OpenClaim := { program := "ytcddjgiclnnilaa", sum := "18edf8c2ff1cbf61be625b181c018c4c6765e8615727b8cf1a70e34cd2dee6d1", func := "loop.example/buildscheduler/laws.FnValidRoom", spec := "fnValidRoom", apart := false, narrowed := true }
def FnValidRoomUptoSaid : Prop := fnValidRoomUptoRow.holds Try.pinned (OpenSpec.upto fnValidRoomSpec)

/-- 'laws.FnUsedUnits', WHERE WHAT IT READS IS OF BULK AT MOST 1048576: true; the input reads as it did. -/
def fnUsedUnitsUptoRow : OpenClaim := { program := "ytcddjgiclnnilaa", sum := "18edf8c2ff1cbf61be625b181c018c4c6765e8615727b8cf1a70e34cd2dee6d1", func := "loop.example/buildscheduler/laws.FnUsedUnits", spec := "fnUsedUnits", apart := false, narrowed := true }
def FnUsedUnitsUptoSaid : Prop := fnUsedUnitsUptoRow.holds Try.pinned (OpenSpec.upto fnUsedUnitsSpec)

/-- 'laws.FnRunsTogether', WHERE WHAT IT READS IS OF BULK AT MOST 1048576: true; the input reads as it did. -/
def fnRunsTogetherUptoRow : OpenClaim := { program := "ytcddjgiclnnilaa", sum := "18edf8c2ff1cbf61be625b181c018c4c6765e8615727b8cf1a70e34cd2dee6d1", func := "loop.example/buildscheduler/laws.FnRunsTogether", spec := "fnRunsTogether", apart := false, narrowed := true }
def FnRunsTogetherUptoSaid : Prop := fnRunsTogetherUptoRow.holds Try.pinned (OpenSpec.upto fnRunsTogetherSpec)

/-- 'laws.FnRunsTogetherUnits', WHERE WHAT IT READS IS OF BULK AT MOST 1048576: true; the input reads as it did. -/
def fnRunsTogetherUnitsUptoRow : OpenClaim := { program := "ytcddjgiclnnilaa", sum := "18edf8c2ff1cbf61be625b181c018c4c6765e8615727b8cf1a70e34cd2dee6d1", func := "loop.example/buildscheduler/laws.FnRunsTogetherUnits", spec := "fnRunsTogetherUnits", apart := false, narrowed := true }
def FnRunsTogetherUnitsUptoSaid : Prop := fnRunsTogetherUnitsUptoRow.holds Try.pinned (OpenSpec.upto fnRunsTogetherUnitsSpec)

/-- 'laws.FnAdmitTasks', WHERE WHAT IT READS IS OF BULK AT MOST 1048576: true; the input reads as it did. -/
def fnAdmitTasksUptoRow : OpenClaim := { program := "ytcddjgiclnnilaa", sum := "18edf8c2ff1cbf61be625b181c018c4c6765e8615727b8cf1a70e34cd2dee6d1", func := "loop.example/buildscheduler/laws.FnAdmitTasks", spec := "fnAdmitTasks", apart := false, narrowed := true }
def FnAdmitTasksUptoSaid : Prop := fnAdmitTasksUptoRow.holds Try.pinned (OpenSpec.upto fnAdmitTasksSpec)

end Rows
end Go.Proofs.Ytcddjgiclnnilaa
