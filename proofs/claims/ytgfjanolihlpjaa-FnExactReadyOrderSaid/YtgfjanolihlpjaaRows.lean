/-
  No cell of these rows narrows 'for every input' (looked for: loops, veiled, ifaces, maps, wideKeys, modest, calm, conditions, laid).
  DERIVED. THE GIVEN ROWS OF THIS SEAT. 10 by the template 'for every input the law returns true; each argument reads behind the call as it read before'; 0 by the template 'total and deterministic' (their statements: YtgfjanolihlpjaaTotals.lean).
  GIVEN WITH THE SEED: the statements are not yours to turn. If you find one false, say at which input.
  Laid BY PROGRAM, IN A SANDBOX (cutbox-rows.mjs): the forced cells as the released guide's own fill.sh prints them over the translation 1cc12a51130c3003… (all of the seat's roots in one cut). By AI agents, Wed Nov 11 2026. No macro, syntax, notation, axiom, sorry.
-/
import Derived.Test.YtgfjanolihlpjaaChecked
import GoSem.Claim
import GoSem.ClaimJoined
import GoSem.ClaimMapViews
import Derived.JoinedTies
import Derived.KernelRfl
namespace Go.Proofs.Ytgfjanolihlpjaa
/- THE CELL 'sum', in the pinned program and in every row, IS THE sha256 OF THE DUMP (.gsa) THAT YtgfjanolihlpjaaProg.lean LOADS. Nothing in Lean hashes anything: it is a label: what it is worth is what the hold of that sum in a sandbox is worth. -/
noncomputable def Try.pinned : Pinned := { name := "ytgfjanolihlpjaa", sum := "1cc12a51130c300341a1cbb54438565ff6fa3bb662674f5fcee02398dfa27238", checked := Try.checked }
namespace Rows
def none {H : Type} : Left H := { results := [], args := [] }

/-- 'laws.FnExactValidDone': WHATEVER THE INPUT: true; the input reads as it did. -/
def fnExactValidDoneSpec : ChangeSpec := { name := "fnExactValidDone", fn := fun _ => fun
  | [d1, d2] => { results := [.lit (.bool true)], args := [d1, d2] }
  | _ => none }
def fnExactValidDoneRow : OpenClaim := { program := "ytgfjanolihlpjaa", sum := "1cc12a51130c300341a1cbb54438565ff6fa3bb662674f5fcee02398dfa27238", func := "loop.example/buildscheduler/laws.FnExactValidDone", spec := "fnExactValidDone", apart := false }
def FnExactValidDoneSaid : Prop := fnExactValidDoneRow.holds Try.pinned (OpenSpec.ofChange fnExactValidDoneSpec)

/-- ITS FALSE NEIGHBOUR: 'it returns false'. Refute it at one input. -/
def fnExactValidDoneWrong : ChangeSpec := { name := "fnExactValidDone", fn := fun _ => fun
  | [d1, d2] => { results := [.lit (.bool false)], args := [d1, d2] }
  | _ => none }
def FnExactValidDoneWrongFalsely : Prop := fnExactValidDoneRow.holds Try.pinned (OpenSpec.ofChange fnExactValidDoneWrong)

/-- 'laws.FnExactReadyTasks': WHATEVER THE INPUT: true; the input reads as it did. -/
def fnExactReadyTasksSpec : ChangeSpec := { name := "fnExactReadyTasks", fn := fun _ => fun
  | [d1, d2] => { results := [.lit (.bool true)], args := [d1, d2] }
  | _ => none }
def fnExactReadyTasksRow : OpenClaim := { program := "ytgfjanolihlpjaa", sum := "1cc12a51130c300341a1cbb54438565ff6fa3bb662674f5fcee02398dfa27238", func := "loop.example/buildscheduler/laws.FnExactReadyTasks", spec := "fnExactReadyTasks", apart := false }
def FnExactReadyTasksSaid : Prop := fnExactReadyTasksRow.holds Try.pinned (OpenSpec.ofChange fnExactReadyTasksSpec)

/-- ITS FALSE NEIGHBOUR: 'it returns false'. Refute it at one input. -/
def fnExactReadyTasksWrong : ChangeSpec := { name := "fnExactReadyTasks", fn := fun _ => fun
  | [d1, d2] => { results := [.lit (.bool false)], args := [d1, d2] }
  | _ => none }
def FnExactReadyTasksWrongFalsely : Prop := fnExactReadyTasksRow.holds Try.pinned (OpenSpec.ofChange fnExactReadyTasksWrong)

/-- 'laws.FnExactReadyOrder': WHATEVER THE INPUT: true; the input reads as it did. -/
def fnExactReadyOrderSpec : ChangeSpec := { name := "fnExactReadyOrder", fn := fun _ => fun
  | [d1, d2] => { results := [.lit (.bool true)], args := [d1, d2] }
  | _ => none }
def fnExactReadyOrderRow : OpenClaim := { program := "ytgfjanolihlpjaa", sum := "1cc12a51130c300341a1cbb54438565ff6fa3bb662674f5fcee02398dfa27238", func := "loop.example/buildscheduler/laws.FnExactReadyOrder", spec := "fnExactReadyOrder", apart := false }
def FnExactReadyOrderSaid : Prop := fnExactReadyOrderRow.holds Try.pinned (OpenSpec.ofChange fnExactReadyOrderSpec)

/-- ITS FALSE NEIGHBOUR: 'it returns false'. Refute it at one input. -/
def fnExactReadyOrderWrong : ChangeSpec := { name := "fnExactReadyOrder", fn := fun _ => fun
  | [d1, d2] => { results := [.lit (.bool false)], args := [d1, d2] }
  | _ => none }
def FnExactReadyOrderWrongFalsely : Prop := fnExactReadyOrderRow.holds Try.pinned (OpenSpec.ofChange fnExactReadyOrderWrong)

/-- 'laws.FnExactFinishTask': WHATEVER THE INPUT: true; the input reads as it did. -/
def fnExactFinishTaskSpec : ChangeSpec := { name := "fnExactFinishTask", fn := fun _ => fun
  | [d1, d2, d3] => { results := [.lit (.bool true)], args := [d1, d2, d3] }
  | _ => none }
def fnExactFinishTaskRow : OpenClaim := { program := "ytgfjanolihlpjaa", sum := "1cc12a51130c300341a1cbb54438565ff6fa3bb662674f5fcee02398dfa27238", func := "loop.example/buildscheduler/laws.FnExactFinishTask", spec := "fnExactFinishTask", apart := false }
def FnExactFinishTaskSaid : Prop := fnExactFinishTaskRow.holds Try.pinned (OpenSpec.ofChange fnExactFinishTaskSpec)

/-- ITS FALSE NEIGHBOUR: 'it returns false'. Refute it at one input. -/
def fnExactFinishTaskWrong : ChangeSpec := { name := "fnExactFinishTask", fn := fun _ => fun
  | [d1, d2, d3] => { results := [.lit (.bool false)], args := [d1, d2, d3] }
  | _ => none }
def FnExactFinishTaskWrongFalsely : Prop := fnExactFinishTaskRow.holds Try.pinned (OpenSpec.ofChange fnExactFinishTaskWrong)

/-- 'laws.FnExactWaitsFor': WHATEVER THE INPUT: true; the input reads as it did. -/
def fnExactWaitsForSpec : ChangeSpec := { name := "fnExactWaitsFor", fn := fun _ => fun
  | [d1, d2, d3] => { results := [.lit (.bool true)], args := [d1, d2, d3] }
  | _ => none }
def fnExactWaitsForRow : OpenClaim := { program := "ytgfjanolihlpjaa", sum := "1cc12a51130c300341a1cbb54438565ff6fa3bb662674f5fcee02398dfa27238", func := "loop.example/buildscheduler/laws.FnExactWaitsFor", spec := "fnExactWaitsFor", apart := false }
def FnExactWaitsForSaid : Prop := fnExactWaitsForRow.holds Try.pinned (OpenSpec.ofChange fnExactWaitsForSpec)

/-- ITS FALSE NEIGHBOUR: 'it returns false'. Refute it at one input. -/
def fnExactWaitsForWrong : ChangeSpec := { name := "fnExactWaitsFor", fn := fun _ => fun
  | [d1, d2, d3] => { results := [.lit (.bool false)], args := [d1, d2, d3] }
  | _ => none }
def FnExactWaitsForWrongFalsely : Prop := fnExactWaitsForRow.holds Try.pinned (OpenSpec.ofChange fnExactWaitsForWrong)

/-- 'laws.FnExactValidRoom': WHATEVER THE INPUT: true; the input reads as it did. -/
def fnExactValidRoomSpec : ChangeSpec := { name := "fnExactValidRoom", fn := fun _ => fun
  | [d] => { results := [.lit (.bool true)], args := [d] }
  | _ => none }
def fnExactValidRoomRow : OpenClaim := { program := "ytgfjanolihlpjaa", sum := "1cc12a51130c300341a1cbb54438565ff6fa3bb662674f5fcee02398dfa27238", func := "loop.example/buildscheduler/laws.FnExactValidRoom", spec := "fnExactValidRoom", apart := false }
def FnExactValidRoomSaid : Prop := fnExactValidRoomRow.holds Try.pinned (OpenSpec.ofChange fnExactValidRoomSpec)

/-- ITS FALSE NEIGHBOUR: 'it returns false'. Refute it at one input. -/
def fnExactValidRoomWrong : ChangeSpec := { name := "fnExactValidRoom", fn := fun _ => fun
  | [d] => { results := [.lit (.bool false)], args := [d] }
  | _ => none }
def FnExactValidRoomWrongFalsely : Prop := fnExactValidRoomRow.holds Try.pinned (OpenSpec.ofChange fnExactValidRoomWrong)

/-- 'laws.FnExactUsedUnits': WHATEVER THE INPUT: true; the input reads as it did. -/
def fnExactUsedUnitsSpec : ChangeSpec := { name := "fnExactUsedUnits", fn := fun _ => fun
  | [d1, d2] => { results := [.lit (.bool true)], args := [d1, d2] }
  | _ => none }
def fnExactUsedUnitsRow : OpenClaim := { program := "ytgfjanolihlpjaa", sum := "1cc12a51130c300341a1cbb54438565ff6fa3bb662674f5fcee02398dfa27238", func := "loop.example/buildscheduler/laws.FnExactUsedUnits", spec := "fnExactUsedUnits", apart := false }
def FnExactUsedUnitsSaid : Prop := fnExactUsedUnitsRow.holds Try.pinned (OpenSpec.ofChange fnExactUsedUnitsSpec)

/-- ITS FALSE NEIGHBOUR: 'it returns false'. Refute it at one input. -/
def fnExactUsedUnitsWrong : ChangeSpec := { name := "fnExactUsedUnits", fn := fun _ => fun
  | [d1, d2] => { results := [.lit (.bool false)], args := [d1, d2] }
  | _ => none }
def FnExactUsedUnitsWrongFalsely : Prop := fnExactUsedUnitsRow.holds Try.pinned (OpenSpec.ofChange fnExactUsedUnitsWrong)

/-- 'laws.FnExactRunsTogether': WHATEVER THE INPUT: true; the input reads as it did. -/
def fnExactRunsTogetherSpec : ChangeSpec := { name := "fnExactRunsTogether", fn := fun _ => fun
  | [d1, d2, d3] => { results := [.lit (.bool true)], args := [d1, d2, d3] }
  | _ => none }
def fnExactRunsTogetherRow : OpenClaim := { program := "ytgfjanolihlpjaa", sum := "1cc12a51130c300341a1cbb54438565ff6fa3bb662674f5fcee02398dfa27238", func := "loop.example/buildscheduler/laws.FnExactRunsTogether", spec := "fnExactRunsTogether", apart := false }
def FnExactRunsTogetherSaid : Prop := fnExactRunsTogetherRow.holds Try.pinned (OpenSpec.ofChange fnExactRunsTogetherSpec)

/-- ITS FALSE NEIGHBOUR: 'it returns false'. Refute it at one input. -/
def fnExactRunsTogetherWrong : ChangeSpec := { name := "fnExactRunsTogether", fn := fun _ => fun
  | [d1, d2, d3] => { results := [.lit (.bool false)], args := [d1, d2, d3] }
  | _ => none }
def FnExactRunsTogetherWrongFalsely : Prop := fnExactRunsTogetherRow.holds Try.pinned (OpenSpec.ofChange fnExactRunsTogetherWrong)

/-- 'laws.FnExactAdmitTasks': WHATEVER THE INPUT: true; the input reads as it did. -/
def fnExactAdmitTasksSpec : ChangeSpec := { name := "fnExactAdmitTasks", fn := fun _ => fun
  | [d1, d2, d3, d4, d5] => { results := [.lit (.bool true)], args := [d1, d2, d3, d4, d5] }
  | _ => none }
def fnExactAdmitTasksRow : OpenClaim := { program := "ytgfjanolihlpjaa", sum := "1cc12a51130c300341a1cbb54438565ff6fa3bb662674f5fcee02398dfa27238", func := "loop.example/buildscheduler/laws.FnExactAdmitTasks", spec := "fnExactAdmitTasks", apart := false }
def FnExactAdmitTasksSaid : Prop := fnExactAdmitTasksRow.holds Try.pinned (OpenSpec.ofChange fnExactAdmitTasksSpec)

/-- ITS FALSE NEIGHBOUR: 'it returns false'. Refute it at one input. -/
def fnExactAdmitTasksWrong : ChangeSpec := { name := "fnExactAdmitTasks", fn := fun _ => fun
  | [d1, d2, d3, d4, d5] => { results := [.lit (.bool false)], args := [d1, d2, d3, d4, d5] }
  | _ => none }
def FnExactAdmitTasksWrongFalsely : Prop := fnExactAdmitTasksRow.holds Try.pinned (OpenSpec.ofChange fnExactAdmitTasksWrong)

/-- 'laws.FnExactPoolTime': WHATEVER THE INPUT: true; the input reads as it did. -/
def fnExactPoolTimeSpec : ChangeSpec := { name := "fnExactPoolTime", fn := fun _ => fun
  | [d1, d2, d3] => { results := [.lit (.bool true)], args := [d1, d2, d3] }
  | _ => none }
def fnExactPoolTimeRow : OpenClaim := { program := "ytgfjanolihlpjaa", sum := "1cc12a51130c300341a1cbb54438565ff6fa3bb662674f5fcee02398dfa27238", func := "loop.example/buildscheduler/laws.FnExactPoolTime", spec := "fnExactPoolTime", apart := false }
def FnExactPoolTimeSaid : Prop := fnExactPoolTimeRow.holds Try.pinned (OpenSpec.ofChange fnExactPoolTimeSpec)

/-- ITS FALSE NEIGHBOUR: 'it returns false'. Refute it at one input. -/
def fnExactPoolTimeWrong : ChangeSpec := { name := "fnExactPoolTime", fn := fun _ => fun
  | [d1, d2, d3] => { results := [.lit (.bool false)], args := [d1, d2, d3] }
  | _ => none }
def FnExactPoolTimeWrongFalsely : Prop := fnExactPoolTimeRow.holds Try.pinned (OpenSpec.ofChange fnExactPoolTimeWrong)

/- THE SECOND FORM. 'bulk': how many values and letters a reading holds, each counted each time it is reached (what is shared counts as often as it is met; a slice's spare places count too). A statement '..UptoSaid' is the law's where the arguments, and the package variables that the reading takes, are together of bulk at most 1048576: NARROWER than '..Said'. Prove '..Said' where nothing that the law and all that it calls make is longer than what came in: it says more and counts as full. Else prove '..UptoSaid'. A law counts once. -/
mutual
def uptoBulk {H : Type} : DataW H → Nat
  | .lit (.string bytes) => bytes.length + 1
  | .lit _ => 1
  | .nil => 1
  | .ptr d => uptoBulk d + 1
  | .slice elems spare => uptoBulkAll elems + uptoBulkAll spare + 1
  | .agg parts => uptoBulkAll parts + 1
  | .iface _ d => uptoBulk d + 1
  | .map entries => uptoBulkEntries entries + 1
  | .held _ => 1
def uptoBulkAll {H : Type} : List (DataW H) → Nat
  | [] => 0
  | d :: r => uptoBulk d + uptoBulkAll r
def uptoBulkEntries {H : Type} : List (Lit × DataW H) → Nat
  | [] => 0
  | x :: r => uptoBulkEntry x + uptoBulkEntries r
def uptoBulkEntry {H : Type} : Lit × DataW H → Nat
  | (.string bytes, d) => bytes.length + uptoBulk d + 1
  | (_, d) => uptoBulk d + 1
 end
def uptoSmall : (H : Type) → List (DataW H) → Bool := fun _ ds => decide (uptoBulkAll ds ≤ 1048576)
def OpenSpec.upto (s : _root_.Go.ChangeSpec) : _root_.Go.OpenSpec := { _root_.Go.OpenSpec.ofChange s with cond := some uptoSmall }

/-- 'laws.FnExactValidDone', WHERE WHAT IT READS IS OF BULK AT MOST 1048576: true; the input reads as it did. -/
def fnExactValidDoneUptoRow : OpenClaim := { program := "ytgfjanolihlpjaa", sum := "1cc12a51130c300341a1cbb54438565ff6fa3bb662674f5fcee02398dfa27238", func := "loop.example/buildscheduler/laws.FnExactValidDone", spec := "fnExactValidDone", apart := false, narrowed := true }
def FnExactValidDoneUptoSaid : Prop := fnExactValidDoneUptoRow.holds Try.pinned (OpenSpec.upto fnExactValidDoneSpec)

/-- 'laws.FnExactReadyTasks', WHERE WHAT IT READS IS OF BULK AT MOST 1048576: true; the input reads as it did. -/
def fnExactReadyTasksUptoRow : OpenClaim := { program := "ytgfjanolihlpjaa", sum := "1cc12a51130c300341a1cbb54438565ff6fa3bb662674f5fcee02398dfa27238", func := "loop.example/buildscheduler/laws.FnExactReadyTasks", spec := "fnExactReadyTasks", apart := false, narrowed := true }
def FnExactReadyTasksUptoSaid : Prop := fnExactReadyTasksUptoRow.holds Try.pinned (OpenSpec.upto fnExactReadyTasksSpec)

/-- 'laws.FnExactReadyOrder', WHERE WHAT IT READS IS OF BULK AT MOST 1048576: true; the input reads as it did. -/
def fnExactReadyOrderUptoRow : OpenClaim := { program := "ytgfjanolihlpjaa", sum := "1cc12a51130c300341a1cbb54438565ff6fa3bb662674f5fcee02398dfa27238", func := "loop.example/buildscheduler/laws.FnExactReadyOrder", spec := "fnExactReadyOrder", apart := false, narrowed := true }
def FnExactReadyOrderUptoSaid : Prop := fnExactReadyOrderUptoRow.holds Try.pinned (OpenSpec.upto fnExactReadyOrderSpec)

/-- 'laws.FnExactFinishTask', WHERE WHAT IT READS IS OF BULK AT MOST 1048576: true; the input reads as it did. -/
def fnExactFinishTaskUptoRow : OpenClaim := { program := "ytgfjanolihlpjaa", sum := "1cc12a51130c300341a1cbb54438565ff6fa3bb662674f5fcee02398dfa27238", func := "loop.example/buildscheduler/laws.FnExactFinishTask", spec := "fnExactFinishTask", apart := false, narrowed := true }
def FnExactFinishTaskUptoSaid : Prop := fnExactFinishTaskUptoRow.holds Try.pinned (OpenSpec.upto fnExactFinishTaskSpec)

/-- 'laws.FnExactWaitsFor', WHERE WHAT IT READS IS OF BULK AT MOST 1048576: true; the input reads as it did. -/
def fnExactWaitsForUptoRow : OpenClaim := { program := "ytgfjanolihlpjaa", sum := "1cc12a51130c300341a1cbb54438565ff6fa3bb662674f5fcee02398dfa27238", func := "loop.example/buildscheduler/laws.FnExactWaitsFor", spec := "fnExactWaitsFor", apart := false, narrowed := true }
def FnExactWaitsForUptoSaid : Prop := fnExactWaitsForUptoRow.holds Try.pinned (OpenSpec.upto fnExactWaitsForSpec)

/-- 'laws.FnExactValidRoom', WHERE WHAT IT READS IS OF BULK AT MOST 1048576: true; the input reads as it did. -/
def fnExactValidRoomUptoRow : OpenClaim := { program := "ytgfjanolihlpjaa", sum := "1cc12a51130c300341a1cbb54438565ff6fa3bb662674f5fcee02398dfa27238", func := "loop.example/buildscheduler/laws.FnExactValidRoom", spec := "fnExactValidRoom", apart := false, narrowed := true }
def FnExactValidRoomUptoSaid : Prop := fnExactValidRoomUptoRow.holds Try.pinned (OpenSpec.upto fnExactValidRoomSpec)

/-- 'laws.FnExactUsedUnits', WHERE WHAT IT READS IS OF BULK AT MOST 1048576: true; the input reads as it did. -/
def fnExactUsedUnitsUptoRow : OpenClaim := { program := "ytgfjanolihlpjaa", sum := "1cc12a51130c300341a1cbb54438565ff6fa3bb662674f5fcee02398dfa27238", func := "loop.example/buildscheduler/laws.FnExactUsedUnits", spec := "fnExactUsedUnits", apart := false, narrowed := true }
def FnExactUsedUnitsUptoSaid : Prop := fnExactUsedUnitsUptoRow.holds Try.pinned (OpenSpec.upto fnExactUsedUnitsSpec)

/-- 'laws.FnExactRunsTogether', WHERE WHAT IT READS IS OF BULK AT MOST 1048576: true; the input reads as it did. -/
def fnExactRunsTogetherUptoRow : OpenClaim := { program := "ytgfjanolihlpjaa", sum := "1cc12a51130c300341a1cbb54438565ff6fa3bb662674f5fcee02398dfa27238", func := "loop.example/buildscheduler/laws.FnExactRunsTogether", spec := "fnExactRunsTogether", apart := false, narrowed := true }
def FnExactRunsTogetherUptoSaid : Prop := fnExactRunsTogetherUptoRow.holds Try.pinned (OpenSpec.upto fnExactRunsTogetherSpec)

/-- 'laws.FnExactAdmitTasks', WHERE WHAT IT READS IS OF BULK AT MOST 1048576: true; the input reads as it did. -/
def fnExactAdmitTasksUptoRow : OpenClaim := { program := "ytgfjanolihlpjaa", sum := "1cc12a51130c300341a1cbb54438565ff6fa3bb662674f5fcee02398dfa27238", func := "loop.example/buildscheduler/laws.FnExactAdmitTasks", spec := "fnExactAdmitTasks", apart := false, narrowed := true }
def FnExactAdmitTasksUptoSaid : Prop := fnExactAdmitTasksUptoRow.holds Try.pinned (OpenSpec.upto fnExactAdmitTasksSpec)

/-- 'laws.FnExactPoolTime', WHERE WHAT IT READS IS OF BULK AT MOST 1048576: true; the input reads as it did. -/
def fnExactPoolTimeUptoRow : OpenClaim := { program := "ytgfjanolihlpjaa", sum := "1cc12a51130c300341a1cbb54438565ff6fa3bb662674f5fcee02398dfa27238", func := "loop.example/buildscheduler/laws.FnExactPoolTime", spec := "fnExactPoolTime", apart := false, narrowed := true }
def FnExactPoolTimeUptoSaid : Prop := fnExactPoolTimeUptoRow.holds Try.pinned (OpenSpec.upto fnExactPoolTimeSpec)

end Rows
end Go.Proofs.Ytgfjanolihlpjaa
