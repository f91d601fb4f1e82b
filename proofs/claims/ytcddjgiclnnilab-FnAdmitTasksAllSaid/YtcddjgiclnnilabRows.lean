/-
  No cell of these rows narrows 'for every input' (looked for: loops, veiled, ifaces, maps, wideKeys, modest, calm, conditions, laid).
  DERIVED. THE GIVEN ROWS OF THIS SEAT. 12 by the template 'for every input the law returns true; each argument reads behind the call as it read before'; 0 by the template 'total and deterministic' (their statements: YtcddjgiclnnilabTotals.lean).
  GIVEN WITH THE SEED: the statements are not yours to turn. If you find one false, say at which input.
  Laid BY PROGRAM, IN A SANDBOX (cutbox-rows.mjs): the forced cells as the released guide's own fill.sh prints them over the translation 0473b3ff1445eebe… (all of the seat's roots in one cut). By AI agents, Wed Nov 11 2026. No macro, syntax, notation, axiom, sorry.
-/
import Derived.Test.YtcddjgiclnnilabChecked
import GoSem.Claim
import GoSem.ClaimJoined
import GoSem.ClaimMapViews
import Derived.JoinedTies
import Derived.KernelRfl
namespace Go.Proofs.Ytcddjgiclnnilab
/- THE CELL 'sum', in the pinned program and in every row, IS THE sha256 OF THE DUMP (.gsa) THAT YtcddjgiclnnilabProg.lean LOADS. Nothing in Lean hashes anything: it is a label: what it is worth is what the hold of that sum in a sandbox is worth. -/
noncomputable def Try.pinned : Pinned := { name := "ytcddjgiclnnilab", sum := "0473b3ff1445eebe7f2ca6f61f359c174fda42c81e801567d30c177135f7f947", checked := Try.checked }
namespace Rows
def none {H : Type} : Left H := { results := [], args := [] }

/-- 'laws.FnAdmitTasksAll': WHATEVER THE INPUT: true; the input reads as it did. -/
def fnAdmitTasksAllSpec : ChangeSpec := { name := "fnAdmitTasksAll", fn := fun _ => fun
  | [d] => { results := [.lit (.bool true)], args := [d] }
  | _ => none }
def fnAdmitTasksAllRow : OpenClaim := { program := "ytcddjgiclnnilab", sum := "0473b3ff1445eebe7f2ca6f61f359c174fda42c81e801567d30c177135f7f947", func := "loop.example/buildscheduler/laws.FnAdmitTasksAll", spec := "fnAdmitTasksAll", apart := false }
def FnAdmitTasksAllSaid : Prop := fnAdmitTasksAllRow.holds Try.pinned (OpenSpec.ofChange fnAdmitTasksAllSpec)

/-- ITS FALSE NEIGHBOUR: 'it returns false'. Refute it at one input. -/
def fnAdmitTasksAllWrong : ChangeSpec := { name := "fnAdmitTasksAll", fn := fun _ => fun
  | [d] => { results := [.lit (.bool false)], args := [d] }
  | _ => none }
def FnAdmitTasksAllWrongFalsely : Prop := fnAdmitTasksAllRow.holds Try.pinned (OpenSpec.ofChange fnAdmitTasksAllWrong)

/-- 'laws.FnPoolTime': WHATEVER THE INPUT: true; the input reads as it did. -/
def fnPoolTimeSpec : ChangeSpec := { name := "fnPoolTime", fn := fun _ => fun
  | [d] => { results := [.lit (.bool true)], args := [d] }
  | _ => none }
def fnPoolTimeRow : OpenClaim := { program := "ytcddjgiclnnilab", sum := "0473b3ff1445eebe7f2ca6f61f359c174fda42c81e801567d30c177135f7f947", func := "loop.example/buildscheduler/laws.FnPoolTime", spec := "fnPoolTime", apart := false }
def FnPoolTimeSaid : Prop := fnPoolTimeRow.holds Try.pinned (OpenSpec.ofChange fnPoolTimeSpec)

/-- ITS FALSE NEIGHBOUR: 'it returns false'. Refute it at one input. -/
def fnPoolTimeWrong : ChangeSpec := { name := "fnPoolTime", fn := fun _ => fun
  | [d] => { results := [.lit (.bool false)], args := [d] }
  | _ => none }
def FnPoolTimeWrongFalsely : Prop := fnPoolTimeRow.holds Try.pinned (OpenSpec.ofChange fnPoolTimeWrong)

/-- 'laws.FnValidDoneNeeds': WHATEVER THE INPUT: true; the input reads as it did. -/
def fnValidDoneNeedsSpec : ChangeSpec := { name := "fnValidDoneNeeds", fn := fun _ => fun
  | [d] => { results := [.lit (.bool true)], args := [d] }
  | _ => none }
def fnValidDoneNeedsRow : OpenClaim := { program := "ytcddjgiclnnilab", sum := "0473b3ff1445eebe7f2ca6f61f359c174fda42c81e801567d30c177135f7f947", func := "loop.example/buildscheduler/laws.FnValidDoneNeeds", spec := "fnValidDoneNeeds", apart := false }
def FnValidDoneNeedsSaid : Prop := fnValidDoneNeedsRow.holds Try.pinned (OpenSpec.ofChange fnValidDoneNeedsSpec)

/-- ITS FALSE NEIGHBOUR: 'it returns false'. Refute it at one input. -/
def fnValidDoneNeedsWrong : ChangeSpec := { name := "fnValidDoneNeeds", fn := fun _ => fun
  | [d] => { results := [.lit (.bool false)], args := [d] }
  | _ => none }
def FnValidDoneNeedsWrongFalsely : Prop := fnValidDoneNeedsRow.holds Try.pinned (OpenSpec.ofChange fnValidDoneNeedsWrong)

/-- 'laws.FnReadyTasksAll': WHATEVER THE INPUT: true; the input reads as it did. -/
def fnReadyTasksAllSpec : ChangeSpec := { name := "fnReadyTasksAll", fn := fun _ => fun
  | [d] => { results := [.lit (.bool true)], args := [d] }
  | _ => none }
def fnReadyTasksAllRow : OpenClaim := { program := "ytcddjgiclnnilab", sum := "0473b3ff1445eebe7f2ca6f61f359c174fda42c81e801567d30c177135f7f947", func := "loop.example/buildscheduler/laws.FnReadyTasksAll", spec := "fnReadyTasksAll", apart := false }
def FnReadyTasksAllSaid : Prop := fnReadyTasksAllRow.holds Try.pinned (OpenSpec.ofChange fnReadyTasksAllSpec)

/-- ITS FALSE NEIGHBOUR: 'it returns false'. Refute it at one input. -/
def fnReadyTasksAllWrong : ChangeSpec := { name := "fnReadyTasksAll", fn := fun _ => fun
  | [d] => { results := [.lit (.bool false)], args := [d] }
  | _ => none }
def FnReadyTasksAllWrongFalsely : Prop := fnReadyTasksAllRow.holds Try.pinned (OpenSpec.ofChange fnReadyTasksAllWrong)

/-- 'laws.FnReadyTasksTop': WHATEVER THE INPUT: true; the input reads as it did. -/
def fnReadyTasksTopSpec : ChangeSpec := { name := "fnReadyTasksTop", fn := fun _ => fun
  | [d] => { results := [.lit (.bool true)], args := [d] }
  | _ => none }
def fnReadyTasksTopRow : OpenClaim := { program := "ytcddjgiclnnilab", sum := "0473b3ff1445eebe7f2ca6f61f359c174fda42c81e801567d30c177135f7f947", func := "loop.example/buildscheduler/laws.FnReadyTasksTop", spec := "fnReadyTasksTop", apart := false }
def FnReadyTasksTopSaid : Prop := fnReadyTasksTopRow.holds Try.pinned (OpenSpec.ofChange fnReadyTasksTopSpec)

/-- ITS FALSE NEIGHBOUR: 'it returns false'. Refute it at one input. -/
def fnReadyTasksTopWrong : ChangeSpec := { name := "fnReadyTasksTop", fn := fun _ => fun
  | [d] => { results := [.lit (.bool false)], args := [d] }
  | _ => none }
def FnReadyTasksTopWrongFalsely : Prop := fnReadyTasksTopRow.holds Try.pinned (OpenSpec.ofChange fnReadyTasksTopWrong)

/-- 'laws.FnFinishTaskReady': WHATEVER THE INPUT: true; the input reads as it did. -/
def fnFinishTaskReadySpec : ChangeSpec := { name := "fnFinishTaskReady", fn := fun _ => fun
  | [d] => { results := [.lit (.bool true)], args := [d] }
  | _ => none }
def fnFinishTaskReadyRow : OpenClaim := { program := "ytcddjgiclnnilab", sum := "0473b3ff1445eebe7f2ca6f61f359c174fda42c81e801567d30c177135f7f947", func := "loop.example/buildscheduler/laws.FnFinishTaskReady", spec := "fnFinishTaskReady", apart := false }
def FnFinishTaskReadySaid : Prop := fnFinishTaskReadyRow.holds Try.pinned (OpenSpec.ofChange fnFinishTaskReadySpec)

/-- ITS FALSE NEIGHBOUR: 'it returns false'. Refute it at one input. -/
def fnFinishTaskReadyWrong : ChangeSpec := { name := "fnFinishTaskReady", fn := fun _ => fun
  | [d] => { results := [.lit (.bool false)], args := [d] }
  | _ => none }
def FnFinishTaskReadyWrongFalsely : Prop := fnFinishTaskReadyRow.holds Try.pinned (OpenSpec.ofChange fnFinishTaskReadyWrong)

/-- 'laws.FnWaitsForAll': WHATEVER THE INPUT: true; the input reads as it did. -/
def fnWaitsForAllSpec : ChangeSpec := { name := "fnWaitsForAll", fn := fun _ => fun
  | [d] => { results := [.lit (.bool true)], args := [d] }
  | _ => none }
def fnWaitsForAllRow : OpenClaim := { program := "ytcddjgiclnnilab", sum := "0473b3ff1445eebe7f2ca6f61f359c174fda42c81e801567d30c177135f7f947", func := "loop.example/buildscheduler/laws.FnWaitsForAll", spec := "fnWaitsForAll", apart := false }
def FnWaitsForAllSaid : Prop := fnWaitsForAllRow.holds Try.pinned (OpenSpec.ofChange fnWaitsForAllSpec)

/-- ITS FALSE NEIGHBOUR: 'it returns false'. Refute it at one input. -/
def fnWaitsForAllWrong : ChangeSpec := { name := "fnWaitsForAll", fn := fun _ => fun
  | [d] => { results := [.lit (.bool false)], args := [d] }
  | _ => none }
def FnWaitsForAllWrongFalsely : Prop := fnWaitsForAllRow.holds Try.pinned (OpenSpec.ofChange fnWaitsForAllWrong)

/-- 'laws.FnUsedUnitsAll': WHATEVER THE INPUT: true; the input reads as it did. -/
def fnUsedUnitsAllSpec : ChangeSpec := { name := "fnUsedUnitsAll", fn := fun _ => fun
  | [d] => { results := [.lit (.bool true)], args := [d] }
  | _ => none }
def fnUsedUnitsAllRow : OpenClaim := { program := "ytcddjgiclnnilab", sum := "0473b3ff1445eebe7f2ca6f61f359c174fda42c81e801567d30c177135f7f947", func := "loop.example/buildscheduler/laws.FnUsedUnitsAll", spec := "fnUsedUnitsAll", apart := false }
def FnUsedUnitsAllSaid : Prop := fnUsedUnitsAllRow.holds Try.pinned (OpenSpec.ofChange fnUsedUnitsAllSpec)

/-- ITS FALSE NEIGHBOUR: 'it returns false'. Refute it at one input. -/
def fnUsedUnitsAllWrong : ChangeSpec := { name := "fnUsedUnitsAll", fn := fun _ => fun
  | [d] => { results := [.lit (.bool false)], args := [d] }
  | _ => none }
def FnUsedUnitsAllWrongFalsely : Prop := fnUsedUnitsAllRow.holds Try.pinned (OpenSpec.ofChange fnUsedUnitsAllWrong)

/-- 'laws.FnRunsTogetherOne': WHATEVER THE INPUT: true; the input reads as it did. -/
def fnRunsTogetherOneSpec : ChangeSpec := { name := "fnRunsTogetherOne", fn := fun _ => fun
  | [d] => { results := [.lit (.bool true)], args := [d] }
  | _ => none }
def fnRunsTogetherOneRow : OpenClaim := { program := "ytcddjgiclnnilab", sum := "0473b3ff1445eebe7f2ca6f61f359c174fda42c81e801567d30c177135f7f947", func := "loop.example/buildscheduler/laws.FnRunsTogetherOne", spec := "fnRunsTogetherOne", apart := false }
def FnRunsTogetherOneSaid : Prop := fnRunsTogetherOneRow.holds Try.pinned (OpenSpec.ofChange fnRunsTogetherOneSpec)

/-- ITS FALSE NEIGHBOUR: 'it returns false'. Refute it at one input. -/
def fnRunsTogetherOneWrong : ChangeSpec := { name := "fnRunsTogetherOne", fn := fun _ => fun
  | [d] => { results := [.lit (.bool false)], args := [d] }
  | _ => none }
def FnRunsTogetherOneWrongFalsely : Prop := fnRunsTogetherOneRow.holds Try.pinned (OpenSpec.ofChange fnRunsTogetherOneWrong)

/-- 'laws.FnAdmitTasksFirst': WHATEVER THE INPUT: true; the input reads as it did. -/
def fnAdmitTasksFirstSpec : ChangeSpec := { name := "fnAdmitTasksFirst", fn := fun _ => fun
  | [d] => { results := [.lit (.bool true)], args := [d] }
  | _ => none }
def fnAdmitTasksFirstRow : OpenClaim := { program := "ytcddjgiclnnilab", sum := "0473b3ff1445eebe7f2ca6f61f359c174fda42c81e801567d30c177135f7f947", func := "loop.example/buildscheduler/laws.FnAdmitTasksFirst", spec := "fnAdmitTasksFirst", apart := false }
def FnAdmitTasksFirstSaid : Prop := fnAdmitTasksFirstRow.holds Try.pinned (OpenSpec.ofChange fnAdmitTasksFirstSpec)

/-- ITS FALSE NEIGHBOUR: 'it returns false'. Refute it at one input. -/
def fnAdmitTasksFirstWrong : ChangeSpec := { name := "fnAdmitTasksFirst", fn := fun _ => fun
  | [d] => { results := [.lit (.bool false)], args := [d] }
  | _ => none }
def FnAdmitTasksFirstWrongFalsely : Prop := fnAdmitTasksFirstRow.holds Try.pinned (OpenSpec.ofChange fnAdmitTasksFirstWrong)

/-- 'laws.FnAdmitTasksMore': WHATEVER THE INPUT: true; the input reads as it did. -/
def fnAdmitTasksMoreSpec : ChangeSpec := { name := "fnAdmitTasksMore", fn := fun _ => fun
  | [d] => { results := [.lit (.bool true)], args := [d] }
  | _ => none }
def fnAdmitTasksMoreRow : OpenClaim := { program := "ytcddjgiclnnilab", sum := "0473b3ff1445eebe7f2ca6f61f359c174fda42c81e801567d30c177135f7f947", func := "loop.example/buildscheduler/laws.FnAdmitTasksMore", spec := "fnAdmitTasksMore", apart := false }
def FnAdmitTasksMoreSaid : Prop := fnAdmitTasksMoreRow.holds Try.pinned (OpenSpec.ofChange fnAdmitTasksMoreSpec)

/-- ITS FALSE NEIGHBOUR: 'it returns false'. Refute it at one input. -/
def fnAdmitTasksMoreWrong : ChangeSpec := { name := "fnAdmitTasksMore", fn := fun _ => fun
  | [d] => { results := [.lit (.bool false)], args := [d] }
  | _ => none }
def FnAdmitTasksMoreWrongFalsely : Prop := fnAdmitTasksMoreRow.holds Try.pinned (OpenSpec.ofChange fnAdmitTasksMoreWrong)

/-- 'laws.FnPoolTimeSum': WHATEVER THE INPUT: true; the input reads as it did. -/
def fnPoolTimeSumSpec : ChangeSpec := { name := "fnPoolTimeSum", fn := fun _ => fun
  | [d] => { results := [.lit (.bool true)], args := [d] }
  | _ => none }
def fnPoolTimeSumRow : OpenClaim := { program := "ytcddjgiclnnilab", sum := "0473b3ff1445eebe7f2ca6f61f359c174fda42c81e801567d30c177135f7f947", func := "loop.example/buildscheduler/laws.FnPoolTimeSum", spec := "fnPoolTimeSum", apart := false }
def FnPoolTimeSumSaid : Prop := fnPoolTimeSumRow.holds Try.pinned (OpenSpec.ofChange fnPoolTimeSumSpec)

/-- ITS FALSE NEIGHBOUR: 'it returns false'. Refute it at one input. -/
def fnPoolTimeSumWrong : ChangeSpec := { name := "fnPoolTimeSum", fn := fun _ => fun
  | [d] => { results := [.lit (.bool false)], args := [d] }
  | _ => none }
def FnPoolTimeSumWrongFalsely : Prop := fnPoolTimeSumRow.holds Try.pinned (OpenSpec.ofChange fnPoolTimeSumWrong)

/- THE SECOND FORM. 'bulk': how many values and letters a reading holds, each counted each time it is reached (what is shared counts as often as it is met; a slice's spare places count too). A statement '..UptoSaid' is the law's where the arguments, and the package variables that the reading takes, are together of bulk at most 1048576: NARROWER than '..Said'. Prove '..Said' where nothing that the law and all that it calls make is longer than what came in: it says more and counts as full. Else prove '..UptoSaid'. A law counts once. -/
mutual
def uptoBulk {H : Type} : DataW H → Nat
  | .lit (.string bytes) => bytes.length + 1
  | .lit _ => 1
  | .nil => 1
  | .ptr d => uptoBulk d + 1
  | .slice elems spare => uptoBulkAll elems + uptoBulkAll spare + 1
  | .agg parts => uptoBulkAll parts + 1
  | .iface _ d => uptoBulk d + 1
  | .map entries => uptoBulkEntries entries + 1
  | .held _ => 1
def uptoBulkAll {H : Type} : List (DataW H) → Nat
  | [] => 0
  | d :: r => uptoBulk d + uptoBulkAll r
def uptoBulkEntries {H : Type} : List (Lit × DataW H) → Nat
  | [] => 0
  | x :: r => uptoBulkEntry x + uptoBulkEntries r
def uptoBulkEntry {H : Type} : Lit × DataW H → Nat
  | (.string bytes, d) => bytes.length + uptoBulk d + 1
  | (_, d) => uptoBulk d + 1
 end
def uptoSmall : (H : Type) → List (DataW H) → Bool := fun _ ds => decide (uptoBulkAll ds ≤ 1048576)
def OpenSpec.upto (s : _root_.Go.ChangeSpec) : _root_.Go.OpenSpec := { _root_.Go.OpenSpec.ofChange s with cond := some uptoSmall }

/-- 'laws.FnAdmitTasksAll', WHERE WHAT IT READS IS OF BULK AT MOST 1048576: true; the input reads as it did. -/
def fnAdmitTasksAllUptoRow : OpenClaim := { program := "ytcddjgiclnnilab", sum := "0473b3ff1445eebe7f2ca6f61f359c174fda42c81e801567d30c177135f7f947", func := "loop.example/buildscheduler/laws.FnAdmitTasksAll", spec := "fnAdmitTasksAll", apart := false, narrowed := true }
def FnAdmitTasksAllUptoSaid : Prop := fnAdmitTasksAllUptoRow.holds Try.pinned (OpenSpec.upto fnAdmitTasksAllSpec)

/-- 'laws.FnPoolTime', WHERE WHAT IT READS IS OF BULK AT MOST 1048576: true; the input reads as it did. -/
def fnPoolTimeUptoRow : OpenClaim := { program := "ytcddjgiclnnilab", sum := "0473b3ff1445eebe7f2ca6f61f359c174fda42c81e801567d30c177135f7f947", func := "loop.example/buildscheduler/laws.FnPoolTime", spec := "fnPoolTime", apart := false, narrowed := true }
def FnPoolTimeUptoSaid : Prop := fnPoolTimeUptoRow.holds Try.pinned (OpenSpec.upto fnPoolTimeSpec)

/-- 'laws.FnValidDoneNeeds', WHERE WHAT IT READS IS OF BULK AT MOST 1048576: true; the input reads as it did. -/
def fnValidDoneNeedsUptoRow : OpenClaim := { program := "ytcddjgiclnnilab", sum := "0473b3ff1445eebe7f2ca6f61f359c174fda42c81e801567d30c177135f7f947", func := "loop.example/buildscheduler/laws.FnValidDoneNeeds", spec := "fnValidDoneNeeds", apart := false, narrowed := true }
def FnValidDoneNeedsUptoSaid : Prop := fnValidDoneNeedsUptoRow.holds Try.pinned (OpenSpec.upto fnValidDoneNeedsSpec)

/-- 'laws.FnReadyTasksAll', WHERE WHAT IT READS IS OF BULK AT MOST 1048576: true; the input reads as it did. -/
def fnReadyTasksAllUptoRow : OpenClaim := { program := "ytcddjgiclnnilab", sum := "0473b3ff1445eebe7f2ca6f61f359c174fda42c81e801567d30c177135f7f947", func := "loop.example/buildscheduler/laws.FnReadyTasksAll", spec := "fnReadyTasksAll", apart := false, narrowed := true }
def FnReadyTasksAllUptoSaid : Prop := fnReadyTasksAllUptoRow.holds Try.pinned (OpenSpec.upto fnReadyTasksAllSpec)

/-- 'laws.FnReadyTasksTop', WHERE WHAT IT READS IS OF BULK AT MOST 1048576: true; the input reads as it did. -/
def fnReadyTasksTopUptoRow : OpenClaim := { program := "ytcddjgiclnnilab", sum := "0473b3ff1445eebe7f2ca6f61f359c174fda42c81e801567d30c177135f7f947", func := "loop.example/buildscheduler/laws.FnReadyTasksTop", spec := "fnReadyTasksTop", apart := false, narrowed := true }
def FnReadyTasksTopUptoSaid : Prop := fnReadyTasksTopUptoRow.holds Try.pinned (OpenSpec.upto fnReadyTasksTopSpec)

/-- 'laws.FnFinishTaskReady', WHERE WHAT IT READS IS OF BULK AT MOST 1048576: true; the input reads as it did. -/
def fnFinishTaskReadyUptoRow : OpenClaim := { program := "ytcddjgiclnnilab", sum := "0473b3ff1445eebe7f2ca6f61f359c174fda42c81e801567d30c177135f7f947", func := "loop.example/buildscheduler/laws.FnFinishTaskReady", spec := "fnFinishTaskReady", apart := false, narrowed := true }
def FnFinishTaskReadyUptoSaid : Prop := fnFinishTaskReadyUptoRow.holds Try.pinned (OpenSpec.upto fnFinishTaskReadySpec)

/-- 'laws.FnWaitsForAll', WHERE WHAT IT READS IS OF BULK AT MOST 1048576: true; the input reads as it did. -/
def fnWaitsForAllUptoRow : OpenClaim := { program := "ytcddjgiclnnilab", sum := "0473b3ff1445eebe7f2ca6f61f359c174fda42c81e801567d30c177135f7f947", func := "loop.example/buildscheduler/laws.FnWaitsForAll", spec := "fnWaitsForAll", apart := false, narrowed := true }
def FnWaitsForAllUptoSaid : Prop := fnWaitsForAllUptoRow.holds Try.pinned (OpenSpec.upto fnWaitsForAllSpec)

/-- 'laws.FnUsedUnitsAll', WHERE WHAT IT READS IS OF BULK AT MOST 1048576: true; the input reads as it did. -/
def fnUsedUnitsAllUptoRow : OpenClaim := { program := "ytcddjgiclnnilab", sum := "0473b3ff1445eebe7f2ca6f61f359c174fda42c81e801567d30c177135f7f947", func := "loop.example/buildscheduler/laws.FnUsedUnitsAll", spec := "fnUsedUnitsAll", apart := false, narrowed := true }
def FnUsedUnitsAllUptoSaid : Prop := fnUsedUnitsAllUptoRow.holds Try.pinned (OpenSpec.upto fnUsedUnitsAllSpec)

/-- 'laws.FnRunsTogetherOne', WHERE WHAT IT READS IS OF BULK AT MOST 1048576: true; the input reads as it did. -/
def fnRunsTogetherOneUptoRow : OpenClaim := { program := "ytcddjgiclnnilab", sum := "0473b3ff1445eebe7f2ca6f61f359c174fda42c81e801567d30c177135f7f947", func := "loop.example/buildscheduler/laws.FnRunsTogetherOne", spec := "fnRunsTogetherOne", apart := false, narrowed := true }
def FnRunsTogetherOneUptoSaid : Prop := fnRunsTogetherOneUptoRow.holds Try.pinned (OpenSpec.upto fnRunsTogetherOneSpec)

/-- 'laws.FnAdmitTasksFirst', WHERE WHAT IT READS IS OF BULK AT MOST 1048576: true; the input reads as it did. -/
def fnAdmitTasksFirstUptoRow : OpenClaim := { program := "ytcddjgiclnnilab", sum := "0473b3ff1445eebe7f2ca6f61f359c174fda42c81e801567d30c177135f7f947", func := "loop.example/buildscheduler/laws.FnAdmitTasksFirst", spec := "fnAdmitTasksFirst", apart := false, narrowed := true }
def FnAdmitTasksFirstUptoSaid : Prop := fnAdmitTasksFirstUptoRow.holds Try.pinned (OpenSpec.upto fnAdmitTasksFirstSpec)

/-- 'laws.FnAdmitTasksMore', WHERE WHAT IT READS IS OF BULK AT MOST 1048576: true; the input reads as it did. -/
def fnAdmitTasksMoreUptoRow : OpenClaim := { program := "ytcddjgiclnnilab", sum := "0473b3ff1445eebe7f2ca6f61f359c174fda42c81e801567d30c177135f7f947", func := "loop.example/buildscheduler/laws.FnAdmitTasksMore", spec := "fnAdmitTasksMore", apart := false, narrowed := true }
def FnAdmitTasksMoreUptoSaid : Prop := fnAdmitTasksMoreUptoRow.holds Try.pinned (OpenSpec.upto fnAdmitTasksMoreSpec)

/-- 'laws.FnPoolTimeSum', WHERE WHAT IT READS IS OF BULK AT MOST 1048576: true; the input reads as it did. -/
def fnPoolTimeSumUptoRow : OpenClaim := { program := "ytcddjgiclnnilab", sum := "0473b3ff1445eebe7f2ca6f61f359c174fda42c81e801567d30c177135f7f947", func := "loop.example/buildscheduler/laws.FnPoolTimeSum", spec := "fnPoolTimeSum", apart := false, narrowed := true }
def FnPoolTimeSumUptoSaid : Prop := fnPoolTimeSumUptoRow.holds Try.pinned (OpenSpec.upto fnPoolTimeSumSpec)

end Rows
end Go.Proofs.Ytcddjgiclnnilab
