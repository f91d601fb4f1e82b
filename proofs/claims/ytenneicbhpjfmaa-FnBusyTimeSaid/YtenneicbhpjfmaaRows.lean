/-
  No cell of these rows narrows 'for every input' (looked for: loops, veiled, ifaces, maps, wideKeys, modest, calm, conditions, laid).
  DERIVED. THE GIVEN ROWS OF THIS SEAT. 12 by the template 'for every input the law returns true; each argument reads behind the call as it read before'; 0 by the template 'total and deterministic' (their statements: YtenneicbhpjfmaaTotals.lean).
  GIVEN WITH THE SEED: the statements are not yours to turn. If you find one false, say at which input.
  Laid BY PROGRAM, IN A SANDBOX (cutbox-rows.mjs): the forced cells as the released guide's own fill.sh prints them over the translation e611596ce98fd279… (all of the seat's roots in one cut). By AI agents, Wed Nov 11 2026. No macro, syntax, notation, axiom, sorry.
-/
import Derived.Test.YtenneicbhpjfmaaChecked
import GoSem.Claim
import GoSem.ClaimJoined
import GoSem.ClaimMapViews
import Derived.JoinedTies
import Derived.KernelRfl
namespace Go.Proofs.Ytenneicbhpjfmaa
/- THE CELL 'sum', in the pinned program and in every row, IS THE sha256 OF THE DUMP (.gsa) THAT YtenneicbhpjfmaaProg.lean LOADS. Nothing in Lean hashes anything: it is a label: what it is worth is what the hold of that sum in a sandbox is worth. -/
noncomputable def Try.pinned : Pinned := { name := "ytenneicbhpjfmaa", sum := "e611596ce98fd279b2bc3a01dad3c93d1034845241cdb3edfce3ec36c5312810", checked := Try.checked }
namespace Rows
def none {H : Type} : Left H := { results := [], args := [] }

/-- 'laws.FnValidLog': WHATEVER THE INPUT: true; the input reads as it did. -/
def fnValidLogSpec : ChangeSpec := { name := "fnValidLog", fn := fun _ => fun
  | [d] => { results := [.lit (.bool true)], args := [d] }
  | _ => none }
def fnValidLogRow : OpenClaim := { program := "ytenneicbhpjfmaa", sum := "e611596ce98fd279b2bc3a01dad3c93d1034845241cdb3edfce3ec36c5312810", func := "loop.example/buildscheduler/laws.FnValidLog", spec := "fnValidLog", apart := false }
def FnValidLogSaid : Prop := fnValidLogRow.holds Try.pinned (OpenSpec.ofChange fnValidLogSpec)

/-- ITS FALSE NEIGHBOUR: 'it returns false'. Refute it at one input. -/
def fnValidLogWrong : ChangeSpec := { name := "fnValidLog", fn := fun _ => fun
  | [d] => { results := [.lit (.bool false)], args := [d] }
  | _ => none }
def FnValidLogWrongFalsely : Prop := fnValidLogRow.holds Try.pinned (OpenSpec.ofChange fnValidLogWrong)

/-- 'laws.FnValidLogTwice': WHATEVER THE INPUT: true; the input reads as it did. -/
def fnValidLogTwiceSpec : ChangeSpec := { name := "fnValidLogTwice", fn := fun _ => fun
  | [d] => { results := [.lit (.bool true)], args := [d] }
  | _ => none }
def fnValidLogTwiceRow : OpenClaim := { program := "ytenneicbhpjfmaa", sum := "e611596ce98fd279b2bc3a01dad3c93d1034845241cdb3edfce3ec36c5312810", func := "loop.example/buildscheduler/laws.FnValidLogTwice", spec := "fnValidLogTwice", apart := false }
def FnValidLogTwiceSaid : Prop := fnValidLogTwiceRow.holds Try.pinned (OpenSpec.ofChange fnValidLogTwiceSpec)

/-- ITS FALSE NEIGHBOUR: 'it returns false'. Refute it at one input. -/
def fnValidLogTwiceWrong : ChangeSpec := { name := "fnValidLogTwice", fn := fun _ => fun
  | [d] => { results := [.lit (.bool false)], args := [d] }
  | _ => none }
def FnValidLogTwiceWrongFalsely : Prop := fnValidLogTwiceRow.holds Try.pinned (OpenSpec.ofChange fnValidLogTwiceWrong)

/-- 'laws.FnLogOf': WHATEVER THE INPUT: true; the input reads as it did. -/
def fnLogOfSpec : ChangeSpec := { name := "fnLogOf", fn := fun _ => fun
  | [d] => { results := [.lit (.bool true)], args := [d] }
  | _ => none }
def fnLogOfRow : OpenClaim := { program := "ytenneicbhpjfmaa", sum := "e611596ce98fd279b2bc3a01dad3c93d1034845241cdb3edfce3ec36c5312810", func := "loop.example/buildscheduler/laws.FnLogOf", spec := "fnLogOf", apart := false }
def FnLogOfSaid : Prop := fnLogOfRow.holds Try.pinned (OpenSpec.ofChange fnLogOfSpec)

/-- ITS FALSE NEIGHBOUR: 'it returns false'. Refute it at one input. -/
def fnLogOfWrong : ChangeSpec := { name := "fnLogOf", fn := fun _ => fun
  | [d] => { results := [.lit (.bool false)], args := [d] }
  | _ => none }
def FnLogOfWrongFalsely : Prop := fnLogOfRow.holds Try.pinned (OpenSpec.ofChange fnLogOfWrong)

/-- 'laws.FnLogOfTimes': WHATEVER THE INPUT: true; the input reads as it did. -/
def fnLogOfTimesSpec : ChangeSpec := { name := "fnLogOfTimes", fn := fun _ => fun
  | [d] => { results := [.lit (.bool true)], args := [d] }
  | _ => none }
def fnLogOfTimesRow : OpenClaim := { program := "ytenneicbhpjfmaa", sum := "e611596ce98fd279b2bc3a01dad3c93d1034845241cdb3edfce3ec36c5312810", func := "loop.example/buildscheduler/laws.FnLogOfTimes", spec := "fnLogOfTimes", apart := false }
def FnLogOfTimesSaid : Prop := fnLogOfTimesRow.holds Try.pinned (OpenSpec.ofChange fnLogOfTimesSpec)

/-- ITS FALSE NEIGHBOUR: 'it returns false'. Refute it at one input. -/
def fnLogOfTimesWrong : ChangeSpec := { name := "fnLogOfTimes", fn := fun _ => fun
  | [d] => { results := [.lit (.bool false)], args := [d] }
  | _ => none }
def FnLogOfTimesWrongFalsely : Prop := fnLogOfTimesRow.holds Try.pinned (OpenSpec.ofChange fnLogOfTimesWrong)

/-- 'laws.FnDoneBy': WHATEVER THE INPUT: true; the input reads as it did. -/
def fnDoneBySpec : ChangeSpec := { name := "fnDoneBy", fn := fun _ => fun
  | [d] => { results := [.lit (.bool true)], args := [d] }
  | _ => none }
def fnDoneByRow : OpenClaim := { program := "ytenneicbhpjfmaa", sum := "e611596ce98fd279b2bc3a01dad3c93d1034845241cdb3edfce3ec36c5312810", func := "loop.example/buildscheduler/laws.FnDoneBy", spec := "fnDoneBy", apart := false }
def FnDoneBySaid : Prop := fnDoneByRow.holds Try.pinned (OpenSpec.ofChange fnDoneBySpec)

/-- ITS FALSE NEIGHBOUR: 'it returns false'. Refute it at one input. -/
def fnDoneByWrong : ChangeSpec := { name := "fnDoneBy", fn := fun _ => fun
  | [d] => { results := [.lit (.bool false)], args := [d] }
  | _ => none }
def FnDoneByWrongFalsely : Prop := fnDoneByRow.holds Try.pinned (OpenSpec.ofChange fnDoneByWrong)

/-- 'laws.FnDoneByLog': WHATEVER THE INPUT: true; the input reads as it did. -/
def fnDoneByLogSpec : ChangeSpec := { name := "fnDoneByLog", fn := fun _ => fun
  | [d] => { results := [.lit (.bool true)], args := [d] }
  | _ => none }
def fnDoneByLogRow : OpenClaim := { program := "ytenneicbhpjfmaa", sum := "e611596ce98fd279b2bc3a01dad3c93d1034845241cdb3edfce3ec36c5312810", func := "loop.example/buildscheduler/laws.FnDoneByLog", spec := "fnDoneByLog", apart := false }
def FnDoneByLogSaid : Prop := fnDoneByLogRow.holds Try.pinned (OpenSpec.ofChange fnDoneByLogSpec)

/-- ITS FALSE NEIGHBOUR: 'it returns false'. Refute it at one input. -/
def fnDoneByLogWrong : ChangeSpec := { name := "fnDoneByLog", fn := fun _ => fun
  | [d] => { results := [.lit (.bool false)], args := [d] }
  | _ => none }
def FnDoneByLogWrongFalsely : Prop := fnDoneByLogRow.holds Try.pinned (OpenSpec.ofChange fnDoneByLogWrong)

/-- 'laws.FnBusyTime': WHATEVER THE INPUT: true; the input reads as it did. -/
def fnBusyTimeSpec : ChangeSpec := { name := "fnBusyTime", fn := fun _ => fun
  | [d] => { results := [.lit (.bool true)], args := [d] }
  | _ => none }
def fnBusyTimeRow : OpenClaim := { program := "ytenneicbhpjfmaa", sum := "e611596ce98fd279b2bc3a01dad3c93d1034845241cdb3edfce3ec36c5312810", func := "loop.example/buildscheduler/laws.FnBusyTime", spec := "fnBusyTime", apart := false }
def FnBusyTimeSaid : Prop := fnBusyTimeRow.holds Try.pinned (OpenSpec.ofChange fnBusyTimeSpec)

/-- ITS FALSE NEIGHBOUR: 'it returns false'. Refute it at one input. -/
def fnBusyTimeWrong : ChangeSpec := { name := "fnBusyTime", fn := fun _ => fun
  | [d] => { results := [.lit (.bool false)], args := [d] }
  | _ => none }
def FnBusyTimeWrongFalsely : Prop := fnBusyTimeRow.holds Try.pinned (OpenSpec.ofChange fnBusyTimeWrong)

/-- 'laws.FnMostTogether': WHATEVER THE INPUT: true; the input reads as it did. -/
def fnMostTogetherSpec : ChangeSpec := { name := "fnMostTogether", fn := fun _ => fun
  | [d] => { results := [.lit (.bool true)], args := [d] }
  | _ => none }
def fnMostTogetherRow : OpenClaim := { program := "ytenneicbhpjfmaa", sum := "e611596ce98fd279b2bc3a01dad3c93d1034845241cdb3edfce3ec36c5312810", func := "loop.example/buildscheduler/laws.FnMostTogether", spec := "fnMostTogether", apart := false }
def FnMostTogetherSaid : Prop := fnMostTogetherRow.holds Try.pinned (OpenSpec.ofChange fnMostTogetherSpec)

/-- ITS FALSE NEIGHBOUR: 'it returns false'. Refute it at one input. -/
def fnMostTogetherWrong : ChangeSpec := { name := "fnMostTogether", fn := fun _ => fun
  | [d] => { results := [.lit (.bool false)], args := [d] }
  | _ => none }
def FnMostTogetherWrongFalsely : Prop := fnMostTogetherRow.holds Try.pinned (OpenSpec.ofChange fnMostTogetherWrong)

/-- 'laws.FnMostTogetherWorkers': WHATEVER THE INPUT: true; the input reads as it did. -/
def fnMostTogetherWorkersSpec : ChangeSpec := { name := "fnMostTogetherWorkers", fn := fun _ => fun
  | [d] => { results := [.lit (.bool true)], args := [d] }
  | _ => none }
def fnMostTogetherWorkersRow : OpenClaim := { program := "ytenneicbhpjfmaa", sum := "e611596ce98fd279b2bc3a01dad3c93d1034845241cdb3edfce3ec36c5312810", func := "loop.example/buildscheduler/laws.FnMostTogetherWorkers", spec := "fnMostTogetherWorkers", apart := false }
def FnMostTogetherWorkersSaid : Prop := fnMostTogetherWorkersRow.holds Try.pinned (OpenSpec.ofChange fnMostTogetherWorkersSpec)

/-- ITS FALSE NEIGHBOUR: 'it returns false'. Refute it at one input. -/
def fnMostTogetherWorkersWrong : ChangeSpec := { name := "fnMostTogetherWorkers", fn := fun _ => fun
  | [d] => { results := [.lit (.bool false)], args := [d] }
  | _ => none }
def FnMostTogetherWorkersWrongFalsely : Prop := fnMostTogetherWorkersRow.holds Try.pinned (OpenSpec.ofChange fnMostTogetherWorkersWrong)

/-- 'laws.FnDoneByEnd': WHATEVER THE INPUT: true; the input reads as it did. -/
def fnDoneByEndSpec : ChangeSpec := { name := "fnDoneByEnd", fn := fun _ => fun
  | [d] => { results := [.lit (.bool true)], args := [d] }
  | _ => none }
def fnDoneByEndRow : OpenClaim := { program := "ytenneicbhpjfmaa", sum := "e611596ce98fd279b2bc3a01dad3c93d1034845241cdb3edfce3ec36c5312810", func := "loop.example/buildscheduler/laws.FnDoneByEnd", spec := "fnDoneByEnd", apart := false }
def FnDoneByEndSaid : Prop := fnDoneByEndRow.holds Try.pinned (OpenSpec.ofChange fnDoneByEndSpec)

/-- ITS FALSE NEIGHBOUR: 'it returns false'. Refute it at one input. -/
def fnDoneByEndWrong : ChangeSpec := { name := "fnDoneByEnd", fn := fun _ => fun
  | [d] => { results := [.lit (.bool false)], args := [d] }
  | _ => none }
def FnDoneByEndWrongFalsely : Prop := fnDoneByEndRow.holds Try.pinned (OpenSpec.ofChange fnDoneByEndWrong)

/-- 'laws.FnBusyTimeLess': WHATEVER THE INPUT: true; the input reads as it did. -/
def fnBusyTimeLessSpec : ChangeSpec := { name := "fnBusyTimeLess", fn := fun _ => fun
  | [d] => { results := [.lit (.bool true)], args := [d] }
  | _ => none }
def fnBusyTimeLessRow : OpenClaim := { program := "ytenneicbhpjfmaa", sum := "e611596ce98fd279b2bc3a01dad3c93d1034845241cdb3edfce3ec36c5312810", func := "loop.example/buildscheduler/laws.FnBusyTimeLess", spec := "fnBusyTimeLess", apart := false }
def FnBusyTimeLessSaid : Prop := fnBusyTimeLessRow.holds Try.pinned (OpenSpec.ofChange fnBusyTimeLessSpec)

/-- ITS FALSE NEIGHBOUR: 'it returns false'. Refute it at one input. -/
def fnBusyTimeLessWrong : ChangeSpec := { name := "fnBusyTimeLess", fn := fun _ => fun
  | [d] => { results := [.lit (.bool false)], args := [d] }
  | _ => none }
def FnBusyTimeLessWrongFalsely : Prop := fnBusyTimeLessRow.holds Try.pinned (OpenSpec.ofChange fnBusyTimeLessWrong)

/-- 'laws.FnMostTogetherOne': WHATEVER THE INPUT: true; the input reads as it did. -/
def fnMostTogetherOneSpec : ChangeSpec := { name := "fnMostTogetherOne", fn := fun _ => fun
  | [d] => { results := [.lit (.bool true)], args := [d] }
  | _ => none }
def fnMostTogetherOneRow : OpenClaim := { program := "ytenneicbhpjfmaa", sum := "e611596ce98fd279b2bc3a01dad3c93d1034845241cdb3edfce3ec36c5312810", func := "loop.example/buildscheduler/laws.FnMostTogetherOne", spec := "fnMostTogetherOne", apart := false }
def FnMostTogetherOneSaid : Prop := fnMostTogetherOneRow.holds Try.pinned (OpenSpec.ofChange fnMostTogetherOneSpec)

/-- ITS FALSE NEIGHBOUR: 'it returns false'. Refute it at one input. -/
def fnMostTogetherOneWrong : ChangeSpec := { name := "fnMostTogetherOne", fn := fun _ => fun
  | [d] => { results := [.lit (.bool false)], args := [d] }
  | _ => none }
def FnMostTogetherOneWrongFalsely : Prop := fnMostTogetherOneRow.holds Try.pinned (OpenSpec.ofChange fnMostTogetherOneWrong)

/- THE SECOND FORM. 'bulk': how many values and letters a reading holds, each counted each time it is reached (what is shared counts as often as it is met; a slice's spare places count too). A statement '..UptoSaid' is the law's where the arguments, and the package variables that the reading takes, are together of bulk at most 1048576: NARROWER than '..Said'. Prove '..Said' where nothing that the law and all that it calls make is longer than what came in: it says more and counts as full. Else prove '..UptoSaid'. A law counts once. -/
mutual
def uptoBulk {H : Type} : DataW H → Nat
  | .lit (.string bytes) => bytes.length + 1
  | .lit _ => 1
  | .nil => 1
  | .ptr d => uptoBulk d + 1
  | .slice elems spare => uptoBulkAll elems + uptoBulkAll spare + 1
  | .agg parts => uptoBulkAll parts + 1
  | .iface _ d => uptoBulk d + 1
  | .map entries => uptoBulkEntries entries + 1
  | .held _ => 1
def uptoBulkAll {H : Type} : List (DataW H) → Nat
  | [] => 0
  | d :: r => uptoBulk d + uptoBulkAll r
def uptoBulkEntries {H : Type} : List (Lit × DataW H) → Nat
  | [] => 0
  | x :: r => uptoBulkEntry x + uptoBulkEntries r
def uptoBulkEntry {H : Type} : Lit × DataW H → Nat
  | (.string bytes, d) => bytes.length + uptoBulk d + 1
  | (_, d) => uptoBulk d + 1
 end
def uptoSmall : (H : Type) → List (DataW H) → Bool := fun _ ds => decide (uptoBulkAll ds ≤ 1048576)
def OpenSpec.upto (s : _root_.Go.ChangeSpec) : _root_.Go.OpenSpec := { _root_.Go.OpenSpec.ofChange s with cond := some uptoSmall }

/-- 'laws.FnValidLog', WHERE WHAT IT READS IS OF BULK AT MOST 1048576: true; the input reads as it did. -/
def fnValidLogUptoRow : OpenClaim := { program := "ytenneicbhpjfmaa", sum := "e611596ce98fd279b2bc3a01dad3c93d1034845241cdb3edfce3ec36c5312810", func := "loop.example/buildscheduler/laws.FnValidLog", spec := "fnValidLog", apart := false, narrowed := true }
def FnValidLogUptoSaid : Prop := fnValidLogUptoRow.holds Try.pinned (OpenSpec.upto fnValidLogSpec)

/-- 'laws.FnValidLogTwice', WHERE WHAT IT READS IS OF BULK AT MOST 1048576: true; the input reads as it did. -/
def fnValidLogTwiceUptoRow : OpenClaim := { program := "ytenneicbhpjfmaa", sum := "e611596ce98fd279b2bc3a01dad3c93d1034845241cdb3edfce3ec36c5312810", func := "loop.example/buildscheduler/laws.FnValidLogTwice", spec := "fnValidLogTwice", apart := false, narrowed := true }
def FnValidLogTwiceUptoSaid : Prop := fnValidLogTwiceUptoRow.holds Try.pinned (OpenSpec.upto fnValidLogTwiceSpec)

/-- 'laws.FnLogOf', WHERE WHAT IT READS IS OF BULK AT MOST 1048576: true; the input reads as it did. -/
def fnLogOfUptoRow : OpenClaim := { program := "ytenneicbhpjfmaa", sum := "e611596ce98fd279b2bc3a01dad3c93d1034845241cdb3edfce3ec36c5312810", func := "loop.example/buildscheduler/laws.FnLogOf", spec := "fnLogOf", apart := false, narrowed := true }
def FnLogOfUptoSaid : Prop := fnLogOfUptoRow.holds Try.pinned (OpenSpec.upto fnLogOfSpec)

/-- 'laws.FnLogOfTimes', WHERE WHAT IT READS IS OF BULK AT MOST 1048576: true; the input reads as it did. -/
def fnLogOfTimesUptoRow : OpenClaim := { program := "ytenneicbhpjfmaa", sum := "e611596ce98fd279b2bc3a01dad3c93d1034845241cdb3edfce3ec36c5312810", func := "loop.example/buildscheduler/laws.FnLogOfTimes", spec := "fnLogOfTimes", apart := false, narrowed := true }
def FnLogOfTimesUptoSaid : Prop := fnLogOfTimesUptoRow.holds Try.pinned (OpenSpec.upto fnLogOfTimesSpec)

/-- 'laws.FnDoneBy', WHERE WHAT IT READS IS OF BULK AT MOST 1048576: true; the input reads as it did. -/
def fnDoneByUptoRow : OpenClaim := { program := "ytenneicbhpjfmaa", sum := "e611596ce98fd279b2bc3a01dad3c93d1034845241cdb3edfce3ec36c5312810", func := "loop.example/buildscheduler/laws.FnDoneBy", spec := "fnDoneBy", apart := false, narrowed := true }
def FnDoneByUptoSaid : Prop := fnDoneByUptoRow.holds Try.pinned (OpenSpec.upto fnDoneBySpec)

/-- 'laws.FnDoneByLog', WHERE WHAT IT READS IS OF BULK AT MOST 1048576: true; the input reads as it did. -/
def fnDoneByLogUptoRow : OpenClaim := { program := "ytenneicbhpjfmaa", sum := "e611596ce98fd279b2bc3a01dad3c93d1034845241cdb3edfce3ec36c5312810", func := "loop.example/buildscheduler/laws.FnDoneByLog", spec := "fnDoneByLog", apart := false, narrowed := true }
def FnDoneByLogUptoSaid : Prop := fnDoneByLogUptoRow.holds Try.pinned (OpenSpec.upto fnDoneByLogSpec)

/-- 'laws.FnBusyTime', WHERE WHAT IT READS IS OF BULK AT MOST 1048576: true; the input reads as it did. -/
def fnBusyTimeUptoRow : OpenClaim := { program := "ytenneicbhpjfmaa", sum := "e611596ce98fd279b2bc3a01dad3c93d1034845241cdb3edfce3ec36c5312810", func := "loop.example/buildscheduler/laws.FnBusyTime", spec := "fnBusyTime", apart := false, narrowed := true }
def FnBusyTimeUptoSaid : Prop := fnBusyTimeUptoRow.holds Try.pinned (OpenSpec.upto fnBusyTimeSpec)

/-- 'laws.FnMostTogether', WHERE WHAT IT READS IS OF BULK AT MOST 1048576: true; the input reads as it did. -/
def fnMostTogetherUptoRow : OpenClaim := { program := "ytenneicbhpjfmaa", sum := "e611596ce98fd279b2bc3a01dad3c93d1034845241cdb3edfce3ec36c5312810", func := "loop.example/buildscheduler/laws.FnMostTogether", spec := "fnMostTogether", apart := false, narrowed := true }
def FnMostTogetherUptoSaid : Prop := fnMostTogetherUptoRow.holds Try.pinned (OpenSpec.upto fnMostTogetherSpec)

/-- 'laws.FnMostTogetherWorkers', WHERE WHAT IT READS IS OF BULK AT MOST 1048576: true; the input reads as it did. -/
def fnMostTogetherWorkersUptoRow : OpenClaim := { program := "ytenneicbhpjfmaa", sum := "e611596ce98fd279b2bc3a01dad3c93d1034845241cdb3edfce3ec36c5312810", func := "loop.example/buildscheduler/laws.FnMostTogetherWorkers", spec := "fnMostTogetherWorkers", apart := false, narrowed := true }
def FnMostTogetherWorkersUptoSaid : Prop := fnMostTogetherWorkersUptoRow.holds Try.pinned (OpenSpec.upto fnMostTogetherWorkersSpec)

/-- 'laws.FnDoneByEnd', WHERE WHAT IT READS IS OF BULK AT MOST 1048576: true; the input reads as it did. -/
def fnDoneByEndUptoRow : OpenClaim := { program := "ytenneicbhpjfmaa", sum := "e611596ce98fd279b2bc3a01dad3c93d1034845241cdb3edfce3ec36c5312810", func := "loop.example/buildscheduler/laws.FnDoneByEnd", spec := "fnDoneByEnd", apart := false, narrowed := true }
def FnDoneByEndUptoSaid : Prop := fnDoneByEndUptoRow.holds Try.pinned (OpenSpec.upto fnDoneByEndSpec)

/-- 'laws.FnBusyTimeLess', WHERE WHAT IT READS IS OF BULK AT MOST 1048576: true; the input reads as it did. -/
def fnBusyTimeLessUptoRow : OpenClaim := { program := "ytenneicbhpjfmaa", sum := "e611596ce98fd279b2bc3a01dad3c93d1034845241cdb3edfce3ec36c5312810", func := "loop.example/buildscheduler/laws.FnBusyTimeLess", spec := "fnBusyTimeLess", apart := false, narrowed := true }
def FnBusyTimeLessUptoSaid : Prop := fnBusyTimeLessUptoRow.holds Try.pinned (OpenSpec.upto fnBusyTimeLessSpec)

/-- 'laws.FnMostTogetherOne', WHERE WHAT IT READS IS OF BULK AT MOST 1048576: true; the input reads as it did. -/
def fnMostTogetherOneUptoRow : OpenClaim := { program := "ytenneicbhpjfmaa", sum := "e611596ce98fd279b2bc3a01dad3c93d1034845241cdb3edfce3ec36c5312810", func := "loop.example/buildscheduler/laws.FnMostTogetherOne", spec := "fnMostTogetherOne", apart := false, narrowed := true }
def FnMostTogetherOneUptoSaid : Prop := fnMostTogetherOneUptoRow.holds Try.pinned (OpenSpec.upto fnMostTogetherOneSpec)

end Rows
end Go.Proofs.Ytenneicbhpjfmaa
