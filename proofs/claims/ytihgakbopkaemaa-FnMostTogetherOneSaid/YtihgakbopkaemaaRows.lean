/-
  No cell of these rows narrows 'for every input' (looked for: loops, veiled, ifaces, maps, wideKeys, modest, calm, conditions, laid).
  DERIVED. THE GIVEN ROWS OF THIS SEAT. 7 by the template 'for every input the law returns true; each argument reads behind the call as it read before'; 0 by the template 'total and deterministic' (their statements: YtihgakbopkaemaaTotals.lean).
  GIVEN WITH THE SEED: the statements are not yours to turn. If you find one false, say at which input.
  Laid BY PROGRAM, IN A SANDBOX (cutbox-rows.mjs): the forced cells as the released guide's own fill.sh prints them over the translation 516d9fc0417db3f0… (all of the seat's roots in one cut). By AI agents, Wed Nov 11 2026. No macro, syntax, notation, axiom, sorry.
-/
import Derived.Test.YtihgakbopkaemaaChecked
import GoSem.Claim
import GoSem.ClaimJoined
import GoSem.ClaimMapViews
import Derived.JoinedTies
import Derived.KernelRfl
namespace Go.Proofs.Ytihgakbopkaemaa
/- THE CELL 'sum', in the pinned program and in every row, IS THE sha256 OF THE DUMP (.gsa) THAT YtihgakbopkaemaaProg.lean LOADS. Nothing in Lean hashes anything: it is a label: what it is worth is what the hold of that sum in a sandbox is worth. -/
noncomputable def Try.pinned : Pinned := { name := "ytihgakbopkaemaa", sum := "516d9fc0417db3f0d6c9c5fd285dfe263b830f2db6ee0751fa69c1ecf75529fa", checked := Try.checked }
namespace Rows
def none {H : Type} : Left H := { results := [], args := [] }

/-- 'laws.FnLogOf': WHATEVER THE INPUT: true; the input reads as it did. -/
def fnLogOfSpec : ChangeSpec := { name := "fnLogOf", fn := fun _ => fun
  | [d] => { results := [.lit (.bool true)], args := [d] }
  | _ => none }
def fnLogOfRow : OpenClaim := { program := "ytihgakbopkaemaa", sum := "516d9fc0417db3f0d6c9c5fd285dfe263b830f2db6ee0751fa69c1ecf75529fa", func := "loop.example/buildscheduler/laws.FnLogOf", spec := "fnLogOf", apart := false }
def FnLogOfSaid : Prop := fnLogOfRow.holds Try.pinned (OpenSpec.ofChange fnLogOfSpec)

/-- ITS FALSE NEIGHBOUR: 'it returns false'. Refute it at one input. -/
def fnLogOfWrong : ChangeSpec := { name := "fnLogOf", fn := fun _ => fun
  | [d] => { results := [.lit (.bool false)], args := [d] }
  | _ => none }
def FnLogOfWrongFalsely : Prop := fnLogOfRow.holds Try.pinned (OpenSpec.ofChange fnLogOfWrong)

/-- 'laws.FnLogOfTimes': WHATEVER THE INPUT: true; the input reads as it did. -/
def fnLogOfTimesSpec : ChangeSpec := { name := "fnLogOfTimes", fn := fun _ => fun
  | [d] => { results := [.lit (.bool true)], args := [d] }
  | _ => none }
def fnLogOfTimesRow : OpenClaim := { program := "ytihgakbopkaemaa", sum := "516d9fc0417db3f0d6c9c5fd285dfe263b830f2db6ee0751fa69c1ecf75529fa", func := "loop.example/buildscheduler/laws.FnLogOfTimes", spec := "fnLogOfTimes", apart := false }
def FnLogOfTimesSaid : Prop := fnLogOfTimesRow.holds Try.pinned (OpenSpec.ofChange fnLogOfTimesSpec)

/-- ITS FALSE NEIGHBOUR: 'it returns false'. Refute it at one input. -/
def fnLogOfTimesWrong : ChangeSpec := { name := "fnLogOfTimes", fn := fun _ => fun
  | [d] => { results := [.lit (.bool false)], args := [d] }
  | _ => none }
def FnLogOfTimesWrongFalsely : Prop := fnLogOfTimesRow.holds Try.pinned (OpenSpec.ofChange fnLogOfTimesWrong)

/-- 'laws.FnDoneBy': WHATEVER THE INPUT: true; the input reads as it did. -/
def fnDoneBySpec : ChangeSpec := { name := "fnDoneBy", fn := fun _ => fun
  | [d] => { results := [.lit (.bool true)], args := [d] }
  | _ => none }
def fnDoneByRow : OpenClaim := { program := "ytihgakbopkaemaa", sum := "516d9fc0417db3f0d6c9c5fd285dfe263b830f2db6ee0751fa69c1ecf75529fa", func := "loop.example/buildscheduler/laws.FnDoneBy", spec := "fnDoneBy", apart := false }
def FnDoneBySaid : Prop := fnDoneByRow.holds Try.pinned (OpenSpec.ofChange fnDoneBySpec)

/-- ITS FALSE NEIGHBOUR: 'it returns false'. Refute it at one input. -/
def fnDoneByWrong : ChangeSpec := { name := "fnDoneBy", fn := fun _ => fun
  | [d] => { results := [.lit (.bool false)], args := [d] }
  | _ => none }
def FnDoneByWrongFalsely : Prop := fnDoneByRow.holds Try.pinned (OpenSpec.ofChange fnDoneByWrong)

/-- 'laws.FnDoneByLog': WHATEVER THE INPUT: true; the input reads as it did. -/
def fnDoneByLogSpec : ChangeSpec := { name := "fnDoneByLog", fn := fun _ => fun
  | [d] => { results := [.lit (.bool true)], args := [d] }
  | _ => none }
def fnDoneByLogRow : OpenClaim := { program := "ytihgakbopkaemaa", sum := "516d9fc0417db3f0d6c9c5fd285dfe263b830f2db6ee0751fa69c1ecf75529fa", func := "loop.example/buildscheduler/laws.FnDoneByLog", spec := "fnDoneByLog", apart := false }
def FnDoneByLogSaid : Prop := fnDoneByLogRow.holds Try.pinned (OpenSpec.ofChange fnDoneByLogSpec)

/-- ITS FALSE NEIGHBOUR: 'it returns false'. Refute it at one input. -/
def fnDoneByLogWrong : ChangeSpec := { name := "fnDoneByLog", fn := fun _ => fun
  | [d] => { results := [.lit (.bool false)], args := [d] }
  | _ => none }
def FnDoneByLogWrongFalsely : Prop := fnDoneByLogRow.holds Try.pinned (OpenSpec.ofChange fnDoneByLogWrong)

/-- 'laws.FnMostTogetherWorkers': WHATEVER THE INPUT: true; the input reads as it did. -/
def fnMostTogetherWorkersSpec : ChangeSpec := { name := "fnMostTogetherWorkers", fn := fun _ => fun
  | [d] => { results := [.lit (.bool true)], args := [d] }
  | _ => none }
def fnMostTogetherWorkersRow : OpenClaim := { program := "ytihgakbopkaemaa", sum := "516d9fc0417db3f0d6c9c5fd285dfe263b830f2db6ee0751fa69c1ecf75529fa", func := "loop.example/buildscheduler/laws.FnMostTogetherWorkers", spec := "fnMostTogetherWorkers", apart := false }
def FnMostTogetherWorkersSaid : Prop := fnMostTogetherWorkersRow.holds Try.pinned (OpenSpec.ofChange fnMostTogetherWorkersSpec)

/-- ITS FALSE NEIGHBOUR: 'it returns false'. Refute it at one input. -/
def fnMostTogetherWorkersWrong : ChangeSpec := { name := "fnMostTogetherWorkers", fn := fun _ => fun
  | [d] => { results := [.lit (.bool false)], args := [d] }
  | _ => none }
def FnMostTogetherWorkersWrongFalsely : Prop := fnMostTogetherWorkersRow.holds Try.pinned (OpenSpec.ofChange fnMostTogetherWorkersWrong)

/-- 'laws.FnDoneByEnd': WHATEVER THE INPUT: true; the input reads as it did. -/
def fnDoneByEndSpec : ChangeSpec := { name := "fnDoneByEnd", fn := fun _ => fun
  | [d] => { results := [.lit (.bool true)], args := [d] }
  | _ => none }
def fnDoneByEndRow : OpenClaim := { program := "ytihgakbopkaemaa", sum := "516d9fc0417db3f0d6c9c5fd285dfe263b830f2db6ee0751fa69c1ecf75529fa", func := "loop.example/buildscheduler/laws.FnDoneByEnd", spec := "fnDoneByEnd", apart := false }
def FnDoneByEndSaid : Prop := fnDoneByEndRow.holds Try.pinned (OpenSpec.ofChange fnDoneByEndSpec)

/-- ITS FALSE NEIGHBOUR: 'it returns false'. Refute it at one input. -/
def fnDoneByEndWrong : ChangeSpec := { name := "fnDoneByEnd", fn := fun _ => fun
  | [d] => { results := [.lit (.bool false)], args := [d] }
  | _ => none }
def FnDoneByEndWrongFalsely : Prop := fnDoneByEndRow.holds Try.pinned (OpenSpec.ofChange fnDoneByEndWrong)

/-- 'laws.FnMostTogetherOne': WHATEVER THE INPUT: true; the input reads as it did. -/
def fnMostTogetherOneSpec : ChangeSpec := { name := "fnMostTogetherOne", fn := fun _ => fun
  | [d] => { results := [.lit (.bool true)], args := [d] }
  | _ => none }
def fnMostTogetherOneRow : OpenClaim := { program := "ytihgakbopkaemaa", sum := "516d9fc0417db3f0d6c9c5fd285dfe263b830f2db6ee0751fa69c1ecf75529fa", func := "loop.example/buildscheduler/laws.FnMostTogetherOne", spec := "fnMostTogetherOne", apart := false }
def FnMostTogetherOneSaid : Prop := fnMostTogetherOneRow.holds Try.pinned (OpenSpec.ofChange fnMostTogetherOneSpec)

/-- ITS FALSE NEIGHBOUR: 'it returns false'. Refute it at one input. -/
def fnMostTogetherOneWrong : ChangeSpec := { name := "fnMostTogetherOne", fn := fun _ => fun
  | [d] => { results := [.lit (.bool false)], args := [d] }
  | _ => none }
def FnMostTogetherOneWrongFalsely : Prop := fnMostTogetherOneRow.holds Try.pinned (OpenSpec.ofChange fnMostTogetherOneWrong)

/- THE SECOND FORM. 'bulk': how many values and letters a reading holds, each counted each time it is reached (what is shared counts as often as it is met; a slice's spare places count too). A statement '..UptoSaid' is the law's where the arguments, and the package variables that the reading takes, are together of bulk at most 1048576: NARROWER than '..Said'. Prove '..Said' where nothing that the law and all that it calls make is longer than what came in: it says more and counts as full. Else prove '..UptoSaid'. A law counts once. -/
mutual
def uptoBulk {H : Type} : DataW H → Nat
  | .lit (.string bytes) => bytes.length + 1
  | .lit _ => 1
  | .nil => 1
  | .ptr d => uptoBulk d + 1
  | .slice elems spare => uptoBulkAll elems + uptoBulkAll spare + 1
  | .agg parts => uptoBulkAll parts + 1
  | .iface _ d => uptoBulk d + 1
  | .map entries => uptoBulkEntries entries + 1
  | .held _ => 1
def uptoBulkAll {H : Type} : List (DataW H) → Nat
  | [] => 0
  | d :: r => uptoBulk d + uptoBulkAll r
def uptoBulkEntries {H : Type} : List (Lit × DataW H) → Nat
  | [] => 0
  | x :: r => uptoBulkEntry x + uptoBulkEntries r
def uptoBulkEntry {H : Type} : Lit × DataW H → Nat
  | (.string bytes, d) => bytes.length + uptoBulk d + 1
  | (_, d) => uptoBulk d + 1
 end
def uptoSmall : (H : Type) → List (DataW H) → Bool := fun _ ds => decide (uptoBulkAll ds ≤ 1048576)
def OpenSpec.upto (s : _root_.Go.ChangeSpec) : _root_.Go.OpenSpec := { _root_.Go.OpenSpec.ofChange s with cond := some uptoSmall }

/-- 'laws.FnLogOf', WHERE WHAT IT READS IS OF BULK AT MOST 1048576: true; the input reads as it did. -/
def fnLogOfUptoRow : OpenClaim := { program := "ytihgakbopkaemaa", sum := "516d9fc0417db3f0d6c9c5fd285dfe263b830f2db6ee0751fa69c1ecf75529fa", func := "loop.example/buildscheduler/laws.FnLogOf", spec := "fnLogOf", apart := false, narrowed := true }
def FnLogOfUptoSaid : Prop := fnLogOfUptoRow.holds Try.pinned (OpenSpec.upto fnLogOfSpec)

/-- 'laws.FnLogOfTimes', WHERE WHAT IT READS IS OF BULK AT MOST 1048576: true; the input reads as it did. -/
def fnLogOfTimesUptoRow : OpenClaim := { program := "ytihgakbopkaemaa", sum := "516d9fc0417db3f0d6c9c5fd285dfe263b830f2db6ee0751fa69c1ecf75529fa", func := "loop.example/buildscheduler/laws.FnLogOfTimes", spec := "fnLogOfTimes", apart := false, narrowed := true }
def FnLogOfTimesUptoSaid : Prop := fnLogOfTimesUptoRow.holds Try.pinned (OpenSpec.upto fnLogOfTimesSpec)

/-- 'laws.FnDoneBy', WHERE WHAT IT READS IS OF BULK AT MOST 1048576: true; the input reads as it did. -/
def fnDoneByUptoRow : OpenClaim := { program := "ytihgakbopkaemaa", sum := "516d9fc0417db3f0d6c9c5fd285dfe263b830f2db6ee0751fa69c1ecf75529fa", func := "loop.example/buildscheduler/laws.FnDoneBy", spec := "fnDoneBy", apart := false, narrowed := true }
def FnDoneByUptoSaid : Prop := fnDoneByUptoRow.holds Try.pinned (OpenSpec.upto fnDoneBySpec)

/-- 'laws.FnDoneByLog', WHERE WHAT IT READS IS OF BULK AT MOST 1048576: true; the input reads as it did. -/
def fnDoneByLogUptoRow : OpenClaim := { program := "ytihgakbopkaemaa", sum := "516d9fc0417db3f0d6c9c5fd285dfe263b830f2db6ee0751fa69c1ecf75529fa", func := "loop.example/buildscheduler/laws.FnDoneByLog", spec := "fnDoneByLog", apart := false, narrowed := true }
def FnDoneByLogUptoSaid : Prop := fnDoneByLogUptoRow.holds Try.pinned (OpenSpec.upto fnDoneByLogSpec)

/-- 'laws.FnMostTogetherWorkers', WHERE WHAT IT READS IS OF BULK AT MOST 1048576: true; the input reads as it did. -/
def fnMostTogetherWorkersUptoRow : OpenClaim := { program := "ytihgakbopkaemaa", sum := "516d9fc0417db3f0d6c9c5fd285dfe263b830f2db6ee0751fa69c1ecf75529fa", func := "loop.example/buildscheduler/laws.FnMostTogetherWorkers", spec := "fnMostTogetherWorkers", apart := false, narrowed := true }
def FnMostTogetherWorkersUptoSaid : Prop := fnMostTogetherWorkersUptoRow.holds Try.pinned (OpenSpec.upto fnMostTogetherWorkersSpec)

/-- 'laws.FnDoneByEnd', WHERE WHAT IT READS IS OF BULK AT MOST 1048576: true; the input reads as it did. -/
def fnDoneByEndUptoRow : OpenClaim := { program := "ytihgakbopkaemaa", sum := "516d9fc0417db3f0d6c9c5fd285dfe263b830f2db6ee0751fa69c1ecf75529fa", func := "loop.example/buildscheduler/laws.FnDoneByEnd", spec := "fnDoneByEnd", apart := false, narrowed := true }
def FnDoneByEndUptoSaid : Prop := fnDoneByEndUptoRow.holds Try.pinned (OpenSpec.upto fnDoneByEndSpec)

/-- 'laws.FnMostTogetherOne', WHERE WHAT IT READS IS OF BULK AT MOST 1048576: true; the input reads as it did. -/
def fnMostTogetherOneUptoRow : OpenClaim := { program := "ytihgakbopkaemaa", sum := "516d9fc0417db3f0d6c9c5fd285dfe263b830f2db6ee0751fa69c1ecf75529fa", func := "loop.example/buildscheduler/laws.FnMostTogetherOne", spec := "fnMostTogetherOne", apart := false, narrowed := true }
def FnMostTogetherOneUptoSaid : Prop := fnMostTogetherOneUptoRow.holds Try.pinned (OpenSpec.upto fnMostTogetherOneSpec)

end Rows
end Go.Proofs.Ytihgakbopkaemaa
