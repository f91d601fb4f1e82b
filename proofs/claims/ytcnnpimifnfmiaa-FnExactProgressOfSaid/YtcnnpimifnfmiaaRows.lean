/-
  No cell of these rows narrows 'for every input' (looked for: loops, veiled, ifaces, maps, wideKeys, modest, calm, conditions, laid).
  DERIVED. THE GIVEN ROWS OF THIS SEAT. 9 by the template 'for every input the law returns true; each argument reads behind the call as it read before'; 0 by the template 'total and deterministic' (their statements: YtcnnpimifnfmiaaTotals.lean).
  GIVEN WITH THE SEED: the statements are not yours to turn. If you find one false, say at which input.
  Laid BY PROGRAM, IN A SANDBOX (cutbox-rows.mjs): the forced cells as the released guide's own fill.sh prints them over the translation e2f3940047cd5e0e… (all of the seat's roots in one cut). By AI agents, Wed Nov 11 2026. No macro, syntax, notation, axiom, sorry.
-/
import Derived.Test.YtcnnpimifnfmiaaChecked
import GoSem.Claim
import GoSem.ClaimJoined
import GoSem.ClaimMapViews
import Derived.JoinedTies
import Derived.KernelRfl
namespace Go.Proofs.Ytcnnpimifnfmiaa
/- THE CELL 'sum', in the pinned program and in every row, IS THE sha256 OF THE DUMP (.gsa) THAT YtcnnpimifnfmiaaProg.lean LOADS. Nothing in Lean hashes anything: it is a label: what it is worth is what the hold of that sum in a sandbox is worth. -/
noncomputable def Try.pinned : Pinned := { name := "ytcnnpimifnfmiaa", sum := "e2f3940047cd5e0e7dd0f5cd98b846be52a2d2b7ad26fad14c2dfd81d17c4e1d", checked := Try.checked }
namespace Rows
def none {H : Type} : Left H := { results := [], args := [] }

/-- 'laws.FnExactValidLog': WHATEVER THE INPUT: true; the input reads as it did. -/
def fnExactValidLogSpec : ChangeSpec := { name := "fnExactValidLog", fn := fun _ => fun
  | [d1, d2] => { results := [.lit (.bool true)], args := [d1, d2] }
  | _ => none }
def fnExactValidLogRow : OpenClaim := { program := "ytcnnpimifnfmiaa", sum := "e2f3940047cd5e0e7dd0f5cd98b846be52a2d2b7ad26fad14c2dfd81d17c4e1d", func := "loop.example/buildscheduler/laws.FnExactValidLog", spec := "fnExactValidLog", apart := false }
def FnExactValidLogSaid : Prop := fnExactValidLogRow.holds Try.pinned (OpenSpec.ofChange fnExactValidLogSpec)

/-- ITS FALSE NEIGHBOUR: 'it returns false'. Refute it at one input. -/
def fnExactValidLogWrong : ChangeSpec := { name := "fnExactValidLog", fn := fun _ => fun
  | [d1, d2] => { results := [.lit (.bool false)], args := [d1, d2] }
  | _ => none }
def FnExactValidLogWrongFalsely : Prop := fnExactValidLogRow.holds Try.pinned (OpenSpec.ofChange fnExactValidLogWrong)

/-- 'laws.FnExactLogOf': WHATEVER THE INPUT: true; the input reads as it did. -/
def fnExactLogOfSpec : ChangeSpec := { name := "fnExactLogOf", fn := fun _ => fun
  | [d1, d2, d3, d4] => { results := [.lit (.bool true)], args := [d1, d2, d3, d4] }
  | _ => none }
def fnExactLogOfRow : OpenClaim := { program := "ytcnnpimifnfmiaa", sum := "e2f3940047cd5e0e7dd0f5cd98b846be52a2d2b7ad26fad14c2dfd81d17c4e1d", func := "loop.example/buildscheduler/laws.FnExactLogOf", spec := "fnExactLogOf", apart := false }
def FnExactLogOfSaid : Prop := fnExactLogOfRow.holds Try.pinned (OpenSpec.ofChange fnExactLogOfSpec)

/-- ITS FALSE NEIGHBOUR: 'it returns false'. Refute it at one input. -/
def fnExactLogOfWrong : ChangeSpec := { name := "fnExactLogOf", fn := fun _ => fun
  | [d1, d2, d3, d4] => { results := [.lit (.bool false)], args := [d1, d2, d3, d4] }
  | _ => none }
def FnExactLogOfWrongFalsely : Prop := fnExactLogOfRow.holds Try.pinned (OpenSpec.ofChange fnExactLogOfWrong)

/-- 'laws.FnExactDoneBy': WHATEVER THE INPUT: true; the input reads as it did. -/
def fnExactDoneBySpec : ChangeSpec := { name := "fnExactDoneBy", fn := fun _ => fun
  | [d1, d2, d3] => { results := [.lit (.bool true)], args := [d1, d2, d3] }
  | _ => none }
def fnExactDoneByRow : OpenClaim := { program := "ytcnnpimifnfmiaa", sum := "e2f3940047cd5e0e7dd0f5cd98b846be52a2d2b7ad26fad14c2dfd81d17c4e1d", func := "loop.example/buildscheduler/laws.FnExactDoneBy", spec := "fnExactDoneBy", apart := false }
def FnExactDoneBySaid : Prop := fnExactDoneByRow.holds Try.pinned (OpenSpec.ofChange fnExactDoneBySpec)

/-- ITS FALSE NEIGHBOUR: 'it returns false'. Refute it at one input. -/
def fnExactDoneByWrong : ChangeSpec := { name := "fnExactDoneBy", fn := fun _ => fun
  | [d1, d2, d3] => { results := [.lit (.bool false)], args := [d1, d2, d3] }
  | _ => none }
def FnExactDoneByWrongFalsely : Prop := fnExactDoneByRow.holds Try.pinned (OpenSpec.ofChange fnExactDoneByWrong)

/-- 'laws.FnExactBusyTime': WHATEVER THE INPUT: true; the input reads as it did. -/
def fnExactBusyTimeSpec : ChangeSpec := { name := "fnExactBusyTime", fn := fun _ => fun
  | [d1, d2] => { results := [.lit (.bool true)], args := [d1, d2] }
  | _ => none }
def fnExactBusyTimeRow : OpenClaim := { program := "ytcnnpimifnfmiaa", sum := "e2f3940047cd5e0e7dd0f5cd98b846be52a2d2b7ad26fad14c2dfd81d17c4e1d", func := "loop.example/buildscheduler/laws.FnExactBusyTime", spec := "fnExactBusyTime", apart := false }
def FnExactBusyTimeSaid : Prop := fnExactBusyTimeRow.holds Try.pinned (OpenSpec.ofChange fnExactBusyTimeSpec)

/-- ITS FALSE NEIGHBOUR: 'it returns false'. Refute it at one input. -/
def fnExactBusyTimeWrong : ChangeSpec := { name := "fnExactBusyTime", fn := fun _ => fun
  | [d1, d2] => { results := [.lit (.bool false)], args := [d1, d2] }
  | _ => none }
def FnExactBusyTimeWrongFalsely : Prop := fnExactBusyTimeRow.holds Try.pinned (OpenSpec.ofChange fnExactBusyTimeWrong)

/-- 'laws.FnExactMostTogether': WHATEVER THE INPUT: true; the input reads as it did. -/
def fnExactMostTogetherSpec : ChangeSpec := { name := "fnExactMostTogether", fn := fun _ => fun
  | [d1, d2] => { results := [.lit (.bool true)], args := [d1, d2] }
  | _ => none }
def fnExactMostTogetherRow : OpenClaim := { program := "ytcnnpimifnfmiaa", sum := "e2f3940047cd5e0e7dd0f5cd98b846be52a2d2b7ad26fad14c2dfd81d17c4e1d", func := "loop.example/buildscheduler/laws.FnExactMostTogether", spec := "fnExactMostTogether", apart := false }
def FnExactMostTogetherSaid : Prop := fnExactMostTogetherRow.holds Try.pinned (OpenSpec.ofChange fnExactMostTogetherSpec)

/-- ITS FALSE NEIGHBOUR: 'it returns false'. Refute it at one input. -/
def fnExactMostTogetherWrong : ChangeSpec := { name := "fnExactMostTogether", fn := fun _ => fun
  | [d1, d2] => { results := [.lit (.bool false)], args := [d1, d2] }
  | _ => none }
def FnExactMostTogetherWrongFalsely : Prop := fnExactMostTogetherRow.holds Try.pinned (OpenSpec.ofChange fnExactMostTogetherWrong)

/-- 'laws.FnExactEstimateOf': WHATEVER THE INPUT: true; the input reads as it did. -/
def fnExactEstimateOfSpec : ChangeSpec := { name := "fnExactEstimateOf", fn := fun _ => fun
  | [d] => { results := [.lit (.bool true)], args := [d] }
  | _ => none }
def fnExactEstimateOfRow : OpenClaim := { program := "ytcnnpimifnfmiaa", sum := "e2f3940047cd5e0e7dd0f5cd98b846be52a2d2b7ad26fad14c2dfd81d17c4e1d", func := "loop.example/buildscheduler/laws.FnExactEstimateOf", spec := "fnExactEstimateOf", apart := false }
def FnExactEstimateOfSaid : Prop := fnExactEstimateOfRow.holds Try.pinned (OpenSpec.ofChange fnExactEstimateOfSpec)

/-- ITS FALSE NEIGHBOUR: 'it returns false'. Refute it at one input. -/
def fnExactEstimateOfWrong : ChangeSpec := { name := "fnExactEstimateOf", fn := fun _ => fun
  | [d] => { results := [.lit (.bool false)], args := [d] }
  | _ => none }
def FnExactEstimateOfWrongFalsely : Prop := fnExactEstimateOfRow.holds Try.pinned (OpenSpec.ofChange fnExactEstimateOfWrong)

/-- 'laws.FnExactAddTime': WHATEVER THE INPUT: true; the input reads as it did. -/
def fnExactAddTimeSpec : ChangeSpec := { name := "fnExactAddTime", fn := fun _ => fun
  | [d1, d2] => { results := [.lit (.bool true)], args := [d1, d2] }
  | _ => none }
def fnExactAddTimeRow : OpenClaim := { program := "ytcnnpimifnfmiaa", sum := "e2f3940047cd5e0e7dd0f5cd98b846be52a2d2b7ad26fad14c2dfd81d17c4e1d", func := "loop.example/buildscheduler/laws.FnExactAddTime", spec := "fnExactAddTime", apart := false }
def FnExactAddTimeSaid : Prop := fnExactAddTimeRow.holds Try.pinned (OpenSpec.ofChange fnExactAddTimeSpec)

/-- ITS FALSE NEIGHBOUR: 'it returns false'. Refute it at one input. -/
def fnExactAddTimeWrong : ChangeSpec := { name := "fnExactAddTime", fn := fun _ => fun
  | [d1, d2] => { results := [.lit (.bool false)], args := [d1, d2] }
  | _ => none }
def FnExactAddTimeWrongFalsely : Prop := fnExactAddTimeRow.holds Try.pinned (OpenSpec.ofChange fnExactAddTimeWrong)

/-- 'laws.FnExactTimeLeft': WHATEVER THE INPUT: true; the input reads as it did. -/
def fnExactTimeLeftSpec : ChangeSpec := { name := "fnExactTimeLeft", fn := fun _ => fun
  | [d1, d2] => { results := [.lit (.bool true)], args := [d1, d2] }
  | _ => none }
def fnExactTimeLeftRow : OpenClaim := { program := "ytcnnpimifnfmiaa", sum := "e2f3940047cd5e0e7dd0f5cd98b846be52a2d2b7ad26fad14c2dfd81d17c4e1d", func := "loop.example/buildscheduler/laws.FnExactTimeLeft", spec := "fnExactTimeLeft", apart := false }
def FnExactTimeLeftSaid : Prop := fnExactTimeLeftRow.holds Try.pinned (OpenSpec.ofChange fnExactTimeLeftSpec)

/-- ITS FALSE NEIGHBOUR: 'it returns false'. Refute it at one input. -/
def fnExactTimeLeftWrong : ChangeSpec := { name := "fnExactTimeLeft", fn := fun _ => fun
  | [d1, d2] => { results := [.lit (.bool false)], args := [d1, d2] }
  | _ => none }
def FnExactTimeLeftWrongFalsely : Prop := fnExactTimeLeftRow.holds Try.pinned (OpenSpec.ofChange fnExactTimeLeftWrong)

/-- 'laws.FnExactProgressOf': WHATEVER THE INPUT: true; the input reads as it did. -/
def fnExactProgressOfSpec : ChangeSpec := { name := "fnExactProgressOf", fn := fun _ => fun
  | [d1, d2] => { results := [.lit (.bool true)], args := [d1, d2] }
  | _ => none }
def fnExactProgressOfRow : OpenClaim := { program := "ytcnnpimifnfmiaa", sum := "e2f3940047cd5e0e7dd0f5cd98b846be52a2d2b7ad26fad14c2dfd81d17c4e1d", func := "loop.example/buildscheduler/laws.FnExactProgressOf", spec := "fnExactProgressOf", apart := false }
def FnExactProgressOfSaid : Prop := fnExactProgressOfRow.holds Try.pinned (OpenSpec.ofChange fnExactProgressOfSpec)

/-- ITS FALSE NEIGHBOUR: 'it returns false'. Refute it at one input. -/
def fnExactProgressOfWrong : ChangeSpec := { name := "fnExactProgressOf", fn := fun _ => fun
  | [d1, d2] => { results := [.lit (.bool false)], args := [d1, d2] }
  | _ => none }
def FnExactProgressOfWrongFalsely : Prop := fnExactProgressOfRow.holds Try.pinned (OpenSpec.ofChange fnExactProgressOfWrong)

/- THE SECOND FORM. 'bulk': how many values and letters a reading holds, each counted each time it is reached (what is shared counts as often as it is met; a slice's spare places count too). A statement '..UptoSaid' is the law's where the arguments, and the package variables that the reading takes, are together of bulk at most 1048576: NARROWER than '..Said'. Prove '..Said' where nothing that the law and all that it calls make is longer than what came in: it says more and counts as full. Else prove '..UptoSaid'. A law counts once. -/
mutual
def uptoBulk {H : Type} : DataW H → Nat
  | .lit (.string bytes) => bytes.length + 1
  | .lit _ => 1
  | .nil => 1
  | .ptr d => uptoBulk d + 1
  | .slice elems spare => uptoBulkAll elems + uptoBulkAll spare + 1
  | .agg parts => uptoBulkAll parts + 1
  | .iface _ d => uptoBulk d + 1
  | .map entries => uptoBulkEntries entries + 1
  | .held _ => 1
def uptoBulkAll {H : Type} : List (DataW H) → Nat
  | [] => 0
  | d :: r => uptoBulk d + uptoBulkAll r
def uptoBulkEntries {H : Type} : List (Lit × DataW H) → Nat
  | [] => 0
  | x :: r => uptoBulkEntry x + uptoBulkEntries r
def uptoBulkEntry {H : Type} : Lit × DataW H → Nat
  | (.string bytes, d) => bytes.length + uptoBulk d + 1
  | (_, d) => uptoBulk d + 1
 end
def uptoSmall : (H : Type) → List (DataW H) → Bool := fun _ ds => decide (uptoBulkAll ds ≤ 1048576)
def OpenSpec.upto (s : _root_.Go.ChangeSpec) : _root_.Go.OpenSpec := { _root_.Go.OpenSpec.ofChange s with cond := some uptoSmall }

/-- 'laws.FnExactValidLog', WHERE WHAT IT READS IS OF BULK AT MOST 1048576: true; the input reads as it did. -/
def fnExactValidLogUptoRow : OpenClaim := { program := "ytcnnpimifnfmiaa", sum := "e2f3940047cd5e0e7dd0f5cd98b846be52a2d2b7ad26fad14c2dfd81d17c4e1d", func := "loop.example/buildscheduler/laws.FnExactValidLog", spec := "fnExactValidLog", apart := false, narrowed := true }
def FnExactValidLogUptoSaid : Prop := fnExactValidLogUptoRow.holds Try.pinned (OpenSpec.upto fnExactValidLogSpec)

/-- 'laws.FnExactLogOf', WHERE WHAT IT READS IS OF BULK AT MOST 1048576: true; the input reads as it did. -/
def fnExactLogOfUptoRow : OpenClaim := { program := "ytcnnpimifnfmiaa", sum := "e2f3940047cd5e0e7dd0f5cd98b846be52a2d2b7ad26fad14c2dfd81d17c4e1d", func := "loop.example/buildscheduler/laws.FnExactLogOf", spec := "fnExactLogOf", apart := false, narrowed := true }
def FnExactLogOfUptoSaid : Prop := fnExactLogOfUptoRow.holds Try.pinned (OpenSpec.upto fnExactLogOfSpec)

/-- 'laws.FnExactDoneBy', WHERE WHAT IT READS IS OF BULK AT MOST 1048576: true; the input reads as it did. -/
def fnExactDoneByUptoRow : OpenClaim := { program := "ytcnnpimifnfmiaa", sum := "e2f3940047cd5e0e7dd0f5cd98b846be52a2d2b7ad26fad14c2dfd81d17c4e1d", func := "loop.example/buildscheduler/laws.FnExactDoneBy", spec := "fnExactDoneBy", apart := false, narrowed := true }
def FnExactDoneByUptoSaid : Prop := fnExactDoneByUptoRow.holds Try.pinned (OpenSpec.upto fnExactDoneBySpec)

/-- 'laws.FnExactBusyTime', WHERE WHAT IT READS IS OF BULK AT MOST 1048576: true; the input reads as it did. -/
def fnExactBusyTimeUptoRow : OpenClaim := { program := "ytcnnpimifnfmiaa", sum := "e2f3940047cd5e0e7dd0f5cd98b846be52a2d2b7ad26fad14c2dfd81d17c4e1d", func := "loop.example/buildscheduler/laws.FnExactBusyTime", spec := "fnExactBusyTime", apart := false, narrowed := true }
def FnExactBusyTimeUptoSaid : Prop := fnExactBusyTimeUptoRow.holds Try.pinned (OpenSpec.upto fnExactBusyTimeSpec)

/-- 'laws.FnExactMostTogether', WHERE WHAT IT READS IS OF BULK AT MOST 1048576: true; the input reads as it did. -/
def fnExactMostTogetherUptoRow : OpenClaim := { program := "ytcnnpimifnfmiaa", sum := "e2f3940047cd5e0e7dd0f5cd98b846be52a2d2b7ad26fad14c2dfd81d17c4e1d", func := "loop.example/buildscheduler/laws.FnExactMostTogether", spec := "fnExactMostTogether", apart := false, narrowed := true }
def FnExactMostTogetherUptoSaid : Prop := fnExactMostTogetherUptoRow.holds Try.pinned (OpenSpec.upto fnExactMostTogetherSpec)

/-- 'laws.FnExactEstimateOf', WHERE WHAT IT READS IS OF BULK AT MOST 1048576: true; the input reads as it did. -/
def fnExactEstimateOfUptoRow : OpenClaim := { program := "ytcnnpimifnfmiaa", sum := "e2f3940047cd5e0e7dd0f5cd98b846be52a2d2b7ad26fad14c2dfd81d17c4e1d", func := "loop.example/buildscheduler/laws.FnExactEstimateOf", spec := "fnExactEstimateOf", apart := false, narrowed := true }
def FnExactEstimateOfUptoSaid : Prop := fnExactEstimateOfUptoRow.holds Try.pinned (OpenSpec.upto fnExactEstimateOfSpec)

/-- 'laws.FnExactAddTime', WHERE WHAT IT READS IS OF BULK AT MOST 1048576: true; the input reads as it did. -/
def fnExactAddTimeUptoRow : OpenClaim := { program := "ytcnnpimifnfmiaa", sum := "e2f3940047cd5e0e7dd0f5cd98b846be52a2d2b7ad26fad14c2dfd81d17c4e1d", func := "loop.example/buildscheduler/laws.FnExactAddTime", spec := "fnExactAddTime", apart := false, narrowed := true }
def FnExactAddTimeUptoSaid : Prop := fnExactAddTimeUptoRow.holds Try.pinned (OpenSpec.upto fnExactAddTimeSpec)

/-- 'laws.FnExactTimeLeft', WHERE WHAT IT READS IS OF BULK AT MOST 1048576: true; the input reads as it did. -/
def fnExactTimeLeftUptoRow : OpenClaim := { program := "ytcnnpimifnfmiaa", sum := "e2f3940047cd5e0e7dd0f5cd98b846be52a2d2b7ad26fad14c2dfd81d17c4e1d", func := "loop.example/buildscheduler/laws.FnExactTimeLeft", spec := "fnExactTimeLeft", apart := false, narrowed := true }
def FnExactTimeLeftUptoSaid : Prop := fnExactTimeLeftUptoRow.holds Try.pinned (OpenSpec.upto fnExactTimeLeftSpec)

/-- 'laws.FnExactProgressOf', WHERE WHAT IT READS IS OF BULK AT MOST 1048576: true; the input reads as it did. -/
def fnExactProgressOfUptoRow : OpenClaim := { program := "ytcnnpimifnfmiaa", sum := "e2f3940047cd5e0e7dd0f5cd98b846be52a2d2b7ad26fad14c2dfd81d17c4e1d", func := "loop.example/buildscheduler/laws.FnExactProgressOf", spec := "fnExactProgressOf", apart := false, narrowed := true }
def FnExactProgressOfUptoSaid : Prop := fnExactProgressOfUptoRow.holds Try.pinned (OpenSpec.upto fnExactProgressOfSpec)

end Rows
end Go.Proofs.Ytcnnpimifnfmiaa
