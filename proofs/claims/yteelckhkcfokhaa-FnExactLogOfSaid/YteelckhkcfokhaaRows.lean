/-
  No cell of these rows narrows 'for every input' (looked for: loops, veiled, ifaces, maps, wideKeys, modest, calm, conditions, laid).
  DERIVED. THE GIVEN ROWS OF THIS SEAT. 11 by the template 'for every input the law returns true; each argument reads behind the call as it read before'; 0 by the template 'total and deterministic' (their statements: YteelckhkcfokhaaTotals.lean).
  GIVEN WITH THE SEED: the statements are not yours to turn. If you find one false, say at which input.
  Laid BY PROGRAM, IN A SANDBOX (cutbox-rows.mjs): the forced cells as the released guide's own fill.sh prints them over the translation bd0e38955859d2df… (all of the seat's roots in one cut). By AI agents, Wed Nov 11 2026. No macro, syntax, notation, axiom, sorry.
-/
import Derived.Test.YteelckhkcfokhaaChecked
import GoSem.Claim
import GoSem.ClaimJoined
import GoSem.ClaimMapViews
import Derived.JoinedTies
import Derived.KernelRfl
namespace Go.Proofs.Yteelckhkcfokhaa
/- THE CELL 'sum', in the pinned program and in every row, IS THE sha256 OF THE DUMP (.gsa) THAT YteelckhkcfokhaaProg.lean LOADS. Nothing in Lean hashes anything: it is a label: what it is worth is what the hold of that sum in a sandbox is worth. -/
noncomputable def Try.pinned : Pinned := { name := "yteelckhkcfokhaa", sum := "bd0e38955859d2df7377c7961907eef94e92ed62b8caf32e7be063b1499aaead", checked := Try.checked }
namespace Rows
def none {H : Type} : Left H := { results := [], args := [] }

/-- 'laws.FnExactStagesOf': WHATEVER THE INPUT: true; the input reads as it did. -/
def fnExactStagesOfSpec : ChangeSpec := { name := "fnExactStagesOf", fn := fun _ => fun
  | [d] => { results := [.lit (.bool true)], args := [d] }
  | _ => none }
def fnExactStagesOfRow : OpenClaim := { program := "yteelckhkcfokhaa", sum := "bd0e38955859d2df7377c7961907eef94e92ed62b8caf32e7be063b1499aaead", func := "loop.example/buildscheduler/laws.FnExactStagesOf", spec := "fnExactStagesOf", apart := false }
def FnExactStagesOfSaid : Prop := fnExactStagesOfRow.holds Try.pinned (OpenSpec.ofChange fnExactStagesOfSpec)

/-- ITS FALSE NEIGHBOUR: 'it returns false'. Refute it at one input. -/
def fnExactStagesOfWrong : ChangeSpec := { name := "fnExactStagesOf", fn := fun _ => fun
  | [d] => { results := [.lit (.bool false)], args := [d] }
  | _ => none }
def FnExactStagesOfWrongFalsely : Prop := fnExactStagesOfRow.holds Try.pinned (OpenSpec.ofChange fnExactStagesOfWrong)

/-- 'laws.FnExactUselessNeeds': WHATEVER THE INPUT: true; the input reads as it did. -/
def fnExactUselessNeedsSpec : ChangeSpec := { name := "fnExactUselessNeeds", fn := fun _ => fun
  | [d] => { results := [.lit (.bool true)], args := [d] }
  | _ => none }
def fnExactUselessNeedsRow : OpenClaim := { program := "yteelckhkcfokhaa", sum := "bd0e38955859d2df7377c7961907eef94e92ed62b8caf32e7be063b1499aaead", func := "loop.example/buildscheduler/laws.FnExactUselessNeeds", spec := "fnExactUselessNeeds", apart := false }
def FnExactUselessNeedsSaid : Prop := fnExactUselessNeedsRow.holds Try.pinned (OpenSpec.ofChange fnExactUselessNeedsSpec)

/-- ITS FALSE NEIGHBOUR: 'it returns false'. Refute it at one input. -/
def fnExactUselessNeedsWrong : ChangeSpec := { name := "fnExactUselessNeeds", fn := fun _ => fun
  | [d] => { results := [.lit (.bool false)], args := [d] }
  | _ => none }
def FnExactUselessNeedsWrongFalsely : Prop := fnExactUselessNeedsRow.holds Try.pinned (OpenSpec.ofChange fnExactUselessNeedsWrong)

/-- 'laws.FnExactWithoutUseless': WHATEVER THE INPUT: true; the input reads as it did. -/
def fnExactWithoutUselessSpec : ChangeSpec := { name := "fnExactWithoutUseless", fn := fun _ => fun
  | [d] => { results := [.lit (.bool true)], args := [d] }
  | _ => none }
def fnExactWithoutUselessRow : OpenClaim := { program := "yteelckhkcfokhaa", sum := "bd0e38955859d2df7377c7961907eef94e92ed62b8caf32e7be063b1499aaead", func := "loop.example/buildscheduler/laws.FnExactWithoutUseless", spec := "fnExactWithoutUseless", apart := false }
def FnExactWithoutUselessSaid : Prop := fnExactWithoutUselessRow.holds Try.pinned (OpenSpec.ofChange fnExactWithoutUselessSpec)

/-- ITS FALSE NEIGHBOUR: 'it returns false'. Refute it at one input. -/
def fnExactWithoutUselessWrong : ChangeSpec := { name := "fnExactWithoutUseless", fn := fun _ => fun
  | [d] => { results := [.lit (.bool false)], args := [d] }
  | _ => none }
def FnExactWithoutUselessWrongFalsely : Prop := fnExactWithoutUselessRow.holds Try.pinned (OpenSpec.ofChange fnExactWithoutUselessWrong)

/-- 'laws.FnExactFormatGraph': WHATEVER THE INPUT: true; the input reads as it did. -/
def fnExactFormatGraphSpec : ChangeSpec := { name := "fnExactFormatGraph", fn := fun _ => fun
  | [d] => { results := [.lit (.bool true)], args := [d] }
  | _ => none }
def fnExactFormatGraphRow : OpenClaim := { program := "yteelckhkcfokhaa", sum := "bd0e38955859d2df7377c7961907eef94e92ed62b8caf32e7be063b1499aaead", func := "loop.example/buildscheduler/laws.FnExactFormatGraph", spec := "fnExactFormatGraph", recurses := true, apart := false }
def FnExactFormatGraphSaid : Prop := fnExactFormatGraphRow.holds Try.pinned (OpenSpec.ofChange fnExactFormatGraphSpec)

/-- ITS FALSE NEIGHBOUR: 'it returns false'. Refute it at one input. -/
def fnExactFormatGraphWrong : ChangeSpec := { name := "fnExactFormatGraph", fn := fun _ => fun
  | [d] => { results := [.lit (.bool false)], args := [d] }
  | _ => none }
def FnExactFormatGraphWrongFalsely : Prop := fnExactFormatGraphRow.holds Try.pinned (OpenSpec.ofChange fnExactFormatGraphWrong)

/-- 'laws.FnExactParseGraph': WHATEVER THE INPUT: true; the input reads as it did. -/
def fnExactParseGraphSpec : ChangeSpec := { name := "fnExactParseGraph", fn := fun _ => fun
  | [d] => { results := [.lit (.bool true)], args := [d] }
  | _ => none }
def fnExactParseGraphRow : OpenClaim := { program := "yteelckhkcfokhaa", sum := "bd0e38955859d2df7377c7961907eef94e92ed62b8caf32e7be063b1499aaead", func := "loop.example/buildscheduler/laws.FnExactParseGraph", spec := "fnExactParseGraph", recurses := true, apart := false }
def FnExactParseGraphSaid : Prop := fnExactParseGraphRow.holds Try.pinned (OpenSpec.ofChange fnExactParseGraphSpec)

/-- ITS FALSE NEIGHBOUR: 'it returns false'. Refute it at one input. -/
def fnExactParseGraphWrong : ChangeSpec := { name := "fnExactParseGraph", fn := fun _ => fun
  | [d] => { results := [.lit (.bool false)], args := [d] }
  | _ => none }
def FnExactParseGraphWrongFalsely : Prop := fnExactParseGraphRow.holds Try.pinned (OpenSpec.ofChange fnExactParseGraphWrong)

/-- 'laws.FnExactChartLines': WHATEVER THE INPUT: true; the input reads as it did. -/
def fnExactChartLinesSpec : ChangeSpec := { name := "fnExactChartLines", fn := fun _ => fun
  | [d1, d2, d3, d4] => { results := [.lit (.bool true)], args := [d1, d2, d3, d4] }
  | _ => none }
def fnExactChartLinesRow : OpenClaim := { program := "yteelckhkcfokhaa", sum := "bd0e38955859d2df7377c7961907eef94e92ed62b8caf32e7be063b1499aaead", func := "loop.example/buildscheduler/laws.FnExactChartLines", spec := "fnExactChartLines", apart := false }
def FnExactChartLinesSaid : Prop := fnExactChartLinesRow.holds Try.pinned (OpenSpec.ofChange fnExactChartLinesSpec)

/-- ITS FALSE NEIGHBOUR: 'it returns false'. Refute it at one input. -/
def fnExactChartLinesWrong : ChangeSpec := { name := "fnExactChartLines", fn := fun _ => fun
  | [d1, d2, d3, d4] => { results := [.lit (.bool false)], args := [d1, d2, d3, d4] }
  | _ => none }
def FnExactChartLinesWrongFalsely : Prop := fnExactChartLinesRow.holds Try.pinned (OpenSpec.ofChange fnExactChartLinesWrong)

/-- 'laws.FnExactValidLog': WHATEVER THE INPUT: true; the input reads as it did. -/
def fnExactValidLogSpec : ChangeSpec := { name := "fnExactValidLog", fn := fun _ => fun
  | [d1, d2] => { results := [.lit (.bool true)], args := [d1, d2] }
  | _ => none }
def fnExactValidLogRow : OpenClaim := { program := "yteelckhkcfokhaa", sum := "bd0e38955859d2df7377c7961907eef94e92ed62b8caf32e7be063b1499aaead", func := "loop.example/buildscheduler/laws.FnExactValidLog", spec := "fnExactValidLog", apart := false }
def FnExactValidLogSaid : Prop := fnExactValidLogRow.holds Try.pinned (OpenSpec.ofChange fnExactValidLogSpec)

/-- ITS FALSE NEIGHBOUR: 'it returns false'. Refute it at one input. -/
def fnExactValidLogWrong : ChangeSpec := { name := "fnExactValidLog", fn := fun _ => fun
  | [d1, d2] => { results := [.lit (.bool false)], args := [d1, d2] }
  | _ => none }
def FnExactValidLogWrongFalsely : Prop := fnExactValidLogRow.holds Try.pinned (OpenSpec.ofChange fnExactValidLogWrong)

/-- 'laws.FnExactLogOf': WHATEVER THE INPUT: true; the input reads as it did. -/
def fnExactLogOfSpec : ChangeSpec := { name := "fnExactLogOf", fn := fun _ => fun
  | [d1, d2, d3, d4] => { results := [.lit (.bool true)], args := [d1, d2, d3, d4] }
  | _ => none }
def fnExactLogOfRow : OpenClaim := { program := "yteelckhkcfokhaa", sum := "bd0e38955859d2df7377c7961907eef94e92ed62b8caf32e7be063b1499aaead", func := "loop.example/buildscheduler/laws.FnExactLogOf", spec := "fnExactLogOf", apart := false }
def FnExactLogOfSaid : Prop := fnExactLogOfRow.holds Try.pinned (OpenSpec.ofChange fnExactLogOfSpec)

/-- ITS FALSE NEIGHBOUR: 'it returns false'. Refute it at one input. -/
def fnExactLogOfWrong : ChangeSpec := { name := "fnExactLogOf", fn := fun _ => fun
  | [d1, d2, d3, d4] => { results := [.lit (.bool false)], args := [d1, d2, d3, d4] }
  | _ => none }
def FnExactLogOfWrongFalsely : Prop := fnExactLogOfRow.holds Try.pinned (OpenSpec.ofChange fnExactLogOfWrong)

/-- 'laws.FnExactDoneBy': WHATEVER THE INPUT: true; the input reads as it did. -/
def fnExactDoneBySpec : ChangeSpec := { name := "fnExactDoneBy", fn := fun _ => fun
  | [d1, d2, d3] => { results := [.lit (.bool true)], args := [d1, d2, d3] }
  | _ => none }
def fnExactDoneByRow : OpenClaim := { program := "yteelckhkcfokhaa", sum := "bd0e38955859d2df7377c7961907eef94e92ed62b8caf32e7be063b1499aaead", func := "loop.example/buildscheduler/laws.FnExactDoneBy", spec := "fnExactDoneBy", apart := false }
def FnExactDoneBySaid : Prop := fnExactDoneByRow.holds Try.pinned (OpenSpec.ofChange fnExactDoneBySpec)

/-- ITS FALSE NEIGHBOUR: 'it returns false'. Refute it at one input. -/
def fnExactDoneByWrong : ChangeSpec := { name := "fnExactDoneBy", fn := fun _ => fun
  | [d1, d2, d3] => { results := [.lit (.bool false)], args := [d1, d2, d3] }
  | _ => none }
def FnExactDoneByWrongFalsely : Prop := fnExactDoneByRow.holds Try.pinned (OpenSpec.ofChange fnExactDoneByWrong)

/-- 'laws.FnExactBusyTime': WHATEVER THE INPUT: true; the input reads as it did. -/
def fnExactBusyTimeSpec : ChangeSpec := { name := "fnExactBusyTime", fn := fun _ => fun
  | [d1, d2] => { results := [.lit (.bool true)], args := [d1, d2] }
  | _ => none }
def fnExactBusyTimeRow : OpenClaim := { program := "yteelckhkcfokhaa", sum := "bd0e38955859d2df7377c7961907eef94e92ed62b8caf32e7be063b1499aaead", func := "loop.example/buildscheduler/laws.FnExactBusyTime", spec := "fnExactBusyTime", apart := false }
def FnExactBusyTimeSaid : Prop := fnExactBusyTimeRow.holds Try.pinned (OpenSpec.ofChange fnExactBusyTimeSpec)

/-- ITS FALSE NEIGHBOUR: 'it returns false'. Refute it at one input. -/
def fnExactBusyTimeWrong : ChangeSpec := { name := "fnExactBusyTime", fn := fun _ => fun
  | [d1, d2] => { results := [.lit (.bool false)], args := [d1, d2] }
  | _ => none }
def FnExactBusyTimeWrongFalsely : Prop := fnExactBusyTimeRow.holds Try.pinned (OpenSpec.ofChange fnExactBusyTimeWrong)

/-- 'laws.FnExactMostTogether': WHATEVER THE INPUT: true; the input reads as it did. -/
def fnExactMostTogetherSpec : ChangeSpec := { name := "fnExactMostTogether", fn := fun _ => fun
  | [d1, d2] => { results := [.lit (.bool true)], args := [d1, d2] }
  | _ => none }
def fnExactMostTogetherRow : OpenClaim := { program := "yteelckhkcfokhaa", sum := "bd0e38955859d2df7377c7961907eef94e92ed62b8caf32e7be063b1499aaead", func := "loop.example/buildscheduler/laws.FnExactMostTogether", spec := "fnExactMostTogether", apart := false }
def FnExactMostTogetherSaid : Prop := fnExactMostTogetherRow.holds Try.pinned (OpenSpec.ofChange fnExactMostTogetherSpec)

/-- ITS FALSE NEIGHBOUR: 'it returns false'. Refute it at one input. -/
def fnExactMostTogetherWrong : ChangeSpec := { name := "fnExactMostTogether", fn := fun _ => fun
  | [d1, d2] => { results := [.lit (.bool false)], args := [d1, d2] }
  | _ => none }
def FnExactMostTogetherWrongFalsely : Prop := fnExactMostTogetherRow.holds Try.pinned (OpenSpec.ofChange fnExactMostTogetherWrong)

/- THE SECOND FORM. 'bulk': how many values and letters a reading holds, each counted each time it is reached (what is shared counts as often as it is met; a slice's spare places count too). A statement '..UptoSaid' is the law's where the arguments, and the package variables that the reading takes, are together of bulk at most 1048576: NARROWER than '..Said'. Prove '..Said' where nothing that the law and all that it calls make is longer than what came in: it says more and counts as full. Else prove '..UptoSaid'. A law counts once. -/
mutual
def uptoBulk {H : Type} : DataW H → Nat
  | .lit (.string bytes) => bytes.length + 1
  | .lit _ => 1
  | .nil => 1
  | .ptr d => uptoBulk d + 1
  | .slice elems spare => uptoBulkAll elems + uptoBulkAll spare + 1
  | .agg parts => uptoBulkAll parts + 1
  | .iface _ d => uptoBulk d + 1
  | .map entries => uptoBulkEntries entries + 1
  | .held _ => 1
def uptoBulkAll {H : Type} : List (DataW H) → Nat
  | [] => 0
  | d :: r => uptoBulk d + uptoBulkAll r
def uptoBulkEntries {H : Type} : List (Lit × DataW H) → Nat
  | [] => 0
  | x :: r => uptoBulkEntry x + uptoBulkEntries r
def uptoBulkEntry {H : Type} : Lit × DataW H → Nat
  | (.string bytes, d) => bytes.length + uptoBulk d + 1
  | (_, d) => uptoBulk d + 1
 end
def uptoSmall : (H : Type) → List (DataW H) → Bool := fun _ ds => decide (uptoBulkAll ds ≤ 1048576)
def OpenSpec.upto (s : _root_.Go.ChangeSpec) : _root_.Go.OpenSpec := { _root_.Go.OpenSpec.ofChange s with cond := some uptoSmall }

/-- 'laws.FnExactStagesOf', WHERE WHAT IT READS IS OF BULK AT MOST 1048576: true; the input reads as it did. -/
def fnExactStagesOfUptoRow : OpenClaim := { program := "yteelckhkcfokhaa", sum := "bd0e38955859d2df7377c7961907eef94e92ed62b8caf32e7be063b1499aaead", func := "loop.example/buildscheduler/laws.FnExactStagesOf", spec := "fnExactStagesOf", apart := false, narrowed := true }
def FnExactStagesOfUptoSaid : Prop := fnExactStagesOfUptoRow.holds Try.pinned (OpenSpec.upto fnExactStagesOfSpec)

/-- 'laws.FnExactUselessNeeds', WHERE WHAT IT READS IS OF BULK AT MOST 1048576: true; the input reads as it did. -/
def fnExactUselessNeedsUptoRow : OpenClaim := { program := "yteelckhkcfokhaa", sum := "bd0e38955859d2df7377c7961907eef94e92ed62b8caf32e7be063b1499aaead", func := "loop.example/buildscheduler/laws.FnExactUselessNeeds", spec := "fnExactUselessNeeds", apart := false, narrowed := true }
def FnExactUselessNeedsUptoSaid : Prop := fnExactUselessNeedsUptoRow.holds Try.pinned (OpenSpec.upto fnExactUselessNeedsSpec)

/-- 'laws.FnExactWithoutUseless', WHERE WHAT IT READS IS OF BULK AT MOST 1048576: true; the input reads as it did. -/
def fnExactWithoutUselessUptoRow : OpenClaim := { program := "yteelckhkcfokhaa", sum := "bd0e38955859d2df7377c7961907eef94e92ed62b8caf32e7be063b1499aaead", func := "loop.example/buildscheduler/laws.FnExactWithoutUseless", spec := "fnExactWithoutUseless", apart := false, narrowed := true }
def FnExactWithoutUselessUptoSaid : Prop := fnExactWithoutUselessUptoRow.holds Try.pinned (OpenSpec.upto fnExactWithoutUselessSpec)

/-- 'laws.FnExactFormatGraph', WHERE WHAT IT READS IS OF BULK AT MOST 1048576: true; the input reads as it did. -/
def fnExactFormatGraphUptoRow : OpenClaim := { program := "yteelckhkcfokhaa", sum := "bd0e38955859d2df7377c7961907eef94e92ed62b8caf32e7be063b1499aaead", func := "loop.example/buildscheduler/laws.FnExactFormatGraph", spec := "fnExactFormatGraph", recurses := true, apart := false, narrowed := true }
def FnExactFormatGraphUptoSaid : Prop := fnExactFormatGraphUptoRow.holds Try.pinned (OpenSpec.upto fnExactFormatGraphSpec)

/-- 'laws.FnExactParseGraph', WHERE WHAT IT READS IS OF BULK AT MOST 1048576: true; the input reads as it did. -/
def fnExactParseGraphUptoRow : OpenClaim := { program := "yteelckhkcfokhaa", sum := "bd0e38955859d2df7377c7961907eef94e92ed62b8caf32e7be063b1499aaead", func := "loop.example/buildscheduler/laws.FnExactParseGraph", spec := "fnExactParseGraph", recurses := true, apart := false, narrowed := true }
def FnExactParseGraphUptoSaid : Prop := fnExactParseGraphUptoRow.holds Try.pinned (OpenSpec.upto fnExactParseGraphSpec)

/-- 'laws.FnExactChartLines', WHERE WHAT IT READS IS OF BULK AT MOST 1048576: true; the input reads as it did. -/
def fnExactChartLinesUptoRow : OpenClaim := { program := "yteelckhkcfokhaa", sum := "bd0e38955859d2df7377c7961907eef94e92ed62b8caf32e7be063b1499aaead", func := "loop.example/buildscheduler/laws.FnExactChartLines", spec := "fnExactChartLines", apart := false, narrowed := true }
def FnExactChartLinesUptoSaid : Prop := fnExactChartLinesUptoRow.holds Try.pinned (OpenSpec.upto fnExactChartLinesSpec)

/-- 'laws.FnExactValidLog', WHERE WHAT IT READS IS OF BULK AT MOST 1048576: true; the input reads as it did. -/
def fnExactValidLogUptoRow : OpenClaim := { program := "yteelckhkcfokhaa", sum := "bd0e38955859d2df7377c7961907eef94e92ed62b8caf32e7be063b1499aaead", func := "loop.example/buildscheduler/laws.FnExactValidLog", spec := "fnExactValidLog", apart := false, narrowed := true }
def FnExactValidLogUptoSaid : Prop := fnExactValidLogUptoRow.holds Try.pinned (OpenSpec.upto fnExactValidLogSpec)

/-- 'laws.FnExactLogOf', WHERE WHAT IT READS IS OF BULK AT MOST 1048576: true; the input reads as it did. -/
def fnExactLogOfUptoRow : OpenClaim := { program := "yteelckhkcfokhaa", sum := "bd0e38955859d2df7377c7961907eef94e92ed62b8caf32e7be063b1499aaead", func := "loop.example/buildscheduler/laws.FnExactLogOf", spec := "fnExactLogOf", apart := false, narrowed := true }
def FnExactLogOfUptoSaid : Prop := fnExactLogOfUptoRow.holds Try.pinned (OpenSpec.upto fnExactLogOfSpec)

/-- 'laws.FnExactDoneBy', WHERE WHAT IT READS IS OF BULK AT MOST 1048576: true; the input reads as it did. -/
def fnExactDoneByUptoRow : OpenClaim := { program := "yteelckhkcfokhaa", sum := "bd0e38955859d2df7377c7961907eef94e92ed62b8caf32e7be063b1499aaead", func := "loop.example/buildscheduler/laws.FnExactDoneBy", spec := "fnExactDoneBy", apart := false, narrowed := true }
def FnExactDoneByUptoSaid : Prop := fnExactDoneByUptoRow.holds Try.pinned (OpenSpec.upto fnExactDoneBySpec)

/-- 'laws.FnExactBusyTime', WHERE WHAT IT READS IS OF BULK AT MOST 1048576: true; the input reads as it did. -/
def fnExactBusyTimeUptoRow : OpenClaim := { program := "yteelckhkcfokhaa", sum := "bd0e38955859d2df7377c7961907eef94e92ed62b8caf32e7be063b1499aaead", func := "loop.example/buildscheduler/laws.FnExactBusyTime", spec := "fnExactBusyTime", apart := false, narrowed := true }
def FnExactBusyTimeUptoSaid : Prop := fnExactBusyTimeUptoRow.holds Try.pinned (OpenSpec.upto fnExactBusyTimeSpec)

/-- 'laws.FnExactMostTogether', WHERE WHAT IT READS IS OF BULK AT MOST 1048576: true; the input reads as it did. -/
def fnExactMostTogetherUptoRow : OpenClaim := { program := "yteelckhkcfokhaa", sum := "bd0e38955859d2df7377c7961907eef94e92ed62b8caf32e7be063b1499aaead", func := "loop.example/buildscheduler/laws.FnExactMostTogether", spec := "fnExactMostTogether", apart := false, narrowed := true }
def FnExactMostTogetherUptoSaid : Prop := fnExactMostTogetherUptoRow.holds Try.pinned (OpenSpec.upto fnExactMostTogetherSpec)

end Rows
end Go.Proofs.Yteelckhkcfokhaa
