/-
  No cell of these rows narrows 'for every input' (looked for: loops, veiled, ifaces, maps, wideKeys, modest, calm, conditions, laid).
  DERIVED. THE GIVEN ROWS OF THIS SEAT. 9 by the template 'for every input the law returns true; each argument reads behind the call as it read before'; 0 by the template 'total and deterministic' (their statements: YtfholjgndpefdaaTotals.lean).
  GIVEN WITH THE SEED: the statements are not yours to turn. If you find one false, say at which input.
  Laid BY PROGRAM, IN A SANDBOX (cutbox-rows.mjs): the forced cells as the released guide's own fill.sh prints them over the translation 647b88710d99f0ab… (all of the seat's roots in one cut). By AI agents, Wed Nov 11 2026. No macro, syntax, notation, axiom, sorry.
-/
import Derived.Test.YtfholjgndpefdaaChecked
import GoSem.Claim
import GoSem.ClaimJoined
import GoSem.ClaimMapViews
import Derived.JoinedTies
import Derived.KernelRfl
namespace Go.Proofs.Ytfholjgndpefdaa
/- THE CELL 'sum', in the pinned program and in every row, IS THE sha256 OF THE DUMP (.gsa) THAT YtfholjgndpefdaaProg.lean LOADS. Nothing in Lean hashes anything: it is a label: what it is worth is what the hold of that sum in a sandbox is worth. -/
noncomputable def Try.pinned : Pinned := { name := "ytfholjgndpefdaa", sum := "647b88710d99f0aba3b2583055c75726f7f857fc86c7c1766a7a4b3a0b131d11", checked := Try.checked }
namespace Rows
def none {H : Type} : Left H := { results := [], args := [] }

/-- 'laws.FnExactStageOf': WHATEVER THE INPUT: true; the input reads as it did. -/
def fnExactStageOfSpec : ChangeSpec := { name := "fnExactStageOf", fn := fun _ => fun
  | [d] => { results := [.lit (.bool true)], args := [d] }
  | _ => none }
def fnExactStageOfRow : OpenClaim := { program := "ytfholjgndpefdaa", sum := "647b88710d99f0aba3b2583055c75726f7f857fc86c7c1766a7a4b3a0b131d11", func := "loop.example/buildscheduler/laws.FnExactStageOf", spec := "fnExactStageOf", apart := false }
def FnExactStageOfSaid : Prop := fnExactStageOfRow.holds Try.pinned (OpenSpec.ofChange fnExactStageOfSpec)

/-- ITS FALSE NEIGHBOUR: 'it returns false'. Refute it at one input. -/
def fnExactStageOfWrong : ChangeSpec := { name := "fnExactStageOf", fn := fun _ => fun
  | [d] => { results := [.lit (.bool false)], args := [d] }
  | _ => none }
def FnExactStageOfWrongFalsely : Prop := fnExactStageOfRow.holds Try.pinned (OpenSpec.ofChange fnExactStageOfWrong)

/-- 'laws.FnExactStagesOf': WHATEVER THE INPUT: true; the input reads as it did. -/
def fnExactStagesOfSpec : ChangeSpec := { name := "fnExactStagesOf", fn := fun _ => fun
  | [d] => { results := [.lit (.bool true)], args := [d] }
  | _ => none }
def fnExactStagesOfRow : OpenClaim := { program := "ytfholjgndpefdaa", sum := "647b88710d99f0aba3b2583055c75726f7f857fc86c7c1766a7a4b3a0b131d11", func := "loop.example/buildscheduler/laws.FnExactStagesOf", spec := "fnExactStagesOf", apart := false }
def FnExactStagesOfSaid : Prop := fnExactStagesOfRow.holds Try.pinned (OpenSpec.ofChange fnExactStagesOfSpec)

/-- ITS FALSE NEIGHBOUR: 'it returns false'. Refute it at one input. -/
def fnExactStagesOfWrong : ChangeSpec := { name := "fnExactStagesOf", fn := fun _ => fun
  | [d] => { results := [.lit (.bool false)], args := [d] }
  | _ => none }
def FnExactStagesOfWrongFalsely : Prop := fnExactStagesOfRow.holds Try.pinned (OpenSpec.ofChange fnExactStagesOfWrong)

/-- 'laws.FnExactUselessNeeds': WHATEVER THE INPUT: true; the input reads as it did. -/
def fnExactUselessNeedsSpec : ChangeSpec := { name := "fnExactUselessNeeds", fn := fun _ => fun
  | [d] => { results := [.lit (.bool true)], args := [d] }
  | _ => none }
def fnExactUselessNeedsRow : OpenClaim := { program := "ytfholjgndpefdaa", sum := "647b88710d99f0aba3b2583055c75726f7f857fc86c7c1766a7a4b3a0b131d11", func := "loop.example/buildscheduler/laws.FnExactUselessNeeds", spec := "fnExactUselessNeeds", apart := false }
def FnExactUselessNeedsSaid : Prop := fnExactUselessNeedsRow.holds Try.pinned (OpenSpec.ofChange fnExactUselessNeedsSpec)

/-- ITS FALSE NEIGHBOUR: 'it returns false'. Refute it at one input. -/
def fnExactUselessNeedsWrong : ChangeSpec := { name := "fnExactUselessNeeds", fn := fun _ => fun
  | [d] => { results := [.lit (.bool false)], args := [d] }
  | _ => none }
def FnExactUselessNeedsWrongFalsely : Prop := fnExactUselessNeedsRow.holds Try.pinned (OpenSpec.ofChange fnExactUselessNeedsWrong)

/-- 'laws.FnExactWithoutUseless': WHATEVER THE INPUT: true; the input reads as it did. -/
def fnExactWithoutUselessSpec : ChangeSpec := { name := "fnExactWithoutUseless", fn := fun _ => fun
  | [d] => { results := [.lit (.bool true)], args := [d] }
  | _ => none }
def fnExactWithoutUselessRow : OpenClaim := { program := "ytfholjgndpefdaa", sum := "647b88710d99f0aba3b2583055c75726f7f857fc86c7c1766a7a4b3a0b131d11", func := "loop.example/buildscheduler/laws.FnExactWithoutUseless", spec := "fnExactWithoutUseless", apart := false }
def FnExactWithoutUselessSaid : Prop := fnExactWithoutUselessRow.holds Try.pinned (OpenSpec.ofChange fnExactWithoutUselessSpec)

/-- ITS FALSE NEIGHBOUR: 'it returns false'. Refute it at one input. -/
def fnExactWithoutUselessWrong : ChangeSpec := { name := "fnExactWithoutUseless", fn := fun _ => fun
  | [d] => { results := [.lit (.bool false)], args := [d] }
  | _ => none }
def FnExactWithoutUselessWrongFalsely : Prop := fnExactWithoutUselessRow.holds Try.pinned (OpenSpec.ofChange fnExactWithoutUselessWrong)

/-- 'laws.FnExactLatestStarts': WHATEVER THE INPUT: true; the input reads as it did. -/
def fnExactLatestStartsSpec : ChangeSpec := { name := "fnExactLatestStarts", fn := fun _ => fun
  | [d1, d2] => { results := [.lit (.bool true)], args := [d1, d2] }
  | _ => none }
def fnExactLatestStartsRow : OpenClaim := { program := "ytfholjgndpefdaa", sum := "647b88710d99f0aba3b2583055c75726f7f857fc86c7c1766a7a4b3a0b131d11", func := "loop.example/buildscheduler/laws.FnExactLatestStarts", spec := "fnExactLatestStarts", apart := false }
def FnExactLatestStartsSaid : Prop := fnExactLatestStartsRow.holds Try.pinned (OpenSpec.ofChange fnExactLatestStartsSpec)

/-- ITS FALSE NEIGHBOUR: 'it returns false'. Refute it at one input. -/
def fnExactLatestStartsWrong : ChangeSpec := { name := "fnExactLatestStarts", fn := fun _ => fun
  | [d1, d2] => { results := [.lit (.bool false)], args := [d1, d2] }
  | _ => none }
def FnExactLatestStartsWrongFalsely : Prop := fnExactLatestStartsRow.holds Try.pinned (OpenSpec.ofChange fnExactLatestStartsWrong)

/-- 'laws.FnExactLateTasks': WHATEVER THE INPUT: true; the input reads as it did. -/
def fnExactLateTasksSpec : ChangeSpec := { name := "fnExactLateTasks", fn := fun _ => fun
  | [d1, d2, d3, d4, d5] => { results := [.lit (.bool true)], args := [d1, d2, d3, d4, d5] }
  | _ => none }
def fnExactLateTasksRow : OpenClaim := { program := "ytfholjgndpefdaa", sum := "647b88710d99f0aba3b2583055c75726f7f857fc86c7c1766a7a4b3a0b131d11", func := "loop.example/buildscheduler/laws.FnExactLateTasks", spec := "fnExactLateTasks", apart := false }
def FnExactLateTasksSaid : Prop := fnExactLateTasksRow.holds Try.pinned (OpenSpec.ofChange fnExactLateTasksSpec)

/-- ITS FALSE NEIGHBOUR: 'it returns false'. Refute it at one input. -/
def fnExactLateTasksWrong : ChangeSpec := { name := "fnExactLateTasks", fn := fun _ => fun
  | [d1, d2, d3, d4, d5] => { results := [.lit (.bool false)], args := [d1, d2, d3, d4, d5] }
  | _ => none }
def FnExactLateTasksWrongFalsely : Prop := fnExactLateTasksRow.holds Try.pinned (OpenSpec.ofChange fnExactLateTasksWrong)

/-- 'laws.FnExactMeetsDeadline': WHATEVER THE INPUT: true; the input reads as it did. -/
def fnExactMeetsDeadlineSpec : ChangeSpec := { name := "fnExactMeetsDeadline", fn := fun _ => fun
  | [d1, d2, d3, d4, d5] => { results := [.lit (.bool true)], args := [d1, d2, d3, d4, d5] }
  | _ => none }
def fnExactMeetsDeadlineRow : OpenClaim := { program := "ytfholjgndpefdaa", sum := "647b88710d99f0aba3b2583055c75726f7f857fc86c7c1766a7a4b3a0b131d11", func := "loop.example/buildscheduler/laws.FnExactMeetsDeadline", spec := "fnExactMeetsDeadline", apart := false }
def FnExactMeetsDeadlineSaid : Prop := fnExactMeetsDeadlineRow.holds Try.pinned (OpenSpec.ofChange fnExactMeetsDeadlineSpec)

/-- ITS FALSE NEIGHBOUR: 'it returns false'. Refute it at one input. -/
def fnExactMeetsDeadlineWrong : ChangeSpec := { name := "fnExactMeetsDeadline", fn := fun _ => fun
  | [d1, d2, d3, d4, d5] => { results := [.lit (.bool false)], args := [d1, d2, d3, d4, d5] }
  | _ => none }
def FnExactMeetsDeadlineWrongFalsely : Prop := fnExactMeetsDeadlineRow.holds Try.pinned (OpenSpec.ofChange fnExactMeetsDeadlineWrong)

/-- 'laws.FnExactWorkersFor': WHATEVER THE INPUT: true; the input reads as it did. -/
def fnExactWorkersForSpec : ChangeSpec := { name := "fnExactWorkersFor", fn := fun _ => fun
  | [d1, d2, d3] => { results := [.lit (.bool true)], args := [d1, d2, d3] }
  | _ => none }
def fnExactWorkersForRow : OpenClaim := { program := "ytfholjgndpefdaa", sum := "647b88710d99f0aba3b2583055c75726f7f857fc86c7c1766a7a4b3a0b131d11", func := "loop.example/buildscheduler/laws.FnExactWorkersFor", spec := "fnExactWorkersFor", apart := false }
def FnExactWorkersForSaid : Prop := fnExactWorkersForRow.holds Try.pinned (OpenSpec.ofChange fnExactWorkersForSpec)

/-- ITS FALSE NEIGHBOUR: 'it returns false'. Refute it at one input. -/
def fnExactWorkersForWrong : ChangeSpec := { name := "fnExactWorkersFor", fn := fun _ => fun
  | [d1, d2, d3] => { results := [.lit (.bool false)], args := [d1, d2, d3] }
  | _ => none }
def FnExactWorkersForWrongFalsely : Prop := fnExactWorkersForRow.holds Try.pinned (OpenSpec.ofChange fnExactWorkersForWrong)

/-- 'laws.FnExactPlanStarts': WHATEVER THE INPUT: true; the input reads as it did. -/
def fnExactPlanStartsSpec : ChangeSpec := { name := "fnExactPlanStarts", fn := fun _ => fun
  | [d1, d2, d3] => { results := [.lit (.bool true)], args := [d1, d2, d3] }
  | _ => none }
def fnExactPlanStartsRow : OpenClaim := { program := "ytfholjgndpefdaa", sum := "647b88710d99f0aba3b2583055c75726f7f857fc86c7c1766a7a4b3a0b131d11", func := "loop.example/buildscheduler/laws.FnExactPlanStarts", spec := "fnExactPlanStarts", apart := false }
def FnExactPlanStartsSaid : Prop := fnExactPlanStartsRow.holds Try.pinned (OpenSpec.ofChange fnExactPlanStartsSpec)

/-- ITS FALSE NEIGHBOUR: 'it returns false'. Refute it at one input. -/
def fnExactPlanStartsWrong : ChangeSpec := { name := "fnExactPlanStarts", fn := fun _ => fun
  | [d1, d2, d3] => { results := [.lit (.bool false)], args := [d1, d2, d3] }
  | _ => none }
def FnExactPlanStartsWrongFalsely : Prop := fnExactPlanStartsRow.holds Try.pinned (OpenSpec.ofChange fnExactPlanStartsWrong)

/- THE SECOND FORM. 'bulk': how many values and letters a reading holds, each counted each time it is reached (what is shared counts as often as it is met; a slice's spare places count too). A statement '..UptoSaid' is the law's where the arguments, and the package variables that the reading takes, are together of bulk at most 1048576: NARROWER than '..Said'. Prove '..Said' where nothing that the law and all that it calls make is longer than what came in: it says more and counts as full. Else prove '..UptoSaid'. A law counts once. -/
mutual
def uptoBulk {H : Type} : DataW H → Nat
  | .lit (.string bytes) => bytes.length + 1
  | .lit _ => 1
  | .nil => 1
  | .ptr d => uptoBulk d + 1
  | .slice elems spare => uptoBulkAll elems + uptoBulkAll spare + 1
  | .agg parts => uptoBulkAll parts + 1
  | .iface _ d => uptoBulk d + 1
  | .map entries => uptoBulkEntries entries + 1
  | .held _ => 1
def uptoBulkAll {H : Type} : List (DataW H) → Nat
  | [] => 0
  | d :: r => uptoBulk d + uptoBulkAll r
def uptoBulkEntries {H : Type} : List (Lit × DataW H) → Nat
  | [] => 0
  | x :: r => uptoBulkEntry x + uptoBulkEntries r
def uptoBulkEntry {H : Type} : Lit × DataW H → Nat
  | (.string bytes, d) => bytes.length + uptoBulk d + 1
  | (_, d) => uptoBulk d + 1
 end
def uptoSmall : (H : Type) → List (DataW H) → Bool := fun _ ds => decide (uptoBulkAll ds ≤ 1048576)
def OpenSpec.upto (s : _root_.Go.ChangeSpec) : _root_.Go.OpenSpec := { _root_.Go.OpenSpec.ofChange s with cond := some uptoSmall }

/-- 'laws.FnExactStageOf', WHERE WHAT IT READS IS OF BULK AT MOST 1048576: true; the input reads as it did. -/
def fnExactStageOfUptoRow : OpenClaim := { program := "ytfholjgndpefdaa", sum := "647b88710d99f0aba3b2583055c75726f7f857fc86c7c1766a7a4b3a0b131d11", func := "loop.example/buildscheduler/laws.FnExactStageOf", spec := "fnExactStageOf", apart := false, narrowed := true }
def FnExactStageOfUptoSaid : Prop := fnExactStageOfUptoRow.holds Try.pinned (OpenSpec.upto fnExactStageOfSpec)

/-- 'laws.FnExactStagesOf', WHERE WHAT IT READS IS OF BULK AT MOST 1048576: true; the input reads as it did. -/
def fnExactStagesOfUptoRow : OpenClaim := { program := "ytfholjgndpefdaa", sum := "647b88710d99f0aba3b2583055c75726f7f857fc86c7c1766a7a4b3a0b131d11", func := "loop.example/buildscheduler/laws.FnExactStagesOf", spec := "fnExactStagesOf", apart := false, narrowed := true }
def FnExactStagesOfUptoSaid : Prop := fnExactStagesOfUptoRow.holds Try.pinned (OpenSpec.upto fnExactStagesOfSpec)

/-- 'laws.FnExactUselessNeeds', WHERE WHAT IT READS IS OF BULK AT MOST 1048576: true; the input reads as it did. -/
def fnExactUselessNeedsUptoRow : OpenClaim := { program := "ytfholjgndpefdaa", sum := "647b88710d99f0aba3b2583055c75726f7f857fc86c7c1766a7a4b3a0b131d11", func := "loop.example/buildscheduler/laws.FnExactUselessNeeds", spec := "fnExactUselessNeeds", apart := false, narrowed := true }
def FnExactUselessNeedsUptoSaid : Prop := fnExactUselessNeedsUptoRow.holds Try.pinned (OpenSpec.upto fnExactUselessNeedsSpec)

/-- 'laws.FnExactWithoutUseless', WHERE WHAT IT READS IS OF BULK AT MOST 1048576: true; the input reads as it did. -/
def fnExactWithoutUselessUptoRow : OpenClaim := { program := "ytfholjgndpefdaa", sum := "647b88710d99f0aba3b2583055c75726f7f857fc86c7c1766a7a4b3a0b131d11", func := "loop.example/buildscheduler/laws.FnExactWithoutUseless", spec := "fnExactWithoutUseless", apart := false, narrowed := true }
def FnExactWithoutUselessUptoSaid : Prop := fnExactWithoutUselessUptoRow.holds Try.pinned (OpenSpec.upto fnExactWithoutUselessSpec)

/-- 'laws.FnExactLatestStarts', WHERE WHAT IT READS IS OF BULK AT MOST 1048576: true; the input reads as it did. -/
def fnExactLatestStartsUptoRow : OpenClaim := { program := "ytfholjgndpefdaa", sum := "647b88710d99f0aba3b2583055c75726f7f857fc86c7c1766a7a4b3a0b131d11", func := "loop.example/buildscheduler/laws.FnExactLatestStarts", spec := "fnExactLatestStarts", apart := false, narrowed := true }
def FnExactLatestStartsUptoSaid : Prop := fnExactLatestStartsUptoRow.holds Try.pinned (OpenSpec.upto fnExactLatestStartsSpec)

/-- 'laws.FnExactLateTasks', WHERE WHAT IT READS IS OF BULK AT MOST 1048576: true; the input reads as it did. -/
def fnExactLateTasksUptoRow : OpenClaim := { program := "ytfholjgndpefdaa", sum := "647b88710d99f0aba3b2583055c75726f7f857fc86c7c1766a7a4b3a0b131d11", func := "loop.example/buildscheduler/laws.FnExactLateTasks", spec := "fnExactLateTasks", apart := false, narrowed := true }
def FnExactLateTasksUptoSaid : Prop := fnExactLateTasksUptoRow.holds Try.pinned (OpenSpec.upto fnExactLateTasksSpec)

/-- 'laws.FnExactMeetsDeadline', WHERE WHAT IT READS IS OF BULK AT MOST 1048576: true; the input reads as it did. -/
def fnExactMeetsDeadlineUptoRow : OpenClaim := { program := "ytfholjgndpefdaa", sum := "647b88710d99f0aba3b2583055c75726f7f857fc86c7c1766a7a4b3a0b131d11", func := "loop.example/buildscheduler/laws.FnExactMeetsDeadline", spec := "fnExactMeetsDeadline", apart := false, narrowed := true }
def FnExactMeetsDeadlineUptoSaid : Prop := fnExactMeetsDeadlineUptoRow.holds Try.pinned (OpenSpec.upto fnExactMeetsDeadlineSpec)

/-- 'laws.FnExactWorkersFor', WHERE WHAT IT READS IS OF BULK AT MOST 1048576: true; the input reads as it did. -/
def fnExactWorkersForUptoRow : OpenClaim := { program := "ytfholjgndpefdaa", sum := "647b88710d99f0aba3b2583055c75726f7f857fc86c7c1766a7a4b3a0b131d11", func := "loop.example/buildscheduler/laws.FnExactWorkersFor", spec := "fnExactWorkersFor", apart := false, narrowed := true }
def FnExactWorkersForUptoSaid : Prop := fnExactWorkersForUptoRow.holds Try.pinned (OpenSpec.upto fnExactWorkersForSpec)

/-- 'laws.FnExactPlanStarts', WHERE WHAT IT READS IS OF BULK AT MOST 1048576: true; the input reads as it did. -/
def fnExactPlanStartsUptoRow : OpenClaim := { program := "ytfholjgndpefdaa", sum := "647b88710d99f0aba3b2583055c75726f7f857fc86c7c1766a7a4b3a0b131d11", func := "loop.example/buildscheduler/laws.FnExactPlanStarts", spec := "fnExactPlanStarts", apart := false, narrowed := true }
def FnExactPlanStartsUptoSaid : Prop := fnExactPlanStartsUptoRow.holds Try.pinned (OpenSpec.upto fnExactPlanStartsSpec)

end Rows
end Go.Proofs.Ytfholjgndpefdaa
