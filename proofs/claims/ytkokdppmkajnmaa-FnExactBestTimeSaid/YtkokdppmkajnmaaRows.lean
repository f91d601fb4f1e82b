/-
  No cell of these rows narrows 'for every input' (looked for: loops, veiled, ifaces, maps, wideKeys, modest, calm, conditions, laid).
  DERIVED. THE GIVEN ROWS OF THIS SEAT. 11 by the template 'for every input the law returns true; each argument reads behind the call as it read before'; 0 by the template 'total and deterministic' (their statements: YtkokdppmkajnmaaTotals.lean).
  GIVEN WITH THE SEED: the statements are not yours to turn. If you find one false, say at which input.
  Laid BY PROGRAM, IN A SANDBOX (cutbox-rows.mjs): the forced cells as the released guide's own fill.sh prints them over the translation 2095d995a12814d8… (all of the seat's roots in one cut). By AI agents, Wed Nov 11 2026. No macro, syntax, notation, axiom, sorry.
-/
import Derived.Test.YtkokdppmkajnmaaChecked
import GoSem.Claim
import GoSem.ClaimJoined
import GoSem.ClaimMapViews
import Derived.JoinedTies
import Derived.KernelRfl
namespace Go.Proofs.Ytkokdppmkajnmaa
/- THE CELL 'sum', in the pinned program and in every row, IS THE sha256 OF THE DUMP (.gsa) THAT YtkokdppmkajnmaaProg.lean LOADS. Nothing in Lean hashes anything: it is a label: what it is worth is what the hold of that sum in a sandbox is worth. -/
noncomputable def Try.pinned : Pinned := { name := "ytkokdppmkajnmaa", sum := "2095d995a12814d8f39c7551fb557bdc5e315f0fb1e6a177fce43f3e53ed7473", checked := Try.checked }
namespace Rows
def none {H : Type} : Left H := { results := [], args := [] }

/-- 'laws.FnExactPlanStarts': WHATEVER THE INPUT: true; the input reads as it did. -/
def fnExactPlanStartsSpec : ChangeSpec := { name := "fnExactPlanStarts", fn := fun _ => fun
  | [d1, d2, d3] => { results := [.lit (.bool true)], args := [d1, d2, d3] }
  | _ => none }
def fnExactPlanStartsRow : OpenClaim := { program := "ytkokdppmkajnmaa", sum := "2095d995a12814d8f39c7551fb557bdc5e315f0fb1e6a177fce43f3e53ed7473", func := "loop.example/buildscheduler/laws.FnExactPlanStarts", spec := "fnExactPlanStarts", apart := false }
def FnExactPlanStartsSaid : Prop := fnExactPlanStartsRow.holds Try.pinned (OpenSpec.ofChange fnExactPlanStartsSpec)

/-- ITS FALSE NEIGHBOUR: 'it returns false'. Refute it at one input. -/
def fnExactPlanStartsWrong : ChangeSpec := { name := "fnExactPlanStarts", fn := fun _ => fun
  | [d1, d2, d3] => { results := [.lit (.bool false)], args := [d1, d2, d3] }
  | _ => none }
def FnExactPlanStartsWrongFalsely : Prop := fnExactPlanStartsRow.holds Try.pinned (OpenSpec.ofChange fnExactPlanStartsWrong)

/-- 'laws.FnExactBestOrder': WHATEVER THE INPUT: true; the input reads as it did. -/
def fnExactBestOrderSpec : ChangeSpec := { name := "fnExactBestOrder", fn := fun _ => fun
  | [d1, d2, d3] => { results := [.lit (.bool true)], args := [d1, d2, d3] }
  | _ => none }
def fnExactBestOrderRow : OpenClaim := { program := "ytkokdppmkajnmaa", sum := "2095d995a12814d8f39c7551fb557bdc5e315f0fb1e6a177fce43f3e53ed7473", func := "loop.example/buildscheduler/laws.FnExactBestOrder", spec := "fnExactBestOrder", recurses := true, apart := false }
def FnExactBestOrderSaid : Prop := fnExactBestOrderRow.holds Try.pinned (OpenSpec.ofChange fnExactBestOrderSpec)

/-- ITS FALSE NEIGHBOUR: 'it returns false'. Refute it at one input. -/
def fnExactBestOrderWrong : ChangeSpec := { name := "fnExactBestOrder", fn := fun _ => fun
  | [d1, d2, d3] => { results := [.lit (.bool false)], args := [d1, d2, d3] }
  | _ => none }
def FnExactBestOrderWrongFalsely : Prop := fnExactBestOrderRow.holds Try.pinned (OpenSpec.ofChange fnExactBestOrderWrong)

/-- 'laws.FnExactBestTime': WHATEVER THE INPUT: true; the input reads as it did. -/
def fnExactBestTimeSpec : ChangeSpec := { name := "fnExactBestTime", fn := fun _ => fun
  | [d1, d2, d3] => { results := [.lit (.bool true)], args := [d1, d2, d3] }
  | _ => none }
def fnExactBestTimeRow : OpenClaim := { program := "ytkokdppmkajnmaa", sum := "2095d995a12814d8f39c7551fb557bdc5e315f0fb1e6a177fce43f3e53ed7473", func := "loop.example/buildscheduler/laws.FnExactBestTime", spec := "fnExactBestTime", recurses := true, apart := false }
def FnExactBestTimeSaid : Prop := fnExactBestTimeRow.holds Try.pinned (OpenSpec.ofChange fnExactBestTimeSpec)

/-- ITS FALSE NEIGHBOUR: 'it returns false'. Refute it at one input. -/
def fnExactBestTimeWrong : ChangeSpec := { name := "fnExactBestTime", fn := fun _ => fun
  | [d1, d2, d3] => { results := [.lit (.bool false)], args := [d1, d2, d3] }
  | _ => none }
def FnExactBestTimeWrongFalsely : Prop := fnExactBestTimeRow.holds Try.pinned (OpenSpec.ofChange fnExactBestTimeWrong)

/-- 'laws.FnExactDelayOf': WHATEVER THE INPUT: true; the input reads as it did. -/
def fnExactDelayOfSpec : ChangeSpec := { name := "fnExactDelayOf", fn := fun _ => fun
  | [d] => { results := [.lit (.bool true)], args := [d] }
  | _ => none }
def fnExactDelayOfRow : OpenClaim := { program := "ytkokdppmkajnmaa", sum := "2095d995a12814d8f39c7551fb557bdc5e315f0fb1e6a177fce43f3e53ed7473", func := "loop.example/buildscheduler/laws.FnExactDelayOf", spec := "fnExactDelayOf", apart := false }
def FnExactDelayOfSaid : Prop := fnExactDelayOfRow.holds Try.pinned (OpenSpec.ofChange fnExactDelayOfSpec)

/-- ITS FALSE NEIGHBOUR: 'it returns false'. Refute it at one input. -/
def fnExactDelayOfWrong : ChangeSpec := { name := "fnExactDelayOf", fn := fun _ => fun
  | [d] => { results := [.lit (.bool false)], args := [d] }
  | _ => none }
def FnExactDelayOfWrongFalsely : Prop := fnExactDelayOfRow.holds Try.pinned (OpenSpec.ofChange fnExactDelayOfWrong)

/-- 'laws.FnExactTryTask': WHATEVER THE INPUT: true; the input reads as it did. -/
def fnExactTryTaskSpec : ChangeSpec := { name := "fnExactTryTask", fn := fun _ => fun
  | [d1, d2] => { results := [.lit (.bool true)], args := [d1, d2] }
  | _ => none }
def fnExactTryTaskRow : OpenClaim := { program := "ytkokdppmkajnmaa", sum := "2095d995a12814d8f39c7551fb557bdc5e315f0fb1e6a177fce43f3e53ed7473", func := "loop.example/buildscheduler/laws.FnExactTryTask", spec := "fnExactTryTask", apart := false }
def FnExactTryTaskSaid : Prop := fnExactTryTaskRow.holds Try.pinned (OpenSpec.ofChange fnExactTryTaskSpec)

/-- ITS FALSE NEIGHBOUR: 'it returns false'. Refute it at one input. -/
def fnExactTryTaskWrong : ChangeSpec := { name := "fnExactTryTask", fn := fun _ => fun
  | [d1, d2] => { results := [.lit (.bool false)], args := [d1, d2] }
  | _ => none }
def FnExactTryTaskWrongFalsely : Prop := fnExactTryTaskRow.holds Try.pinned (OpenSpec.ofChange fnExactTryTaskWrong)

/-- 'laws.FnExactTryTime': WHATEVER THE INPUT: true; the input reads as it did. -/
def fnExactTryTimeSpec : ChangeSpec := { name := "fnExactTryTime", fn := fun _ => fun
  | [d1, d2, d3] => { results := [.lit (.bool true)], args := [d1, d2, d3] }
  | _ => none }
def fnExactTryTimeRow : OpenClaim := { program := "ytkokdppmkajnmaa", sum := "2095d995a12814d8f39c7551fb557bdc5e315f0fb1e6a177fce43f3e53ed7473", func := "loop.example/buildscheduler/laws.FnExactTryTime", spec := "fnExactTryTime", apart := false }
def FnExactTryTimeSaid : Prop := fnExactTryTimeRow.holds Try.pinned (OpenSpec.ofChange fnExactTryTimeSpec)

/-- ITS FALSE NEIGHBOUR: 'it returns false'. Refute it at one input. -/
def fnExactTryTimeWrong : ChangeSpec := { name := "fnExactTryTime", fn := fun _ => fun
  | [d1, d2, d3] => { results := [.lit (.bool false)], args := [d1, d2, d3] }
  | _ => none }
def FnExactTryTimeWrongFalsely : Prop := fnExactTryTimeRow.holds Try.pinned (OpenSpec.ofChange fnExactTryTimeWrong)

/-- 'laws.FnExactIsFlaky': WHATEVER THE INPUT: true; the input reads as it did. -/
def fnExactIsFlakySpec : ChangeSpec := { name := "fnExactIsFlaky", fn := fun _ => fun
  | [d1, d2] => { results := [.lit (.bool true)], args := [d1, d2] }
  | _ => none }
def fnExactIsFlakyRow : OpenClaim := { program := "ytkokdppmkajnmaa", sum := "2095d995a12814d8f39c7551fb557bdc5e315f0fb1e6a177fce43f3e53ed7473", func := "loop.example/buildscheduler/laws.FnExactIsFlaky", spec := "fnExactIsFlaky", apart := false }
def FnExactIsFlakySaid : Prop := fnExactIsFlakyRow.holds Try.pinned (OpenSpec.ofChange fnExactIsFlakySpec)

/-- ITS FALSE NEIGHBOUR: 'it returns false'. Refute it at one input. -/
def fnExactIsFlakyWrong : ChangeSpec := { name := "fnExactIsFlaky", fn := fun _ => fun
  | [d1, d2] => { results := [.lit (.bool false)], args := [d1, d2] }
  | _ => none }
def FnExactIsFlakyWrongFalsely : Prop := fnExactIsFlakyRow.holds Try.pinned (OpenSpec.ofChange fnExactIsFlakyWrong)

/-- 'laws.FnExactOutcomes': WHATEVER THE INPUT: true; the input reads as it did. -/
def fnExactOutcomesSpec : ChangeSpec := { name := "fnExactOutcomes", fn := fun _ => fun
  | [d1, d2, d3] => { results := [.lit (.bool true)], args := [d1, d2, d3] }
  | _ => none }
def fnExactOutcomesRow : OpenClaim := { program := "ytkokdppmkajnmaa", sum := "2095d995a12814d8f39c7551fb557bdc5e315f0fb1e6a177fce43f3e53ed7473", func := "loop.example/buildscheduler/laws.FnExactOutcomes", spec := "fnExactOutcomes", apart := false }
def FnExactOutcomesSaid : Prop := fnExactOutcomesRow.holds Try.pinned (OpenSpec.ofChange fnExactOutcomesSpec)

/-- ITS FALSE NEIGHBOUR: 'it returns false'. Refute it at one input. -/
def fnExactOutcomesWrong : ChangeSpec := { name := "fnExactOutcomes", fn := fun _ => fun
  | [d1, d2, d3] => { results := [.lit (.bool false)], args := [d1, d2, d3] }
  | _ => none }
def FnExactOutcomesWrongFalsely : Prop := fnExactOutcomesRow.holds Try.pinned (OpenSpec.ofChange fnExactOutcomesWrong)

/-- 'laws.FnExactCountOutcome': WHATEVER THE INPUT: true; the input reads as it did. -/
def fnExactCountOutcomeSpec : ChangeSpec := { name := "fnExactCountOutcome", fn := fun _ => fun
  | [d1, d2, d3, d4] => { results := [.lit (.bool true)], args := [d1, d2, d3, d4] }
  | _ => none }
def fnExactCountOutcomeRow : OpenClaim := { program := "ytkokdppmkajnmaa", sum := "2095d995a12814d8f39c7551fb557bdc5e315f0fb1e6a177fce43f3e53ed7473", func := "loop.example/buildscheduler/laws.FnExactCountOutcome", spec := "fnExactCountOutcome", apart := false }
def FnExactCountOutcomeSaid : Prop := fnExactCountOutcomeRow.holds Try.pinned (OpenSpec.ofChange fnExactCountOutcomeSpec)

/-- ITS FALSE NEIGHBOUR: 'it returns false'. Refute it at one input. -/
def fnExactCountOutcomeWrong : ChangeSpec := { name := "fnExactCountOutcome", fn := fun _ => fun
  | [d1, d2, d3, d4] => { results := [.lit (.bool false)], args := [d1, d2, d3, d4] }
  | _ => none }
def FnExactCountOutcomeWrongFalsely : Prop := fnExactCountOutcomeRow.holds Try.pinned (OpenSpec.ofChange fnExactCountOutcomeWrong)

/-- 'laws.FnExactBlamedFor': WHATEVER THE INPUT: true; the input reads as it did. -/
def fnExactBlamedForSpec : ChangeSpec := { name := "fnExactBlamedFor", fn := fun _ => fun
  | [d1, d2, d3] => { results := [.lit (.bool true)], args := [d1, d2, d3] }
  | _ => none }
def fnExactBlamedForRow : OpenClaim := { program := "ytkokdppmkajnmaa", sum := "2095d995a12814d8f39c7551fb557bdc5e315f0fb1e6a177fce43f3e53ed7473", func := "loop.example/buildscheduler/laws.FnExactBlamedFor", spec := "fnExactBlamedFor", apart := false }
def FnExactBlamedForSaid : Prop := fnExactBlamedForRow.holds Try.pinned (OpenSpec.ofChange fnExactBlamedForSpec)

/-- ITS FALSE NEIGHBOUR: 'it returns false'. Refute it at one input. -/
def fnExactBlamedForWrong : ChangeSpec := { name := "fnExactBlamedFor", fn := fun _ => fun
  | [d1, d2, d3] => { results := [.lit (.bool false)], args := [d1, d2, d3] }
  | _ => none }
def FnExactBlamedForWrongFalsely : Prop := fnExactBlamedForRow.holds Try.pinned (OpenSpec.ofChange fnExactBlamedForWrong)

/-- 'laws.FnExactCancelAt': WHATEVER THE INPUT: true; the input reads as it did. -/
def fnExactCancelAtSpec : ChangeSpec := { name := "fnExactCancelAt", fn := fun _ => fun
  | [d1, d2, d3, d4, d5] => { results := [.lit (.bool true)], args := [d1, d2, d3, d4, d5] }
  | _ => none }
def fnExactCancelAtRow : OpenClaim := { program := "ytkokdppmkajnmaa", sum := "2095d995a12814d8f39c7551fb557bdc5e315f0fb1e6a177fce43f3e53ed7473", func := "loop.example/buildscheduler/laws.FnExactCancelAt", spec := "fnExactCancelAt", apart := false }
def FnExactCancelAtSaid : Prop := fnExactCancelAtRow.holds Try.pinned (OpenSpec.ofChange fnExactCancelAtSpec)

/-- ITS FALSE NEIGHBOUR: 'it returns false'. Refute it at one input. -/
def fnExactCancelAtWrong : ChangeSpec := { name := "fnExactCancelAt", fn := fun _ => fun
  | [d1, d2, d3, d4, d5] => { results := [.lit (.bool false)], args := [d1, d2, d3, d4, d5] }
  | _ => none }
def FnExactCancelAtWrongFalsely : Prop := fnExactCancelAtRow.holds Try.pinned (OpenSpec.ofChange fnExactCancelAtWrong)

/- THE SECOND FORM. 'bulk': how many values and letters a reading holds, each counted each time it is reached (what is shared counts as often as it is met; a slice's spare places count too). A statement '..UptoSaid' is the law's where the arguments, and the package variables that the reading takes, are together of bulk at most 1048576: NARROWER than '..Said'. Prove '..Said' where nothing that the law and all that it calls make is longer than what came in: it says more and counts as full. Else prove '..UptoSaid'. A law counts once. -/
mutual
def uptoBulk {H : Type} : DataW H → Nat
  | .lit (.string bytes) => bytes.length + 1
  | .lit _ => 1
  | .nil => 1
  | .ptr d => uptoBulk d + 1
  | .slice elems spare => uptoBulkAll elems + uptoBulkAll spare + 1
  | .agg parts => uptoBulkAll parts + 1
  | .iface _ d => uptoBulk d + 1
  | .map entries => uptoBulkEntries entries + 1
  | .held _ => 1
def uptoBulkAll {H : Type} : List (DataW H) → Nat
  | [] => 0
  | d :: r => uptoBulk d + uptoBulkAll r
def uptoBulkEntries {H : Type} : List (Lit × DataW H) → Nat
  | [] => 0
  | x :: r => uptoBulkEntry x + uptoBulkEntries r
def uptoBulkEntry {H : Type} : Lit × DataW H → Nat
  | (.string bytes, d) => bytes.length + uptoBulk d + 1
  | (_, d) => uptoBulk d + 1
 end
def uptoSmall : (H : Type) → List (DataW H) → Bool := fun _ ds => decide (uptoBulkAll ds ≤ 1048576)
def OpenSpec.upto (s : _root_.Go.ChangeSpec) : _root_.Go.OpenSpec := { _root_.Go.OpenSpec.ofChange s with cond := some uptoSmall }

/-- 'laws.FnExactPlanStarts', WHERE WHAT IT READS IS OF BULK AT MOST 1048576: true; the input reads as it did. -/
def fnExactPlanStartsUptoRow : OpenClaim := { program := "ytkokdppmkajnmaa", sum := "2095d995a12814d8f39c7551fb557bdc5e315f0fb1e6a177fce43f3e53ed7473", func := "loop.example/buildscheduler/laws.FnExactPlanStarts", spec := "fnExactPlanStarts", apart := false, narrowed := true }
def FnExactPlanStartsUptoSaid : Prop := fnExactPlanStartsUptoRow.holds Try.pinned (OpenSpec.upto fnExactPlanStartsSpec)

/-- 'laws.FnExactBestOrder', WHERE WHAT IT READS IS OF BULK AT MOST 1048576: true; the input reads as it did. -/
def fnExactBestOrderUptoRow : OpenClaim := { program := "ytkokdppmkajnmaa", sum := "2095d995a12814d8f39c7551fb557bdc5e315f0fb1e6a177fce43f3e53ed7473", func := "loop.example/buildscheduler/laws.FnExactBestOrder", spec := "fnExactBestOrder", recurses := true, apart := false, narrowed := true }
def FnExactBestOrderUptoSaid : Prop := fnExactBestOrderUptoRow.holds Try.pinned (OpenSpec.upto fnExactBestOrderSpec)

/-- 'laws.FnExactBestTime', WHERE WHAT IT READS IS OF BULK AT MOST 1048576: true; the input reads as it did. -/
def fnExactBestTimeUptoRow : OpenClaim := { program := "ytkokdppmkajnmaa", sum := "2095d995a12814d8f39c7551fb557bdc5e315f0fb1e6a177fce43f3e53ed7473", func := "loop.example/buildscheduler/laws.FnExactBestTime", spec := "fnExactBestTime", recurses := true, apart := false, narrowed := true }
def FnExactBestTimeUptoSaid : Prop := fnExactBestTimeUptoRow.holds Try.pinned (OpenSpec.upto fnExactBestTimeSpec)

/-- 'laws.FnExactDelayOf', WHERE WHAT IT READS IS OF BULK AT MOST 1048576: true; the input reads as it did. -/
def fnExactDelayOfUptoRow : OpenClaim := { program := "ytkokdppmkajnmaa", sum := "2095d995a12814d8f39c7551fb557bdc5e315f0fb1e6a177fce43f3e53ed7473", func := "loop.example/buildscheduler/laws.FnExactDelayOf", spec := "fnExactDelayOf", apart := false, narrowed := true }
def FnExactDelayOfUptoSaid : Prop := fnExactDelayOfUptoRow.holds Try.pinned (OpenSpec.upto fnExactDelayOfSpec)

/-- 'laws.FnExactTryTask', WHERE WHAT IT READS IS OF BULK AT MOST 1048576: true; the input reads as it did. -/
def fnExactTryTaskUptoRow : OpenClaim := { program := "ytkokdppmkajnmaa", sum := "2095d995a12814d8f39c7551fb557bdc5e315f0fb1e6a177fce43f3e53ed7473", func := "loop.example/buildscheduler/laws.FnExactTryTask", spec := "fnExactTryTask", apart := false, narrowed := true }
def FnExactTryTaskUptoSaid : Prop := fnExactTryTaskUptoRow.holds Try.pinned (OpenSpec.upto fnExactTryTaskSpec)

/-- 'laws.FnExactTryTime', WHERE WHAT IT READS IS OF BULK AT MOST 1048576: true; the input reads as it did. -/
def fnExactTryTimeUptoRow : OpenClaim := { program := "ytkokdppmkajnmaa", sum := "2095d995a12814d8f39c7551fb557bdc5e315f0fb1e6a177fce43f3e53ed7473", func := "loop.example/buildscheduler/laws.FnExactTryTime", spec := "fnExactTryTime", apart := false, narrowed := true }
def FnExactTryTimeUptoSaid : Prop := fnExactTryTimeUptoRow.holds Try.pinned (OpenSpec.upto fnExactTryTimeSpec)

/-- 'laws.FnExactIsFlaky', WHERE WHAT IT READS IS OF BULK AT MOST 1048576: true; the input reads as it did. -/
def fnExactIsFlakyUptoRow : OpenClaim := { program := "ytkokdppmkajnmaa", sum := "2095d995a12814d8f39c7551fb557bdc5e315f0fb1e6a177fce43f3e53ed7473", func := "loop.example/buildscheduler/laws.FnExactIsFlaky", spec := "fnExactIsFlaky", apart := false, narrowed := true }
def FnExactIsFlakyUptoSaid : Prop := fnExactIsFlakyUptoRow.holds Try.pinned (OpenSpec.upto fnExactIsFlakySpec)

/-- 'laws.FnExactOutcomes', WHERE WHAT IT READS IS OF BULK AT MOST 1048576: true; the input reads as it did. -/
def fnExactOutcomesUptoRow : OpenClaim := { program := "ytkokdppmkajnmaa", sum := "2095d995a12814d8f39c7551fb557bdc5e315f0fb1e6a177fce43f3e53ed7473", func := "loop.example/buildscheduler/laws.FnExactOutcomes", spec := "fnExactOutcomes", apart := false, narrowed := true }
def FnExactOutcomesUptoSaid : Prop := fnExactOutcomesUptoRow.holds Try.pinned (OpenSpec.upto fnExactOutcomesSpec)

/-- 'laws.FnExactCountOutcome', WHERE WHAT IT READS IS OF BULK AT MOST 1048576: true; the input reads as it did. -/
def fnExactCountOutcomeUptoRow : OpenClaim := { program := "ytkokdppmkajnmaa", sum := "2095d995a12814d8f39c7551fb557bdc5e315f0fb1e6a177fce43f3e53ed7473", func := "loop.example/buildscheduler/laws.FnExactCountOutcome", spec := "fnExactCountOutcome", apart := false, narrowed := true }
def FnExactCountOutcomeUptoSaid : Prop := fnExactCountOutcomeUptoRow.holds Try.pinned (OpenSpec.upto fnExactCountOutcomeSpec)

/-- 'laws.FnExactBlamedFor', WHERE WHAT IT READS IS OF BULK AT MOST 1048576: true; the input reads as it did. -/
def fnExactBlamedForUptoRow : OpenClaim := { program := "ytkokdppmkajnmaa", sum := "2095d995a12814d8f39c7551fb557bdc5e315f0fb1e6a177fce43f3e53ed7473", func := "loop.example/buildscheduler/laws.FnExactBlamedFor", spec := "fnExactBlamedFor", apart := false, narrowed := true }
def FnExactBlamedForUptoSaid : Prop := fnExactBlamedForUptoRow.holds Try.pinned (OpenSpec.upto fnExactBlamedForSpec)

/-- 'laws.FnExactCancelAt', WHERE WHAT IT READS IS OF BULK AT MOST 1048576: true; the input reads as it did. -/
def fnExactCancelAtUptoRow : OpenClaim := { program := "ytkokdppmkajnmaa", sum := "2095d995a12814d8f39c7551fb557bdc5e315f0fb1e6a177fce43f3e53ed7473", func := "loop.example/buildscheduler/laws.FnExactCancelAt", spec := "fnExactCancelAt", apart := false, narrowed := true }
def FnExactCancelAtUptoSaid : Prop := fnExactCancelAtUptoRow.holds Try.pinned (OpenSpec.upto fnExactCancelAtSpec)

end Rows
end Go.Proofs.Ytkokdppmkajnmaa
