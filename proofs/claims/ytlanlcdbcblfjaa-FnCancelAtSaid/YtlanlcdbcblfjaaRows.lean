/-
  No cell of these rows narrows 'for every input' (looked for: loops, veiled, ifaces, maps, wideKeys, modest, calm, conditions, laid).
  DERIVED. THE GIVEN ROWS OF THIS SEAT. 12 by the template 'for every input the law returns true; each argument reads behind the call as it read before'; 0 by the template 'total and deterministic' (their statements: YtlanlcdbcblfjaaTotals.lean).
  GIVEN WITH THE SEED: the statements are not yours to turn. If you find one false, say at which input.
  Laid BY PROGRAM, IN A SANDBOX (cutbox-rows.mjs): the forced cells as the released guide's own fill.sh prints them over the translation 3bf82930b369c587… (all of the seat's roots in one cut). By AI agents, Wed Nov 11 2026. No macro, syntax, notation, axiom, sorry.
-/
import Derived.Test.YtlanlcdbcblfjaaChecked
import GoSem.Claim
import GoSem.ClaimJoined
import GoSem.ClaimMapViews
import Derived.JoinedTies
import Derived.KernelRfl
namespace Go.Proofs.Ytlanlcdbcblfjaa
/- THE CELL 'sum', in the pinned program and in every row, IS THE sha256 OF THE DUMP (.gsa) THAT YtlanlcdbcblfjaaProg.lean LOADS. Nothing in Lean hashes anything: it is a label: what it is worth is what the hold of that sum in a sandbox is worth. -/
noncomputable def Try.pinned : Pinned := { name := "ytlanlcdbcblfjaa", sum := "3bf82930b369c587eb59783e292ef59e029c8ee3f93d309fd2abe61050f80623", checked := Try.checked }
namespace Rows
def none {H : Type} : Left H := { results := [], args := [] }

/-- 'laws.FnOutcomes': WHATEVER THE INPUT: true; the input reads as it did. -/
def fnOutcomesSpec : ChangeSpec := { name := "fnOutcomes", fn := fun _ => fun
  | [d] => { results := [.lit (.bool true)], args := [d] }
  | _ => none }
def fnOutcomesRow : OpenClaim := { program := "ytlanlcdbcblfjaa", sum := "3bf82930b369c587eb59783e292ef59e029c8ee3f93d309fd2abe61050f80623", func := "loop.example/buildscheduler/laws.FnOutcomes", spec := "fnOutcomes", apart := false }
def FnOutcomesSaid : Prop := fnOutcomesRow.holds Try.pinned (OpenSpec.ofChange fnOutcomesSpec)

/-- ITS FALSE NEIGHBOUR: 'it returns false'. Refute it at one input. -/
def fnOutcomesWrong : ChangeSpec := { name := "fnOutcomes", fn := fun _ => fun
  | [d] => { results := [.lit (.bool false)], args := [d] }
  | _ => none }
def FnOutcomesWrongFalsely : Prop := fnOutcomesRow.holds Try.pinned (OpenSpec.ofChange fnOutcomesWrong)

/-- 'laws.FnOutcomesKeep': WHATEVER THE INPUT: true; the input reads as it did. -/
def fnOutcomesKeepSpec : ChangeSpec := { name := "fnOutcomesKeep", fn := fun _ => fun
  | [d] => { results := [.lit (.bool true)], args := [d] }
  | _ => none }
def fnOutcomesKeepRow : OpenClaim := { program := "ytlanlcdbcblfjaa", sum := "3bf82930b369c587eb59783e292ef59e029c8ee3f93d309fd2abe61050f80623", func := "loop.example/buildscheduler/laws.FnOutcomesKeep", spec := "fnOutcomesKeep", apart := false }
def FnOutcomesKeepSaid : Prop := fnOutcomesKeepRow.holds Try.pinned (OpenSpec.ofChange fnOutcomesKeepSpec)

/-- ITS FALSE NEIGHBOUR: 'it returns false'. Refute it at one input. -/
def fnOutcomesKeepWrong : ChangeSpec := { name := "fnOutcomesKeep", fn := fun _ => fun
  | [d] => { results := [.lit (.bool false)], args := [d] }
  | _ => none }
def FnOutcomesKeepWrongFalsely : Prop := fnOutcomesKeepRow.holds Try.pinned (OpenSpec.ofChange fnOutcomesKeepWrong)

/-- 'laws.FnOutcomesNone': WHATEVER THE INPUT: true; the input reads as it did. -/
def fnOutcomesNoneSpec : ChangeSpec := { name := "fnOutcomesNone", fn := fun _ => fun
  | [d] => { results := [.lit (.bool true)], args := [d] }
  | _ => none }
def fnOutcomesNoneRow : OpenClaim := { program := "ytlanlcdbcblfjaa", sum := "3bf82930b369c587eb59783e292ef59e029c8ee3f93d309fd2abe61050f80623", func := "loop.example/buildscheduler/laws.FnOutcomesNone", spec := "fnOutcomesNone", apart := false }
def FnOutcomesNoneSaid : Prop := fnOutcomesNoneRow.holds Try.pinned (OpenSpec.ofChange fnOutcomesNoneSpec)

/-- ITS FALSE NEIGHBOUR: 'it returns false'. Refute it at one input. -/
def fnOutcomesNoneWrong : ChangeSpec := { name := "fnOutcomesNone", fn := fun _ => fun
  | [d] => { results := [.lit (.bool false)], args := [d] }
  | _ => none }
def FnOutcomesNoneWrongFalsely : Prop := fnOutcomesNoneRow.holds Try.pinned (OpenSpec.ofChange fnOutcomesNoneWrong)

/-- 'laws.FnCountOutcome': WHATEVER THE INPUT: true; the input reads as it did. -/
def fnCountOutcomeSpec : ChangeSpec := { name := "fnCountOutcome", fn := fun _ => fun
  | [d] => { results := [.lit (.bool true)], args := [d] }
  | _ => none }
def fnCountOutcomeRow : OpenClaim := { program := "ytlanlcdbcblfjaa", sum := "3bf82930b369c587eb59783e292ef59e029c8ee3f93d309fd2abe61050f80623", func := "loop.example/buildscheduler/laws.FnCountOutcome", spec := "fnCountOutcome", apart := false }
def FnCountOutcomeSaid : Prop := fnCountOutcomeRow.holds Try.pinned (OpenSpec.ofChange fnCountOutcomeSpec)

/-- ITS FALSE NEIGHBOUR: 'it returns false'. Refute it at one input. -/
def fnCountOutcomeWrong : ChangeSpec := { name := "fnCountOutcome", fn := fun _ => fun
  | [d] => { results := [.lit (.bool false)], args := [d] }
  | _ => none }
def FnCountOutcomeWrongFalsely : Prop := fnCountOutcomeRow.holds Try.pinned (OpenSpec.ofChange fnCountOutcomeWrong)

/-- 'laws.FnCountOutcomeMore': WHATEVER THE INPUT: true; the input reads as it did. -/
def fnCountOutcomeMoreSpec : ChangeSpec := { name := "fnCountOutcomeMore", fn := fun _ => fun
  | [d] => { results := [.lit (.bool true)], args := [d] }
  | _ => none }
def fnCountOutcomeMoreRow : OpenClaim := { program := "ytlanlcdbcblfjaa", sum := "3bf82930b369c587eb59783e292ef59e029c8ee3f93d309fd2abe61050f80623", func := "loop.example/buildscheduler/laws.FnCountOutcomeMore", spec := "fnCountOutcomeMore", apart := false }
def FnCountOutcomeMoreSaid : Prop := fnCountOutcomeMoreRow.holds Try.pinned (OpenSpec.ofChange fnCountOutcomeMoreSpec)

/-- ITS FALSE NEIGHBOUR: 'it returns false'. Refute it at one input. -/
def fnCountOutcomeMoreWrong : ChangeSpec := { name := "fnCountOutcomeMore", fn := fun _ => fun
  | [d] => { results := [.lit (.bool false)], args := [d] }
  | _ => none }
def FnCountOutcomeMoreWrongFalsely : Prop := fnCountOutcomeMoreRow.holds Try.pinned (OpenSpec.ofChange fnCountOutcomeMoreWrong)

/-- 'laws.FnBlamedFor': WHATEVER THE INPUT: true; the input reads as it did. -/
def fnBlamedForSpec : ChangeSpec := { name := "fnBlamedFor", fn := fun _ => fun
  | [d] => { results := [.lit (.bool true)], args := [d] }
  | _ => none }
def fnBlamedForRow : OpenClaim := { program := "ytlanlcdbcblfjaa", sum := "3bf82930b369c587eb59783e292ef59e029c8ee3f93d309fd2abe61050f80623", func := "loop.example/buildscheduler/laws.FnBlamedFor", spec := "fnBlamedFor", apart := false }
def FnBlamedForSaid : Prop := fnBlamedForRow.holds Try.pinned (OpenSpec.ofChange fnBlamedForSpec)

/-- ITS FALSE NEIGHBOUR: 'it returns false'. Refute it at one input. -/
def fnBlamedForWrong : ChangeSpec := { name := "fnBlamedFor", fn := fun _ => fun
  | [d] => { results := [.lit (.bool false)], args := [d] }
  | _ => none }
def FnBlamedForWrongFalsely : Prop := fnBlamedForRow.holds Try.pinned (OpenSpec.ofChange fnBlamedForWrong)

/-- 'laws.FnCancelAt': WHATEVER THE INPUT: true; the input reads as it did. -/
def fnCancelAtSpec : ChangeSpec := { name := "fnCancelAt", fn := fun _ => fun
  | [d] => { results := [.lit (.bool true)], args := [d] }
  | _ => none }
def fnCancelAtRow : OpenClaim := { program := "ytlanlcdbcblfjaa", sum := "3bf82930b369c587eb59783e292ef59e029c8ee3f93d309fd2abe61050f80623", func := "loop.example/buildscheduler/laws.FnCancelAt", spec := "fnCancelAt", apart := false }
def FnCancelAtSaid : Prop := fnCancelAtRow.holds Try.pinned (OpenSpec.ofChange fnCancelAtSpec)

/-- ITS FALSE NEIGHBOUR: 'it returns false'. Refute it at one input. -/
def fnCancelAtWrong : ChangeSpec := { name := "fnCancelAt", fn := fun _ => fun
  | [d] => { results := [.lit (.bool false)], args := [d] }
  | _ => none }
def FnCancelAtWrongFalsely : Prop := fnCancelAtRow.holds Try.pinned (OpenSpec.ofChange fnCancelAtWrong)

/-- 'laws.FnCancelAtEnd': WHATEVER THE INPUT: true; the input reads as it did. -/
def fnCancelAtEndSpec : ChangeSpec := { name := "fnCancelAtEnd", fn := fun _ => fun
  | [d] => { results := [.lit (.bool true)], args := [d] }
  | _ => none }
def fnCancelAtEndRow : OpenClaim := { program := "ytlanlcdbcblfjaa", sum := "3bf82930b369c587eb59783e292ef59e029c8ee3f93d309fd2abe61050f80623", func := "loop.example/buildscheduler/laws.FnCancelAtEnd", spec := "fnCancelAtEnd", apart := false }
def FnCancelAtEndSaid : Prop := fnCancelAtEndRow.holds Try.pinned (OpenSpec.ofChange fnCancelAtEndSpec)

/-- ITS FALSE NEIGHBOUR: 'it returns false'. Refute it at one input. -/
def fnCancelAtEndWrong : ChangeSpec := { name := "fnCancelAtEnd", fn := fun _ => fun
  | [d] => { results := [.lit (.bool false)], args := [d] }
  | _ => none }
def FnCancelAtEndWrongFalsely : Prop := fnCancelAtEndRow.holds Try.pinned (OpenSpec.ofChange fnCancelAtEndWrong)

/-- 'laws.FnOutcomesFirst': WHATEVER THE INPUT: true; the input reads as it did. -/
def fnOutcomesFirstSpec : ChangeSpec := { name := "fnOutcomesFirst", fn := fun _ => fun
  | [d] => { results := [.lit (.bool true)], args := [d] }
  | _ => none }
def fnOutcomesFirstRow : OpenClaim := { program := "ytlanlcdbcblfjaa", sum := "3bf82930b369c587eb59783e292ef59e029c8ee3f93d309fd2abe61050f80623", func := "loop.example/buildscheduler/laws.FnOutcomesFirst", spec := "fnOutcomesFirst", apart := false }
def FnOutcomesFirstSaid : Prop := fnOutcomesFirstRow.holds Try.pinned (OpenSpec.ofChange fnOutcomesFirstSpec)

/-- ITS FALSE NEIGHBOUR: 'it returns false'. Refute it at one input. -/
def fnOutcomesFirstWrong : ChangeSpec := { name := "fnOutcomesFirst", fn := fun _ => fun
  | [d] => { results := [.lit (.bool false)], args := [d] }
  | _ => none }
def FnOutcomesFirstWrongFalsely : Prop := fnOutcomesFirstRow.holds Try.pinned (OpenSpec.ofChange fnOutcomesFirstWrong)

/-- 'laws.FnCountOutcomeDone': WHATEVER THE INPUT: true; the input reads as it did. -/
def fnCountOutcomeDoneSpec : ChangeSpec := { name := "fnCountOutcomeDone", fn := fun _ => fun
  | [d] => { results := [.lit (.bool true)], args := [d] }
  | _ => none }
def fnCountOutcomeDoneRow : OpenClaim := { program := "ytlanlcdbcblfjaa", sum := "3bf82930b369c587eb59783e292ef59e029c8ee3f93d309fd2abe61050f80623", func := "loop.example/buildscheduler/laws.FnCountOutcomeDone", spec := "fnCountOutcomeDone", apart := false }
def FnCountOutcomeDoneSaid : Prop := fnCountOutcomeDoneRow.holds Try.pinned (OpenSpec.ofChange fnCountOutcomeDoneSpec)

/-- ITS FALSE NEIGHBOUR: 'it returns false'. Refute it at one input. -/
def fnCountOutcomeDoneWrong : ChangeSpec := { name := "fnCountOutcomeDone", fn := fun _ => fun
  | [d] => { results := [.lit (.bool false)], args := [d] }
  | _ => none }
def FnCountOutcomeDoneWrongFalsely : Prop := fnCountOutcomeDoneRow.holds Try.pinned (OpenSpec.ofChange fnCountOutcomeDoneWrong)

/-- 'laws.FnBlamedForSelf': WHATEVER THE INPUT: true; the input reads as it did. -/
def fnBlamedForSelfSpec : ChangeSpec := { name := "fnBlamedForSelf", fn := fun _ => fun
  | [d] => { results := [.lit (.bool true)], args := [d] }
  | _ => none }
def fnBlamedForSelfRow : OpenClaim := { program := "ytlanlcdbcblfjaa", sum := "3bf82930b369c587eb59783e292ef59e029c8ee3f93d309fd2abe61050f80623", func := "loop.example/buildscheduler/laws.FnBlamedForSelf", spec := "fnBlamedForSelf", apart := false }
def FnBlamedForSelfSaid : Prop := fnBlamedForSelfRow.holds Try.pinned (OpenSpec.ofChange fnBlamedForSelfSpec)

/-- ITS FALSE NEIGHBOUR: 'it returns false'. Refute it at one input. -/
def fnBlamedForSelfWrong : ChangeSpec := { name := "fnBlamedForSelf", fn := fun _ => fun
  | [d] => { results := [.lit (.bool false)], args := [d] }
  | _ => none }
def FnBlamedForSelfWrongFalsely : Prop := fnBlamedForSelfRow.holds Try.pinned (OpenSpec.ofChange fnBlamedForSelfWrong)

/-- 'laws.FnCancelAtMore': WHATEVER THE INPUT: true; the input reads as it did. -/
def fnCancelAtMoreSpec : ChangeSpec := { name := "fnCancelAtMore", fn := fun _ => fun
  | [d] => { results := [.lit (.bool true)], args := [d] }
  | _ => none }
def fnCancelAtMoreRow : OpenClaim := { program := "ytlanlcdbcblfjaa", sum := "3bf82930b369c587eb59783e292ef59e029c8ee3f93d309fd2abe61050f80623", func := "loop.example/buildscheduler/laws.FnCancelAtMore", spec := "fnCancelAtMore", apart := false }
def FnCancelAtMoreSaid : Prop := fnCancelAtMoreRow.holds Try.pinned (OpenSpec.ofChange fnCancelAtMoreSpec)

/-- ITS FALSE NEIGHBOUR: 'it returns false'. Refute it at one input. -/
def fnCancelAtMoreWrong : ChangeSpec := { name := "fnCancelAtMore", fn := fun _ => fun
  | [d] => { results := [.lit (.bool false)], args := [d] }
  | _ => none }
def FnCancelAtMoreWrongFalsely : Prop := fnCancelAtMoreRow.holds Try.pinned (OpenSpec.ofChange fnCancelAtMoreWrong)

/- THE SECOND FORM. 'bulk': how many values and letters a reading holds, each counted each time it is reached (what is shared counts as often as it is met; a slice's spare places count too). A statement '..UptoSaid' is the law's where the arguments, and the package variables that the reading takes, are together of bulk at most 1048576: NARROWER than '..Said'. Prove '..Said' where nothing that the law and all that it calls make is longer than what came in: it says more and counts as full. Else prove '..UptoSaid'. A law counts once. -/
mutual
def uptoBulk {H : Type} : DataW H → Nat
  | .lit (.string bytes) => bytes.length + 1
  | .lit _ => 1
  | .nil => 1
  | .ptr d => uptoBulk d + 1
  | .slice elems spare => uptoBulkAll elems + uptoBulkAll spare + 1
  | .agg parts => uptoBulkAll parts + 1
  | .iface _ d => uptoBulk d + 1
  | .map entries => uptoBulkEntries entries + 1
  | .held _ => 1
def uptoBulkAll {H : Type} : List (DataW H) → Nat
  | [] => 0
  | d :: r => uptoBulk d + uptoBulkAll r
def uptoBulkEntries {H : Type} : List (Lit × DataW H) → Nat
  | [] => 0
  | x :: r => uptoBulkEntry x + uptoBulkEntries r
def uptoBulkEntry {H : Type} : Lit × DataW H → Nat
  | (.string bytes, d) => bytes.length + uptoBulk d + 1
  | (_, d) => uptoBulk d + 1
 end
def uptoSmall : (H : Type) → List (DataW H) → Bool := fun _ ds => decide (uptoBulkAll ds ≤ 1048576)
def OpenSpec.upto (s : _root_.Go.ChangeSpec) : _root_.Go.OpenSpec := { _root_.Go.OpenSpec.ofChange s with cond := some uptoSmall }

/-- 'laws.FnOutcomes', WHERE WHAT IT READS IS OF BULK AT MOST 1048576: true; the input reads as it did. -/
def fnOutcomesUptoRow : OpenClaim := { program := "ytlanlcdbcblfjaa", sum := "3bf82930b369c587eb59783e292ef59e029c8ee3f93d309fd2abe61050f80623", func := "loop.example/buildscheduler/laws.FnOutcomes", spec := "fnOutcomes", apart := false, narrowed := true }
def FnOutcomesUptoSaid : Prop := fnOutcomesUptoRow.holds Try.pinned (OpenSpec.upto fnOutcomesSpec)

/-- 'laws.FnOutcomesKeep', WHERE WHAT IT READS IS OF BULK AT MOST 1048576: true; the input reads as it did. -/
def fnOutcomesKeepUptoRow : OpenClaim := { program := "ytlanlcdbcblfjaa", sum := "3bf82930b369c587eb59783e292ef59e029c8ee3f93d309fd2abe61050f80623", func := "loop.example/buildscheduler/laws.FnOutcomesKeep", spec := "fnOutcomesKeep", apart := false, narrowed := true }
def FnOutcomesKeepUptoSaid : Prop := fnOutcomesKeepUptoRow.holds Try.pinned (OpenSpec.upto fnOutcomesKeepSpec)

/-- 'laws.FnOutcomesNone', WHERE WHAT IT READS IS OF BULK AT MOST 1048576: true; the input reads as it did. -/
def fnOutcomesNoneUptoRow : OpenClaim := { program := "ytlanlcdbcblfjaa", sum := "3bf82930b369c587eb59783e292ef59e029c8ee3f93d309fd2abe61050f80623", func := "loop.example/buildscheduler/laws.FnOutcomesNone", spec := "fnOutcomesNone", apart := false, narrowed := true }
def FnOutcomesNoneUptoSaid : Prop := fnOutcomesNoneUptoRow.holds Try.pinned (OpenSpec.upto fnOutcomesNoneSpec)

/-- 'laws.FnCountOutcome', WHERE WHAT IT READS IS OF BULK AT MOST 1048576: true; the input reads as it did. -/
def fnCountOutcomeUptoRow : OpenClaim := { program := "ytlanlcdbcblfjaa", sum := "3bf82930b369c587eb59783e292ef59e029c8ee3f93d309fd2abe61050f80623", func := "loop.example/buildscheduler/laws.FnCountOutcome", spec := "fnCountOutcome", apart := false, narrowed := true }
def FnCountOutcomeUptoSaid : Prop := fnCountOutcomeUptoRow.holds Try.pinned (OpenSpec.upto fnCountOutcomeSpec)

/-- 'laws.FnCountOutcomeMore', WHERE WHAT IT READS IS OF BULK AT MOST 1048576: true; the input reads as it did. -/
def fnCountOutcomeMoreUptoRow : OpenClaim := { program := "ytlanlcdbcblfjaa", sum := "3bf82930b369c587eb59783e292ef59e029c8ee3f93d309fd2abe61050f80623", func := "loop.example/buildscheduler/laws.FnCountOutcomeMore", spec := "fnCountOutcomeMore", apart := false, narrowed := true }
def FnCountOutcomeMoreUptoSaid : Prop := fnCountOutcomeMoreUptoRow.holds Try.pinned (OpenSpec.upto fnCountOutcomeMoreSpec)

/-- 'laws.FnBlamedFor', WHERE WHAT IT READS IS OF BULK AT MOST 1048576: true; the input reads as it did. -/
def fnBlamedForUptoRow : OpenClaim := { program := "ytlanlcdbcblfjaa", sum := "3bf82930b369c587eb59783e292ef59e029c8ee3f93d309fd2abe61050f80623", func := "loop.example/buildscheduler/laws.FnBlamedFor", spec := "fnBlamedFor", apart := false, narrowed := true }
def FnBlamedForUptoSaid : Prop := fnBlamedForUptoRow.holds Try.pinned (OpenSpec.upto fnBlamedForSpec)

/-- 'laws.FnCancelAt', WHERE WHAT IT READS IS OF BULK AT MOST 1048576: true; the input reads as it did. -/
def fnCancelAtUptoRow : OpenClaim := { program := "ytlanlcdbcblfjaa", sum := "3bf82930b369c587eb59783e292ef59e029c8ee3f93d309fd2abe61050f80623", func := "loop.example/buildscheduler/laws.FnCancelAt", spec := "fnCancelAt", apart := false, narrowed := true }
def FnCancelAtUptoSaid : Prop := fnCancelAtUptoRow.holds Try.pinned (OpenSpec.upto fnCancelAtSpec)

/-- 'laws.FnCancelAtEnd', WHERE WHAT IT READS IS OF BULK AT MOST 1048576: true; the input reads as it did. -/
def fnCancelAtEndUptoRow : OpenClaim := { program := "ytlanlcdbcblfjaa", sum := "3bf82930b369c587eb59783e292ef59e029c8ee3f93d309fd2abe61050f80623", func := "loop.example/buildscheduler/laws.FnCancelAtEnd", spec := "fnCancelAtEnd", apart := false, narrowed := true }
def FnCancelAtEndUptoSaid : Prop := fnCancelAtEndUptoRow.holds Try.pinned (OpenSpec.upto fnCancelAtEndSpec)

/-- 'laws.FnOutcomesFirst', WHERE WHAT IT READS IS OF BULK AT MOST 1048576: true; the input reads as it did. -/
def fnOutcomesFirstUptoRow : OpenClaim := { program := "ytlanlcdbcblfjaa", sum := "3bf82930b369c587eb59783e292ef59e029c8ee3f93d309fd2abe61050f80623", func := "loop.example/buildscheduler/laws.FnOutcomesFirst", spec := "fnOutcomesFirst", apart := false, narrowed := true }
def FnOutcomesFirstUptoSaid : Prop := fnOutcomesFirstUptoRow.holds Try.pinned (OpenSpec.upto fnOutcomesFirstSpec)

/-- 'laws.FnCountOutcomeDone', WHERE WHAT IT READS IS OF BULK AT MOST 1048576: true; the input reads as it did. -/
def fnCountOutcomeDoneUptoRow : OpenClaim := { program := "ytlanlcdbcblfjaa", sum := "3bf82930b369c587eb59783e292ef59e029c8ee3f93d309fd2abe61050f80623", func := "loop.example/buildscheduler/laws.FnCountOutcomeDone", spec := "fnCountOutcomeDone", apart := false, narrowed := true }
def FnCountOutcomeDoneUptoSaid : Prop := fnCountOutcomeDoneUptoRow.holds Try.pinned (OpenSpec.upto fnCountOutcomeDoneSpec)

/-- 'laws.FnBlamedForSelf', WHERE WHAT IT READS IS OF BULK AT MOST 1048576: true; the input reads as it did. -/
def fnBlamedForSelfUptoRow : OpenClaim := { program := "ytlanlcdbcblfjaa", sum := "3bf82930b369c587eb59783e292ef59e029c8ee3f93d309fd2abe61050f80623", func := "loop.example/buildscheduler/laws.FnBlamedForSelf", spec := "fnBlamedForSelf", apart := false, narrowed := true }
def FnBlamedForSelfUptoSaid : Prop := fnBlamedForSelfUptoRow.holds Try.pinned (OpenSpec.upto fnBlamedForSelfSpec)

/-- 'laws.FnCancelAtMore', WHERE WHAT IT READS IS OF BULK AT MOST 1048576: true; the input reads as it did. -/
def fnCancelAtMoreUptoRow : OpenClaim := { program := "ytlanlcdbcblfjaa", sum := "3bf82930b369c587eb59783e292ef59e029c8ee3f93d309fd2abe61050f80623", func := "loop.example/buildscheduler/laws.FnCancelAtMore", spec := "fnCancelAtMore", apart := false, narrowed := true }
def FnCancelAtMoreUptoSaid : Prop := fnCancelAtMoreUptoRow.holds Try.pinned (OpenSpec.upto fnCancelAtMoreSpec)

end Rows
end Go.Proofs.Ytlanlcdbcblfjaa
