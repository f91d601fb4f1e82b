/-
  No cell of these rows narrows 'for every input' (looked for: loops, veiled, ifaces, maps, wideKeys, modest, calm, conditions, laid).
  DERIVED. THE GIVEN ROWS OF THIS SEAT. 12 by the template 'for every input the law returns true; each argument reads behind the call as it read before'; 0 by the template 'total and deterministic' (their statements: YtnbgekbfccejdaaTotals.lean).
  GIVEN WITH THE SEED: the statements are not yours to turn. If you find one false, say at which input.
  Laid BY PROGRAM, IN A SANDBOX (cutbox-rows.mjs): the forced cells as the released guide's own fill.sh prints them over the translation 8d4886e2b3b1dabc… (all of the seat's roots in one cut). By AI agents, Wed Nov 11 2026. No macro, syntax, notation, axiom, sorry.
-/
import Derived.Test.YtnbgekbfccejdaaChecked
import GoSem.Claim
import GoSem.ClaimJoined
import GoSem.ClaimMapViews
import Derived.JoinedTies
import Derived.KernelRfl
namespace Go.Proofs.Ytnbgekbfccejdaa
/- THE CELL 'sum', in the pinned program and in every row, IS THE sha256 OF THE DUMP (.gsa) THAT YtnbgekbfccejdaaProg.lean LOADS. Nothing in Lean hashes anything: it is a label: what it is worth is what the hold of that sum in a sandbox is worth. -/
noncomputable def Try.pinned : Pinned := { name := "ytnbgekbfccejdaa", sum := "8d4886e2b3b1dabc3fe2a17ec5132fac49d8d9747dbf00eca694e18e63724ee4", checked := Try.checked }
namespace Rows
def none {H : Type} : Left H := { results := [], args := [] }

/-- 'laws.FnRunsTogether': WHATEVER THE INPUT: true; the input reads as it did. -/
def fnRunsTogetherSpec : ChangeSpec := { name := "fnRunsTogether", fn := fun _ => fun
  | [d] => { results := [.lit (.bool true)], args := [d] }
  | _ => none }
def fnRunsTogetherRow : OpenClaim := { program := "ytnbgekbfccejdaa", sum := "8d4886e2b3b1dabc3fe2a17ec5132fac49d8d9747dbf00eca694e18e63724ee4", func := "loop.example/buildscheduler/laws.FnRunsTogether", spec := "fnRunsTogether", apart := false }
def FnRunsTogetherSaid : Prop := fnRunsTogetherRow.holds Try.pinned (OpenSpec.ofChange fnRunsTogetherSpec)

/-- ITS FALSE NEIGHBOUR: 'it returns false'. Refute it at one input. -/
def fnRunsTogetherWrong : ChangeSpec := { name := "fnRunsTogether", fn := fun _ => fun
  | [d] => { results := [.lit (.bool false)], args := [d] }
  | _ => none }
def FnRunsTogetherWrongFalsely : Prop := fnRunsTogetherRow.holds Try.pinned (OpenSpec.ofChange fnRunsTogetherWrong)

/-- 'laws.FnValidStarts': WHATEVER THE INPUT: true; the input reads as it did. -/
def fnValidStartsSpec : ChangeSpec := { name := "fnValidStarts", fn := fun _ => fun
  | [d] => { results := [.lit (.bool true)], args := [d] }
  | _ => none }
def fnValidStartsRow : OpenClaim := { program := "ytnbgekbfccejdaa", sum := "8d4886e2b3b1dabc3fe2a17ec5132fac49d8d9747dbf00eca694e18e63724ee4", func := "loop.example/buildscheduler/laws.FnValidStarts", spec := "fnValidStarts", apart := false }
def FnValidStartsSaid : Prop := fnValidStartsRow.holds Try.pinned (OpenSpec.ofChange fnValidStartsSpec)

/-- ITS FALSE NEIGHBOUR: 'it returns false'. Refute it at one input. -/
def fnValidStartsWrong : ChangeSpec := { name := "fnValidStarts", fn := fun _ => fun
  | [d] => { results := [.lit (.bool false)], args := [d] }
  | _ => none }
def FnValidStartsWrongFalsely : Prop := fnValidStartsRow.holds Try.pinned (OpenSpec.ofChange fnValidStartsWrong)

/-- 'laws.FnValidStartsMore': WHATEVER THE INPUT: true; the input reads as it did. -/
def fnValidStartsMoreSpec : ChangeSpec := { name := "fnValidStartsMore", fn := fun _ => fun
  | [d] => { results := [.lit (.bool true)], args := [d] }
  | _ => none }
def fnValidStartsMoreRow : OpenClaim := { program := "ytnbgekbfccejdaa", sum := "8d4886e2b3b1dabc3fe2a17ec5132fac49d8d9747dbf00eca694e18e63724ee4", func := "loop.example/buildscheduler/laws.FnValidStartsMore", spec := "fnValidStartsMore", apart := false }
def FnValidStartsMoreSaid : Prop := fnValidStartsMoreRow.holds Try.pinned (OpenSpec.ofChange fnValidStartsMoreSpec)

/-- ITS FALSE NEIGHBOUR: 'it returns false'. Refute it at one input. -/
def fnValidStartsMoreWrong : ChangeSpec := { name := "fnValidStartsMore", fn := fun _ => fun
  | [d] => { results := [.lit (.bool false)], args := [d] }
  | _ => none }
def FnValidStartsMoreWrongFalsely : Prop := fnValidStartsMoreRow.holds Try.pinned (OpenSpec.ofChange fnValidStartsMoreWrong)

/-- 'laws.FnPlanStarts': WHATEVER THE INPUT: true; the input reads as it did. -/
def fnPlanStartsSpec : ChangeSpec := { name := "fnPlanStarts", fn := fun _ => fun
  | [d] => { results := [.lit (.bool true)], args := [d] }
  | _ => none }
def fnPlanStartsRow : OpenClaim := { program := "ytnbgekbfccejdaa", sum := "8d4886e2b3b1dabc3fe2a17ec5132fac49d8d9747dbf00eca694e18e63724ee4", func := "loop.example/buildscheduler/laws.FnPlanStarts", spec := "fnPlanStarts", apart := false }
def FnPlanStartsSaid : Prop := fnPlanStartsRow.holds Try.pinned (OpenSpec.ofChange fnPlanStartsSpec)

/-- ITS FALSE NEIGHBOUR: 'it returns false'. Refute it at one input. -/
def fnPlanStartsWrong : ChangeSpec := { name := "fnPlanStarts", fn := fun _ => fun
  | [d] => { results := [.lit (.bool false)], args := [d] }
  | _ => none }
def FnPlanStartsWrongFalsely : Prop := fnPlanStartsRow.holds Try.pinned (OpenSpec.ofChange fnPlanStartsWrong)

/-- 'laws.FnPlanStartsBusy': WHATEVER THE INPUT: true; the input reads as it did. -/
def fnPlanStartsBusySpec : ChangeSpec := { name := "fnPlanStartsBusy", fn := fun _ => fun
  | [d] => { results := [.lit (.bool true)], args := [d] }
  | _ => none }
def fnPlanStartsBusyRow : OpenClaim := { program := "ytnbgekbfccejdaa", sum := "8d4886e2b3b1dabc3fe2a17ec5132fac49d8d9747dbf00eca694e18e63724ee4", func := "loop.example/buildscheduler/laws.FnPlanStartsBusy", spec := "fnPlanStartsBusy", apart := false }
def FnPlanStartsBusySaid : Prop := fnPlanStartsBusyRow.holds Try.pinned (OpenSpec.ofChange fnPlanStartsBusySpec)

/-- ITS FALSE NEIGHBOUR: 'it returns false'. Refute it at one input. -/
def fnPlanStartsBusyWrong : ChangeSpec := { name := "fnPlanStartsBusy", fn := fun _ => fun
  | [d] => { results := [.lit (.bool false)], args := [d] }
  | _ => none }
def FnPlanStartsBusyWrongFalsely : Prop := fnPlanStartsBusyRow.holds Try.pinned (OpenSpec.ofChange fnPlanStartsBusyWrong)

/-- 'laws.FnPlanStartsOne': WHATEVER THE INPUT: true; the input reads as it did. -/
def fnPlanStartsOneSpec : ChangeSpec := { name := "fnPlanStartsOne", fn := fun _ => fun
  | [d] => { results := [.lit (.bool true)], args := [d] }
  | _ => none }
def fnPlanStartsOneRow : OpenClaim := { program := "ytnbgekbfccejdaa", sum := "8d4886e2b3b1dabc3fe2a17ec5132fac49d8d9747dbf00eca694e18e63724ee4", func := "loop.example/buildscheduler/laws.FnPlanStartsOne", spec := "fnPlanStartsOne", apart := false }
def FnPlanStartsOneSaid : Prop := fnPlanStartsOneRow.holds Try.pinned (OpenSpec.ofChange fnPlanStartsOneSpec)

/-- ITS FALSE NEIGHBOUR: 'it returns false'. Refute it at one input. -/
def fnPlanStartsOneWrong : ChangeSpec := { name := "fnPlanStartsOne", fn := fun _ => fun
  | [d] => { results := [.lit (.bool false)], args := [d] }
  | _ => none }
def FnPlanStartsOneWrongFalsely : Prop := fnPlanStartsOneRow.holds Try.pinned (OpenSpec.ofChange fnPlanStartsOneWrong)

/-- 'laws.FnEndTime': WHATEVER THE INPUT: true; the input reads as it did. -/
def fnEndTimeSpec : ChangeSpec := { name := "fnEndTime", fn := fun _ => fun
  | [d] => { results := [.lit (.bool true)], args := [d] }
  | _ => none }
def fnEndTimeRow : OpenClaim := { program := "ytnbgekbfccejdaa", sum := "8d4886e2b3b1dabc3fe2a17ec5132fac49d8d9747dbf00eca694e18e63724ee4", func := "loop.example/buildscheduler/laws.FnEndTime", spec := "fnEndTime", apart := false }
def FnEndTimeSaid : Prop := fnEndTimeRow.holds Try.pinned (OpenSpec.ofChange fnEndTimeSpec)

/-- ITS FALSE NEIGHBOUR: 'it returns false'. Refute it at one input. -/
def fnEndTimeWrong : ChangeSpec := { name := "fnEndTime", fn := fun _ => fun
  | [d] => { results := [.lit (.bool false)], args := [d] }
  | _ => none }
def FnEndTimeWrongFalsely : Prop := fnEndTimeRow.holds Try.pinned (OpenSpec.ofChange fnEndTimeWrong)

/-- 'laws.FnEndTimeLeast': WHATEVER THE INPUT: true; the input reads as it did. -/
def fnEndTimeLeastSpec : ChangeSpec := { name := "fnEndTimeLeast", fn := fun _ => fun
  | [d] => { results := [.lit (.bool true)], args := [d] }
  | _ => none }
def fnEndTimeLeastRow : OpenClaim := { program := "ytnbgekbfccejdaa", sum := "8d4886e2b3b1dabc3fe2a17ec5132fac49d8d9747dbf00eca694e18e63724ee4", func := "loop.example/buildscheduler/laws.FnEndTimeLeast", spec := "fnEndTimeLeast", apart := false }
def FnEndTimeLeastSaid : Prop := fnEndTimeLeastRow.holds Try.pinned (OpenSpec.ofChange fnEndTimeLeastSpec)

/-- ITS FALSE NEIGHBOUR: 'it returns false'. Refute it at one input. -/
def fnEndTimeLeastWrong : ChangeSpec := { name := "fnEndTimeLeast", fn := fun _ => fun
  | [d] => { results := [.lit (.bool false)], args := [d] }
  | _ => none }
def FnEndTimeLeastWrongFalsely : Prop := fnEndTimeLeastRow.holds Try.pinned (OpenSpec.ofChange fnEndTimeLeastWrong)

/-- 'laws.FnRunningAt': WHATEVER THE INPUT: true; the input reads as it did. -/
def fnRunningAtSpec : ChangeSpec := { name := "fnRunningAt", fn := fun _ => fun
  | [d] => { results := [.lit (.bool true)], args := [d] }
  | _ => none }
def fnRunningAtRow : OpenClaim := { program := "ytnbgekbfccejdaa", sum := "8d4886e2b3b1dabc3fe2a17ec5132fac49d8d9747dbf00eca694e18e63724ee4", func := "loop.example/buildscheduler/laws.FnRunningAt", spec := "fnRunningAt", apart := false }
def FnRunningAtSaid : Prop := fnRunningAtRow.holds Try.pinned (OpenSpec.ofChange fnRunningAtSpec)

/-- ITS FALSE NEIGHBOUR: 'it returns false'. Refute it at one input. -/
def fnRunningAtWrong : ChangeSpec := { name := "fnRunningAt", fn := fun _ => fun
  | [d] => { results := [.lit (.bool false)], args := [d] }
  | _ => none }
def FnRunningAtWrongFalsely : Prop := fnRunningAtRow.holds Try.pinned (OpenSpec.ofChange fnRunningAtWrong)

/-- 'laws.FnRunningAtTime': WHATEVER THE INPUT: true; the input reads as it did. -/
def fnRunningAtTimeSpec : ChangeSpec := { name := "fnRunningAtTime", fn := fun _ => fun
  | [d] => { results := [.lit (.bool true)], args := [d] }
  | _ => none }
def fnRunningAtTimeRow : OpenClaim := { program := "ytnbgekbfccejdaa", sum := "8d4886e2b3b1dabc3fe2a17ec5132fac49d8d9747dbf00eca694e18e63724ee4", func := "loop.example/buildscheduler/laws.FnRunningAtTime", spec := "fnRunningAtTime", apart := false }
def FnRunningAtTimeSaid : Prop := fnRunningAtTimeRow.holds Try.pinned (OpenSpec.ofChange fnRunningAtTimeSpec)

/-- ITS FALSE NEIGHBOUR: 'it returns false'. Refute it at one input. -/
def fnRunningAtTimeWrong : ChangeSpec := { name := "fnRunningAtTime", fn := fun _ => fun
  | [d] => { results := [.lit (.bool false)], args := [d] }
  | _ => none }
def FnRunningAtTimeWrongFalsely : Prop := fnRunningAtTimeRow.holds Try.pinned (OpenSpec.ofChange fnRunningAtTimeWrong)

/-- 'laws.FnLeastTime': WHATEVER THE INPUT: true; the input reads as it did. -/
def fnLeastTimeSpec : ChangeSpec := { name := "fnLeastTime", fn := fun _ => fun
  | [d] => { results := [.lit (.bool true)], args := [d] }
  | _ => none }
def fnLeastTimeRow : OpenClaim := { program := "ytnbgekbfccejdaa", sum := "8d4886e2b3b1dabc3fe2a17ec5132fac49d8d9747dbf00eca694e18e63724ee4", func := "loop.example/buildscheduler/laws.FnLeastTime", spec := "fnLeastTime", apart := false }
def FnLeastTimeSaid : Prop := fnLeastTimeRow.holds Try.pinned (OpenSpec.ofChange fnLeastTimeSpec)

/-- ITS FALSE NEIGHBOUR: 'it returns false'. Refute it at one input. -/
def fnLeastTimeWrong : ChangeSpec := { name := "fnLeastTime", fn := fun _ => fun
  | [d] => { results := [.lit (.bool false)], args := [d] }
  | _ => none }
def FnLeastTimeWrongFalsely : Prop := fnLeastTimeRow.holds Try.pinned (OpenSpec.ofChange fnLeastTimeWrong)

/-- 'laws.FnLeastTimeMore': WHATEVER THE INPUT: true; the input reads as it did. -/
def fnLeastTimeMoreSpec : ChangeSpec := { name := "fnLeastTimeMore", fn := fun _ => fun
  | [d] => { results := [.lit (.bool true)], args := [d] }
  | _ => none }
def fnLeastTimeMoreRow : OpenClaim := { program := "ytnbgekbfccejdaa", sum := "8d4886e2b3b1dabc3fe2a17ec5132fac49d8d9747dbf00eca694e18e63724ee4", func := "loop.example/buildscheduler/laws.FnLeastTimeMore", spec := "fnLeastTimeMore", apart := false }
def FnLeastTimeMoreSaid : Prop := fnLeastTimeMoreRow.holds Try.pinned (OpenSpec.ofChange fnLeastTimeMoreSpec)

/-- ITS FALSE NEIGHBOUR: 'it returns false'. Refute it at one input. -/
def fnLeastTimeMoreWrong : ChangeSpec := { name := "fnLeastTimeMore", fn := fun _ => fun
  | [d] => { results := [.lit (.bool false)], args := [d] }
  | _ => none }
def FnLeastTimeMoreWrongFalsely : Prop := fnLeastTimeMoreRow.holds Try.pinned (OpenSpec.ofChange fnLeastTimeMoreWrong)

/- THE SECOND FORM. 'bulk': how many values and letters a reading holds, each counted each time it is reached (what is shared counts as often as it is met; a slice's spare places count too). A statement '..UptoSaid' is the law's where the arguments, and the package variables that the reading takes, are together of bulk at most 1048576: NARROWER than '..Said'. Prove '..Said' where nothing that the law and all that it calls make is longer than what came in: it says more and counts as full. Else prove '..UptoSaid'. A law counts once. -/
mutual
def uptoBulk {H : Type} : DataW H → Nat
  | .lit (.string bytes) => bytes.length + 1
  | .lit _ => 1
  | .nil => 1
  | .ptr d => uptoBulk d + 1
  | .slice elems spare => uptoBulkAll elems + uptoBulkAll spare + 1
  | .agg parts => uptoBulkAll parts + 1
  | .iface _ d => uptoBulk d + 1
  | .map entries => uptoBulkEntries entries + 1
  | .held _ => 1
def uptoBulkAll {H : Type} : List (DataW H) → Nat
  | [] => 0
  | d :: r => uptoBulk d + uptoBulkAll r
def uptoBulkEntries {H : Type} : List (Lit × DataW H) → Nat
  | [] => 0
  | x :: r => uptoBulkEntry x + uptoBulkEntries r
def uptoBulkEntry {H : Type} : Lit × DataW H → Nat
  | (.string bytes, d) => bytes.length + uptoBulk d + 1
  | (_, d) => uptoBulk d + 1
 end
def uptoSmall : (H : Type) → List (DataW H) → Bool := fun _ ds => decide (uptoBulkAll ds ≤ 1048576)
def OpenSpec.upto (s : _root_.Go.ChangeSpec) : _root_.Go.OpenSpec := { _root_.Go.OpenSpec.ofChange s with cond := some uptoSmall }

/-- 'laws.FnRunsTogether', WHERE WHAT IT READS IS OF BULK AT MOST 1048576: true; the input reads as it did. -/
def fnRunsTogetherUptoRow : OpenClaim := { program := "ytnbgekbfccejdaa", sum := "8d4886e2b3b1dabc3fe2a17ec5132fac49d8d9747dbf00eca694e18e63724ee4", func := "loop.example/buildscheduler/laws.FnRunsTogether", spec := "fnRunsTogether", apart := false, narrowed := true }
def FnRunsTogetherUptoSaid : Prop := fnRunsTogetherUptoRow.holds Try.pinned (OpenSpec.upto fnRunsTogetherSpec)

/-- 'laws.FnValidStarts', WHERE WHAT IT READS IS OF BULK AT MOST 1048576: true; the input reads as it did. -/
def fnValidStartsUptoRow : OpenClaim := { program := "ytnbgekbfccejdaa", sum := "8d4886e2b3b1dabc3fe2a17ec5132fac49d8d9747dbf00eca694e18e63724ee4", func := "loop.example/buildscheduler/laws.FnValidStarts", spec := "fnValidStarts", apart := false, narrowed := true }
def FnValidStartsUptoSaid : Prop := fnValidStartsUptoRow.holds Try.pinned (OpenSpec.upto fnValidStartsSpec)

/-- 'laws.FnValidStartsMore', WHERE WHAT IT READS IS OF BULK AT MOST 1048576: true; the input reads as it did. -/
def fnValidStartsMoreUptoRow : OpenClaim := { program := "ytnbgekbfccejdaa", sum := "8d4886e2b3b1dabc3fe2a17ec5132fac49d8d9747dbf00eca694e18e63724ee4", func := "loop.example/buildscheduler/laws.FnValidStartsMore", spec := "fnValidStartsMore", apart := false, narrowed := true }
def FnValidStartsMoreUptoSaid : Prop := fnValidStartsMoreUptoRow.holds Try.pinned (OpenSpec.upto fnValidStartsMoreSpec)

/-- 'laws.FnPlanStarts', WHERE WHAT IT READS IS OF BULK AT MOST 1048576: true; the input reads as it did. -/
def fnPlanStartsUptoRow : OpenClaim := { program := "ytnbgekbfccejdaa", sum := "8d4886e2b3b1dabc3fe2a17ec5132fac49d8d9747dbf00eca694e18e63724ee4", func := "loop.example/buildscheduler/laws.FnPlanStarts", spec := "fnPlanStarts", apart := false, narrowed := true }
def FnPlanStartsUptoSaid : Prop := fnPlanStartsUptoRow.holds Try.pinned (OpenSpec.upto fnPlanStartsSpec)

/-- 'laws.FnPlanStartsBusy', WHERE WHAT IT READS IS OF BULK AT MOST 1048576: true; the input reads as it did. -/
def fnPlanStartsBusyUptoRow : OpenClaim := { program := "ytnbgekbfccejdaa", sum := "8d4886e2b3b1dabc3fe2a17ec5132fac49d8d9747dbf00eca694e18e63724ee4", func := "loop.example/buildscheduler/laws.FnPlanStartsBusy", spec := "fnPlanStartsBusy", apart := false, narrowed := true }
def FnPlanStartsBusyUptoSaid : Prop := fnPlanStartsBusyUptoRow.holds Try.pinned (OpenSpec.upto fnPlanStartsBusySpec)

/-- 'laws.FnPlanStartsOne', WHERE WHAT IT READS IS OF BULK AT MOST 1048576: true; the input reads as it did. -/
def fnPlanStartsOneUptoRow : OpenClaim := { program := "ytnbgekbfccejdaa", sum := "8d4886e2b3b1dabc3fe2a17ec5132fac49d8d9747dbf00eca694e18e63724ee4", func := "loop.example/buildscheduler/laws.FnPlanStartsOne", spec := "fnPlanStartsOne", apart := false, narrowed := true }
def FnPlanStartsOneUptoSaid : Prop := fnPlanStartsOneUptoRow.holds Try.pinned (OpenSpec.upto fnPlanStartsOneSpec)

/-- 'laws.FnEndTime', WHERE WHAT IT READS IS OF BULK AT MOST 1048576: true; the input reads as it did. -/
def fnEndTimeUptoRow : OpenClaim := { program := "ytnbgekbfccejdaa", sum := "8d4886e2b3b1dabc3fe2a17ec5132fac49d8d9747dbf00eca694e18e63724ee4", func := "loop.example/buildscheduler/laws.FnEndTime", spec := "fnEndTime", apart := false, narrowed := true }
def FnEndTimeUptoSaid : Prop := fnEndTimeUptoRow.holds Try.pinned (OpenSpec.upto fnEndTimeSpec)

/-- 'laws.FnEndTimeLeast', WHERE WHAT IT READS IS OF BULK AT MOST 1048576: true; the input reads as it did. -/
def fnEndTimeLeastUptoRow : OpenClaim := { program := "ytnbgekbfccejdaa", sum := "8d4886e2b3b1dabc3fe2a17ec5132fac49d8d9747dbf00eca694e18e63724ee4", func := "loop.example/buildscheduler/laws.FnEndTimeLeast", spec := "fnEndTimeLeast", apart := false, narrowed := true }
def FnEndTimeLeastUptoSaid : Prop := fnEndTimeLeastUptoRow.holds Try.pinned (OpenSpec.upto fnEndTimeLeastSpec)

/-- 'laws.FnRunningAt', WHERE WHAT IT READS IS OF BULK AT MOST 1048576: true; the input reads as it did. -/
def fnRunningAtUptoRow : OpenClaim := { program := "ytnbgekbfccejdaa", sum := "8d4886e2b3b1dabc3fe2a17ec5132fac49d8d9747dbf00eca694e18e63724ee4", func := "loop.example/buildscheduler/laws.FnRunningAt", spec := "fnRunningAt", apart := false, narrowed := true }
def FnRunningAtUptoSaid : Prop := fnRunningAtUptoRow.holds Try.pinned (OpenSpec.upto fnRunningAtSpec)

/-- 'laws.FnRunningAtTime', WHERE WHAT IT READS IS OF BULK AT MOST 1048576: true; the input reads as it did. -/
def fnRunningAtTimeUptoRow : OpenClaim := { program := "ytnbgekbfccejdaa", sum := "8d4886e2b3b1dabc3fe2a17ec5132fac49d8d9747dbf00eca694e18e63724ee4", func := "loop.example/buildscheduler/laws.FnRunningAtTime", spec := "fnRunningAtTime", apart := false, narrowed := true }
def FnRunningAtTimeUptoSaid : Prop := fnRunningAtTimeUptoRow.holds Try.pinned (OpenSpec.upto fnRunningAtTimeSpec)

/-- 'laws.FnLeastTime', WHERE WHAT IT READS IS OF BULK AT MOST 1048576: true; the input reads as it did. -/
def fnLeastTimeUptoRow : OpenClaim := { program := "ytnbgekbfccejdaa", sum := "8d4886e2b3b1dabc3fe2a17ec5132fac49d8d9747dbf00eca694e18e63724ee4", func := "loop.example/buildscheduler/laws.FnLeastTime", spec := "fnLeastTime", apart := false, narrowed := true }
def FnLeastTimeUptoSaid : Prop := fnLeastTimeUptoRow.holds Try.pinned (OpenSpec.upto fnLeastTimeSpec)

/-- 'laws.FnLeastTimeMore', WHERE WHAT IT READS IS OF BULK AT MOST 1048576: true; the input reads as it did. -/
def fnLeastTimeMoreUptoRow : OpenClaim := { program := "ytnbgekbfccejdaa", sum := "8d4886e2b3b1dabc3fe2a17ec5132fac49d8d9747dbf00eca694e18e63724ee4", func := "loop.example/buildscheduler/laws.FnLeastTimeMore", spec := "fnLeastTimeMore", apart := false, narrowed := true }
def FnLeastTimeMoreUptoSaid : Prop := fnLeastTimeMoreUptoRow.holds Try.pinned (OpenSpec.upto fnLeastTimeMoreSpec)

end Rows
end Go.Proofs.Ytnbgekbfccejdaa
