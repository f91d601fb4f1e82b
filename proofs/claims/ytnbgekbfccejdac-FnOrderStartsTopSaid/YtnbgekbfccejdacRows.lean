/-
  No cell of these rows narrows 'for every input' (looked for: loops, veiled, ifaces, maps, wideKeys, modest, calm, conditions, laid).
  DERIVED. THE GIVEN ROWS OF THIS SEAT. 8 by the template 'for every input the law returns true; each argument reads behind the call as it read before'; 0 by the template 'total and deterministic' (their statements: YtnbgekbfccejdacTotals.lean).
  GIVEN WITH THE SEED: the statements are not yours to turn. If you find one false, say at which input.
  Laid BY PROGRAM, IN A SANDBOX (cutbox-rows.mjs): the forced cells as the released guide's own fill.sh prints them over the translation 7e4716fe3668d6c7… (all of the seat's roots in one cut). By AI agents, Wed Nov 11 2026. No macro, syntax, notation, axiom, sorry.
-/
import Derived.Test.YtnbgekbfccejdacChecked
import GoSem.Claim
import GoSem.ClaimJoined
import GoSem.ClaimMapViews
import Derived.JoinedTies
import Derived.KernelRfl
namespace Go.Proofs.Ytnbgekbfccejdac
/- THE CELL 'sum', in the pinned program and in every row, IS THE sha256 OF THE DUMP (.gsa) THAT YtnbgekbfccejdacProg.lean LOADS. Nothing in Lean hashes anything: it is a label: what it is worth is what the hold of that sum in a sandbox is worth. -/
noncomputable def Try.pinned : Pinned := { name := "ytnbgekbfccejdac", sum := "7e4716fe3668d6c785a26f0005a25387e5ebb3af8e0a56329537542fa73371a4", checked := Try.checked }
namespace Rows
def none {H : Type} : Left H := { results := [], args := [] }

/-- 'laws.FnPlanStartsTwice': WHATEVER THE INPUT: true; the input reads as it did. -/
def fnPlanStartsTwiceSpec : ChangeSpec := { name := "fnPlanStartsTwice", fn := fun _ => fun
  | [d] => { results := [.lit (.bool true)], args := [d] }
  | _ => none }
def fnPlanStartsTwiceRow : OpenClaim := { program := "ytnbgekbfccejdac", sum := "7e4716fe3668d6c785a26f0005a25387e5ebb3af8e0a56329537542fa73371a4", func := "loop.example/buildscheduler/laws.FnPlanStartsTwice", spec := "fnPlanStartsTwice", apart := false }
def FnPlanStartsTwiceSaid : Prop := fnPlanStartsTwiceRow.holds Try.pinned (OpenSpec.ofChange fnPlanStartsTwiceSpec)

/-- ITS FALSE NEIGHBOUR: 'it returns false'. Refute it at one input. -/
def fnPlanStartsTwiceWrong : ChangeSpec := { name := "fnPlanStartsTwice", fn := fun _ => fun
  | [d] => { results := [.lit (.bool false)], args := [d] }
  | _ => none }
def FnPlanStartsTwiceWrongFalsely : Prop := fnPlanStartsTwiceRow.holds Try.pinned (OpenSpec.ofChange fnPlanStartsTwiceWrong)

/-- 'laws.FnEndTimeLater': WHATEVER THE INPUT: true; the input reads as it did. -/
def fnEndTimeLaterSpec : ChangeSpec := { name := "fnEndTimeLater", fn := fun _ => fun
  | [d] => { results := [.lit (.bool true)], args := [d] }
  | _ => none }
def fnEndTimeLaterRow : OpenClaim := { program := "ytnbgekbfccejdac", sum := "7e4716fe3668d6c785a26f0005a25387e5ebb3af8e0a56329537542fa73371a4", func := "loop.example/buildscheduler/laws.FnEndTimeLater", spec := "fnEndTimeLater", apart := false }
def FnEndTimeLaterSaid : Prop := fnEndTimeLaterRow.holds Try.pinned (OpenSpec.ofChange fnEndTimeLaterSpec)

/-- ITS FALSE NEIGHBOUR: 'it returns false'. Refute it at one input. -/
def fnEndTimeLaterWrong : ChangeSpec := { name := "fnEndTimeLater", fn := fun _ => fun
  | [d] => { results := [.lit (.bool false)], args := [d] }
  | _ => none }
def FnEndTimeLaterWrongFalsely : Prop := fnEndTimeLaterRow.holds Try.pinned (OpenSpec.ofChange fnEndTimeLaterWrong)

/-- 'laws.FnRunningAtEnd': WHATEVER THE INPUT: true; the input reads as it did. -/
def fnRunningAtEndSpec : ChangeSpec := { name := "fnRunningAtEnd", fn := fun _ => fun
  | [d] => { results := [.lit (.bool true)], args := [d] }
  | _ => none }
def fnRunningAtEndRow : OpenClaim := { program := "ytnbgekbfccejdac", sum := "7e4716fe3668d6c785a26f0005a25387e5ebb3af8e0a56329537542fa73371a4", func := "loop.example/buildscheduler/laws.FnRunningAtEnd", spec := "fnRunningAtEnd", apart := false }
def FnRunningAtEndSaid : Prop := fnRunningAtEndRow.holds Try.pinned (OpenSpec.ofChange fnRunningAtEndSpec)

/-- ITS FALSE NEIGHBOUR: 'it returns false'. Refute it at one input. -/
def fnRunningAtEndWrong : ChangeSpec := { name := "fnRunningAtEnd", fn := fun _ => fun
  | [d] => { results := [.lit (.bool false)], args := [d] }
  | _ => none }
def FnRunningAtEndWrongFalsely : Prop := fnRunningAtEndRow.holds Try.pinned (OpenSpec.ofChange fnRunningAtEndWrong)

/-- 'laws.FnLeastTimeFree': WHATEVER THE INPUT: true; the input reads as it did. -/
def fnLeastTimeFreeSpec : ChangeSpec := { name := "fnLeastTimeFree", fn := fun _ => fun
  | [d] => { results := [.lit (.bool true)], args := [d] }
  | _ => none }
def fnLeastTimeFreeRow : OpenClaim := { program := "ytnbgekbfccejdac", sum := "7e4716fe3668d6c785a26f0005a25387e5ebb3af8e0a56329537542fa73371a4", func := "loop.example/buildscheduler/laws.FnLeastTimeFree", spec := "fnLeastTimeFree", apart := false }
def FnLeastTimeFreeSaid : Prop := fnLeastTimeFreeRow.holds Try.pinned (OpenSpec.ofChange fnLeastTimeFreeSpec)

/-- ITS FALSE NEIGHBOUR: 'it returns false'. Refute it at one input. -/
def fnLeastTimeFreeWrong : ChangeSpec := { name := "fnLeastTimeFree", fn := fun _ => fun
  | [d] => { results := [.lit (.bool false)], args := [d] }
  | _ => none }
def FnLeastTimeFreeWrongFalsely : Prop := fnLeastTimeFreeRow.holds Try.pinned (OpenSpec.ofChange fnLeastTimeFreeWrong)

/-- 'laws.FnOrderStartsTop': WHATEVER THE INPUT: true; the input reads as it did. -/
def fnOrderStartsTopSpec : ChangeSpec := { name := "fnOrderStartsTop", fn := fun _ => fun
  | [d] => { results := [.lit (.bool true)], args := [d] }
  | _ => none }
def fnOrderStartsTopRow : OpenClaim := { program := "ytnbgekbfccejdac", sum := "7e4716fe3668d6c785a26f0005a25387e5ebb3af8e0a56329537542fa73371a4", func := "loop.example/buildscheduler/laws.FnOrderStartsTop", spec := "fnOrderStartsTop", apart := false }
def FnOrderStartsTopSaid : Prop := fnOrderStartsTopRow.holds Try.pinned (OpenSpec.ofChange fnOrderStartsTopSpec)

/-- ITS FALSE NEIGHBOUR: 'it returns false'. Refute it at one input. -/
def fnOrderStartsTopWrong : ChangeSpec := { name := "fnOrderStartsTop", fn := fun _ => fun
  | [d] => { results := [.lit (.bool false)], args := [d] }
  | _ => none }
def FnOrderStartsTopWrongFalsely : Prop := fnOrderStartsTopRow.holds Try.pinned (OpenSpec.ofChange fnOrderStartsTopWrong)

/-- 'laws.FnOrderStartsPlan': WHATEVER THE INPUT: true; the input reads as it did. -/
def fnOrderStartsPlanSpec : ChangeSpec := { name := "fnOrderStartsPlan", fn := fun _ => fun
  | [d] => { results := [.lit (.bool true)], args := [d] }
  | _ => none }
def fnOrderStartsPlanRow : OpenClaim := { program := "ytnbgekbfccejdac", sum := "7e4716fe3668d6c785a26f0005a25387e5ebb3af8e0a56329537542fa73371a4", func := "loop.example/buildscheduler/laws.FnOrderStartsPlan", spec := "fnOrderStartsPlan", apart := false }
def FnOrderStartsPlanSaid : Prop := fnOrderStartsPlanRow.holds Try.pinned (OpenSpec.ofChange fnOrderStartsPlanSpec)

/-- ITS FALSE NEIGHBOUR: 'it returns false'. Refute it at one input. -/
def fnOrderStartsPlanWrong : ChangeSpec := { name := "fnOrderStartsPlan", fn := fun _ => fun
  | [d] => { results := [.lit (.bool false)], args := [d] }
  | _ => none }
def FnOrderStartsPlanWrongFalsely : Prop := fnOrderStartsPlanRow.holds Try.pinned (OpenSpec.ofChange fnOrderStartsPlanWrong)

/-- 'laws.FnBestOrderLeast': WHATEVER THE INPUT: true; the input reads as it did. -/
def fnBestOrderLeastSpec : ChangeSpec := { name := "fnBestOrderLeast", fn := fun _ => fun
  | [d] => { results := [.lit (.bool true)], args := [d] }
  | _ => none }
def fnBestOrderLeastRow : OpenClaim := { program := "ytnbgekbfccejdac", sum := "7e4716fe3668d6c785a26f0005a25387e5ebb3af8e0a56329537542fa73371a4", func := "loop.example/buildscheduler/laws.FnBestOrderLeast", spec := "fnBestOrderLeast", recurses := true, apart := false }
def FnBestOrderLeastSaid : Prop := fnBestOrderLeastRow.holds Try.pinned (OpenSpec.ofChange fnBestOrderLeastSpec)

/-- ITS FALSE NEIGHBOUR: 'it returns false'. Refute it at one input. -/
def fnBestOrderLeastWrong : ChangeSpec := { name := "fnBestOrderLeast", fn := fun _ => fun
  | [d] => { results := [.lit (.bool false)], args := [d] }
  | _ => none }
def FnBestOrderLeastWrongFalsely : Prop := fnBestOrderLeastRow.holds Try.pinned (OpenSpec.ofChange fnBestOrderLeastWrong)

/-- 'laws.FnBestTimeLess': WHATEVER THE INPUT: true; the input reads as it did. -/
def fnBestTimeLessSpec : ChangeSpec := { name := "fnBestTimeLess", fn := fun _ => fun
  | [d] => { results := [.lit (.bool true)], args := [d] }
  | _ => none }
def fnBestTimeLessRow : OpenClaim := { program := "ytnbgekbfccejdac", sum := "7e4716fe3668d6c785a26f0005a25387e5ebb3af8e0a56329537542fa73371a4", func := "loop.example/buildscheduler/laws.FnBestTimeLess", spec := "fnBestTimeLess", recurses := true, apart := false }
def FnBestTimeLessSaid : Prop := fnBestTimeLessRow.holds Try.pinned (OpenSpec.ofChange fnBestTimeLessSpec)

/-- ITS FALSE NEIGHBOUR: 'it returns false'. Refute it at one input. -/
def fnBestTimeLessWrong : ChangeSpec := { name := "fnBestTimeLess", fn := fun _ => fun
  | [d] => { results := [.lit (.bool false)], args := [d] }
  | _ => none }
def FnBestTimeLessWrongFalsely : Prop := fnBestTimeLessRow.holds Try.pinned (OpenSpec.ofChange fnBestTimeLessWrong)

/- THE SECOND FORM. 'bulk': how many values and letters a reading holds, each counted each time it is reached (what is shared counts as often as it is met; a slice's spare places count too). A statement '..UptoSaid' is the law's where the arguments, and the package variables that the reading takes, are together of bulk at most 1048576: NARROWER than '..Said'. Prove '..Said' where nothing that the law and all that it calls make is longer than what came in: it says more and counts as full. Else prove '..UptoSaid'. A law counts once. -/
mutual
def uptoBulk {H : Type} : DataW H → Nat
  | .lit (.string bytes) => bytes.length + 1
  | .lit _ => 1
  | .nil => 1
  | .ptr d => uptoBulk d + 1
  | .slice elems spare => uptoBulkAll elems + uptoBulkAll spare + 1
  | .agg parts => uptoBulkAll parts + 1
  | .iface _ d => uptoBulk d + 1
  | .map entries => uptoBulkEntries entries + 1
  | .held _ => 1
def uptoBulkAll {H : Type} : List (DataW H) → Nat
  | [] => 0
  | d :: r => uptoBulk d + uptoBulkAll r
def uptoBulkEntries {H : Type} : List (Lit × DataW H) → Nat
  | [] => 0
  | x :: r => uptoBulkEntry x + uptoBulkEntries r
def uptoBulkEntry {H : Type} : Lit × DataW H → Nat
  | (.string bytes, d) => bytes.length + uptoBulk d + 1
  | (_, d) => uptoBulk d + 1
 end
def uptoSmall : (H : Type) → List (DataW H) → Bool := fun _ ds => decide (uptoBulkAll ds ≤ 1048576)
def OpenSpec.upto (s : _root_.Go.ChangeSpec) : _root_.Go.OpenSpec := { _root_.Go.OpenSpec.ofChange s with cond := some uptoSmall }

/-- 'laws.FnPlanStartsTwice', WHERE WHAT IT READS IS OF BULK AT MOST 1048576: true; the input reads as it did. -/
def fnPlanStartsTwiceUptoRow : OpenClaim := { program := "ytnbgekbfccejdac", sum := "7e4716fe3668d6c785a26f0005a25387e5ebb3af8e0a56329537542fa73371a4", func := "loop.example/buildscheduler/laws.FnPlanStartsTwice", spec := "fnPlanStartsTwice", apart := false, narrowed := true }
def FnPlanStartsTwiceUptoSaid : Prop := fnPlanStartsTwiceUptoRow.holds Try.pinned (OpenSpec.upto fnPlanStartsTwiceSpec)

/-- 'laws.FnEndTimeLater', WHERE WHAT IT READS IS OF BULK AT MOST 1048576: true; the input reads as it did. -/
def fnEndTimeLaterUptoRow : OpenClaim := { program := "ytnbgekbfccejdac", sum := "7e4716fe3668d6c785a26f0005a25387e5ebb3af8e0a56329537542fa73371a4", func := "loop.example/buildscheduler/laws.FnEndTimeLater", spec := "fnEndTimeLater", apart := false, narrowed := true }
def FnEndTimeLaterUptoSaid : Prop := fnEndTimeLaterUptoRow.holds Try.pinned (OpenSpec.upto fnEndTimeLaterSpec)

/-- 'laws.FnRunningAtEnd', WHERE WHAT IT READS IS OF BULK AT MOST 1048576: true; the input reads as it did. -/
def fnRunningAtEndUptoRow : OpenClaim := { program := "ytnbgekbfccejdac", sum := "7e4716fe3668d6c785a26f0005a25387e5ebb3af8e0a56329537542fa73371a4", func := "loop.example/buildscheduler/laws.FnRunningAtEnd", spec := "fnRunningAtEnd", apart := false, narrowed := true }
def FnRunningAtEndUptoSaid : Prop := fnRunningAtEndUptoRow.holds Try.pinned (OpenSpec.upto fnRunningAtEndSpec)

/-- 'laws.FnLeastTimeFree', WHERE WHAT IT READS IS OF BULK AT MOST 1048576: true; the input reads as it did. -/
def fnLeastTimeFreeUptoRow : OpenClaim := { program := "ytnbgekbfccejdac", sum := "7e4716fe3668d6c785a26f0005a25387e5ebb3af8e0a56329537542fa73371a4", func := "loop.example/buildscheduler/laws.FnLeastTimeFree", spec := "fnLeastTimeFree", apart := false, narrowed := true }
def FnLeastTimeFreeUptoSaid : Prop := fnLeastTimeFreeUptoRow.holds Try.pinned (OpenSpec.upto fnLeastTimeFreeSpec)

/-- 'laws.FnOrderStartsTop', WHERE WHAT IT READS IS OF BULK AT MOST 1048576: true; the input reads as it did. -/
def fnOrderStartsTopUptoRow : OpenClaim := { program := "ytnbgekbfccejdac", sum := "7e4716fe3668d6c785a26f0005a25387e5ebb3af8e0a56329537542fa73371a4", func := "loop.example/buildscheduler/laws.FnOrderStartsTop", spec := "fnOrderStartsTop", apart := false, narrowed := true }
def FnOrderStartsTopUptoSaid : Prop := fnOrderStartsTopUptoRow.holds Try.pinned (OpenSpec.upto fnOrderStartsTopSpec)

/-- 'laws.FnOrderStartsPlan', WHERE WHAT IT READS IS OF BULK AT MOST 1048576: true; the input reads as it did. -/
def fnOrderStartsPlanUptoRow : OpenClaim := { program := "ytnbgekbfccejdac", sum := "7e4716fe3668d6c785a26f0005a25387e5ebb3af8e0a56329537542fa73371a4", func := "loop.example/buildscheduler/laws.FnOrderStartsPlan", spec := "fnOrderStartsPlan", apart := false, narrowed := true }
def FnOrderStartsPlanUptoSaid : Prop := fnOrderStartsPlanUptoRow.holds Try.pinned (OpenSpec.upto fnOrderStartsPlanSpec)

/-- 'laws.FnBestOrderLeast', WHERE WHAT IT READS IS OF BULK AT MOST 1048576: true; the input reads as it did. -/
def fnBestOrderLeastUptoRow : OpenClaim := { program := "ytnbgekbfccejdac", sum := "7e4716fe3668d6c785a26f0005a25387e5ebb3af8e0a56329537542fa73371a4", func := "loop.example/buildscheduler/laws.FnBestOrderLeast", spec := "fnBestOrderLeast", recurses := true, apart := false, narrowed := true }
def FnBestOrderLeastUptoSaid : Prop := fnBestOrderLeastUptoRow.holds Try.pinned (OpenSpec.upto fnBestOrderLeastSpec)

/-- 'laws.FnBestTimeLess', WHERE WHAT IT READS IS OF BULK AT MOST 1048576: true; the input reads as it did. -/
def fnBestTimeLessUptoRow : OpenClaim := { program := "ytnbgekbfccejdac", sum := "7e4716fe3668d6c785a26f0005a25387e5ebb3af8e0a56329537542fa73371a4", func := "loop.example/buildscheduler/laws.FnBestTimeLess", spec := "fnBestTimeLess", recurses := true, apart := false, narrowed := true }
def FnBestTimeLessUptoSaid : Prop := fnBestTimeLessUptoRow.holds Try.pinned (OpenSpec.upto fnBestTimeLessSpec)

end Rows
end Go.Proofs.Ytnbgekbfccejdac
