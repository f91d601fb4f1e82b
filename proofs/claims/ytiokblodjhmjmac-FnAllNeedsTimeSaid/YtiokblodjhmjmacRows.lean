/-
  No cell of these rows narrows 'for every input' (looked for: loops, veiled, ifaces, maps, wideKeys, modest, calm, conditions, laid).
  DERIVED. THE GIVEN ROWS OF THIS SEAT. 3 by the template 'for every input the law returns true; each argument reads behind the call as it read before'; 0 by the template 'total and deterministic' (their statements: YtiokblodjhmjmacTotals.lean).
  GIVEN WITH THE SEED: the statements are not yours to turn. If you find one false, say at which input.
  Laid BY PROGRAM, IN A SANDBOX (cutbox-rows.mjs): the forced cells as the released guide's own fill.sh prints them over the translation b5dac6887d962826… (all of the seat's roots in one cut). By AI agents, Wed Nov 11 2026. No macro, syntax, notation, axiom, sorry.
-/
import Derived.Test.YtiokblodjhmjmacChecked
import GoSem.Claim
import GoSem.ClaimJoined
import GoSem.ClaimMapViews
import Derived.JoinedTies
import Derived.KernelRfl
namespace Go.Proofs.Ytiokblodjhmjmac
/- THE CELL 'sum', in the pinned program and in every row, IS THE sha256 OF THE DUMP (.gsa) THAT YtiokblodjhmjmacProg.lean LOADS. Nothing in Lean hashes anything: it is a label: what it is worth is what the hold of that sum in a sandbox is worth. -/
noncomputable def Try.pinned : Pinned := { name := "ytiokblodjhmjmac", sum := "b5dac6887d962826d19aa2a3e97fcc5e69c3c139f18f16cfcd129914a6231c92", checked := Try.checked }
namespace Rows
def none {H : Type} : Left H := { results := [], args := [] }

/-- 'laws.FnSlackTimesZero': WHATEVER THE INPUT: true; the input reads as it did. -/
def fnSlackTimesZeroSpec : ChangeSpec := { name := "fnSlackTimesZero", fn := fun _ => fun
  | [d] => { results := [.lit (.bool true)], args := [d] }
  | _ => none }
def fnSlackTimesZeroRow : OpenClaim := { program := "ytiokblodjhmjmac", sum := "b5dac6887d962826d19aa2a3e97fcc5e69c3c139f18f16cfcd129914a6231c92", func := "loop.example/buildscheduler/laws.FnSlackTimesZero", spec := "fnSlackTimesZero", apart := false }
def FnSlackTimesZeroSaid : Prop := fnSlackTimesZeroRow.holds Try.pinned (OpenSpec.ofChange fnSlackTimesZeroSpec)

/-- ITS FALSE NEIGHBOUR: 'it returns false'. Refute it at one input. -/
def fnSlackTimesZeroWrong : ChangeSpec := { name := "fnSlackTimesZero", fn := fun _ => fun
  | [d] => { results := [.lit (.bool false)], args := [d] }
  | _ => none }
def FnSlackTimesZeroWrongFalsely : Prop := fnSlackTimesZeroRow.holds Try.pinned (OpenSpec.ofChange fnSlackTimesZeroWrong)

/-- 'laws.FnTopOrderBegin': WHATEVER THE INPUT: true; the input reads as it did. -/
def fnTopOrderBeginSpec : ChangeSpec := { name := "fnTopOrderBegin", fn := fun _ => fun
  | [d] => { results := [.lit (.bool true)], args := [d] }
  | _ => none }
def fnTopOrderBeginRow : OpenClaim := { program := "ytiokblodjhmjmac", sum := "b5dac6887d962826d19aa2a3e97fcc5e69c3c139f18f16cfcd129914a6231c92", func := "loop.example/buildscheduler/laws.FnTopOrderBegin", spec := "fnTopOrderBegin", apart := false }
def FnTopOrderBeginSaid : Prop := fnTopOrderBeginRow.holds Try.pinned (OpenSpec.ofChange fnTopOrderBeginSpec)

/-- ITS FALSE NEIGHBOUR: 'it returns false'. Refute it at one input. -/
def fnTopOrderBeginWrong : ChangeSpec := { name := "fnTopOrderBegin", fn := fun _ => fun
  | [d] => { results := [.lit (.bool false)], args := [d] }
  | _ => none }
def FnTopOrderBeginWrongFalsely : Prop := fnTopOrderBeginRow.holds Try.pinned (OpenSpec.ofChange fnTopOrderBeginWrong)

/-- 'laws.FnAllNeedsTime': WHATEVER THE INPUT: true; the input reads as it did. -/
def fnAllNeedsTimeSpec : ChangeSpec := { name := "fnAllNeedsTime", fn := fun _ => fun
  | [d] => { results := [.lit (.bool true)], args := [d] }
  | _ => none }
def fnAllNeedsTimeRow : OpenClaim := { program := "ytiokblodjhmjmac", sum := "b5dac6887d962826d19aa2a3e97fcc5e69c3c139f18f16cfcd129914a6231c92", func := "loop.example/buildscheduler/laws.FnAllNeedsTime", spec := "fnAllNeedsTime", apart := false }
def FnAllNeedsTimeSaid : Prop := fnAllNeedsTimeRow.holds Try.pinned (OpenSpec.ofChange fnAllNeedsTimeSpec)

/-- ITS FALSE NEIGHBOUR: 'it returns false'. Refute it at one input. -/
def fnAllNeedsTimeWrong : ChangeSpec := { name := "fnAllNeedsTime", fn := fun _ => fun
  | [d] => { results := [.lit (.bool false)], args := [d] }
  | _ => none }
def FnAllNeedsTimeWrongFalsely : Prop := fnAllNeedsTimeRow.holds Try.pinned (OpenSpec.ofChange fnAllNeedsTimeWrong)

/- THE SECOND FORM. 'bulk': how many values and letters a reading holds, each counted each time it is reached (what is shared counts as often as it is met; a slice's spare places count too). A statement '..UptoSaid' is the law's where the arguments, and the package variables that the reading takes, are together of bulk at most 1048576: NARROWER than '..Said'. Prove '..Said' where nothing that the law and all that it calls make is longer than what came in: it says more and counts as full. Else prove '..UptoSaid'. A law counts once. -/
mutual
def uptoBulk {H : Type} : DataW H → Nat
  | .lit (.string bytes) => bytes.length + 1
  | .lit _ => 1
  | .nil => 1
  | .ptr d => uptoBulk d + 1
  | .slice elems spare => uptoBulkAll elems + uptoBulkAll spare + 1
  | .agg parts => uptoBulkAll parts + 1
  | .iface _ d => uptoBulk d + 1
  | .map entries => uptoBulkEntries entries + 1
  | .held _ => 1
def uptoBulkAll {H : Type} : List (DataW H) → Nat
  | [] => 0
  | d :: r => uptoBulk d + uptoBulkAll r
def uptoBulkEntries {H : Type} : List (Lit × DataW H) → Nat
  | [] => 0
  | x :: r => uptoBulkEntry x + uptoBulkEntries r
def uptoBulkEntry {H : Type} : Lit × DataW H → Nat
  | (.string bytes, d) => bytes.length + uptoBulk d + 1
  | (_, d) => uptoBulk d + 1
 end
def uptoSmall : (H : Type) → List (DataW H) → Bool := fun _ ds => decide (uptoBulkAll ds ≤ 1048576)
def OpenSpec.upto (s : _root_.Go.ChangeSpec) : _root_.Go.OpenSpec := { _root_.Go.OpenSpec.ofChange s with cond := some uptoSmall }

/-- 'laws.FnSlackTimesZero', WHERE WHAT IT READS IS OF BULK AT MOST 1048576: true; the input reads as it did. -/
def fnSlackTimesZeroUptoRow : OpenClaim := { program := "ytiokblodjhmjmac", sum := "b5dac6887d962826d19aa2a3e97fcc5e69c3c139f18f16cfcd129914a6231c92", func := "loop.example/buildscheduler/laws.FnSlackTimesZero", spec := "fnSlackTimesZero", apart := false, narrowed := true }
def FnSlackTimesZeroUptoSaid : Prop := fnSlackTimesZeroUptoRow.holds Try.pinned (OpenSpec.upto fnSlackTimesZeroSpec)

/-- 'laws.FnTopOrderBegin', WHERE WHAT IT READS IS OF BULK AT MOST 1048576: true; the input reads as it did. -/
def fnTopOrderBeginUptoRow : OpenClaim := { program := "ytiokblodjhmjmac", sum := "b5dac6887d962826d19aa2a3e97fcc5e69c3c139f18f16cfcd129914a6231c92", func := "loop.example/buildscheduler/laws.FnTopOrderBegin", spec := "fnTopOrderBegin", apart := false, narrowed := true }
def FnTopOrderBeginUptoSaid : Prop := fnTopOrderBeginUptoRow.holds Try.pinned (OpenSpec.upto fnTopOrderBeginSpec)

/-- 'laws.FnAllNeedsTime', WHERE WHAT IT READS IS OF BULK AT MOST 1048576: true; the input reads as it did. -/
def fnAllNeedsTimeUptoRow : OpenClaim := { program := "ytiokblodjhmjmac", sum := "b5dac6887d962826d19aa2a3e97fcc5e69c3c139f18f16cfcd129914a6231c92", func := "loop.example/buildscheduler/laws.FnAllNeedsTime", spec := "fnAllNeedsTime", apart := false, narrowed := true }
def FnAllNeedsTimeUptoSaid : Prop := fnAllNeedsTimeUptoRow.holds Try.pinned (OpenSpec.upto fnAllNeedsTimeSpec)

end Rows
end Go.Proofs.Ytiokblodjhmjmac
