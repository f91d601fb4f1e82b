/-
  No cell of these rows narrows 'for every input' (looked for: loops, veiled, ifaces, maps, wideKeys, modest, calm, conditions, laid).
  DERIVED. THE GIVEN ROWS OF THIS SEAT. 9 by the template 'for every input the law returns true; each argument reads behind the call as it read before'; 0 by the template 'total and deterministic' (their statements: YtoggbndpjcfmiaaTotals.lean).
  GIVEN WITH THE SEED: the statements are not yours to turn. If you find one false, say at which input.
  Laid BY PROGRAM, IN A SANDBOX (cutbox-rows.mjs): the forced cells as the released guide's own fill.sh prints them over the translation d9875d416db79713… (all of the seat's roots in one cut). By AI agents, Wed Nov 11 2026. No macro, syntax, notation, axiom, sorry.
-/
import Derived.Test.YtoggbndpjcfmiaaChecked
import GoSem.Claim
import GoSem.ClaimJoined
import GoSem.ClaimMapViews
import Derived.JoinedTies
import Derived.KernelRfl
namespace Go.Proofs.Ytoggbndpjcfmiaa
/- THE CELL 'sum', in the pinned program and in every row, IS THE sha256 OF THE DUMP (.gsa) THAT YtoggbndpjcfmiaaProg.lean LOADS. Nothing in Lean hashes anything: it is a label: what it is worth is what the hold of that sum in a sandbox is worth. -/
noncomputable def Try.pinned : Pinned := { name := "ytoggbndpjcfmiaa", sum := "d9875d416db79713e3b835315b3973eb35736c8a42f32ae0ecae2fd410b17bcf", checked := Try.checked }
namespace Rows
def none {H : Type} : Left H := { results := [], args := [] }

/-- 'laws.FnDelayOf': WHATEVER THE INPUT: true; the input reads as it did. -/
def fnDelayOfSpec : ChangeSpec := { name := "fnDelayOf", fn := fun _ => fun
  | [d] => { results := [.lit (.bool true)], args := [d] }
  | _ => none }
def fnDelayOfRow : OpenClaim := { program := "ytoggbndpjcfmiaa", sum := "d9875d416db79713e3b835315b3973eb35736c8a42f32ae0ecae2fd410b17bcf", func := "loop.example/buildscheduler/laws.FnDelayOf", spec := "fnDelayOf", apart := false }
def FnDelayOfSaid : Prop := fnDelayOfRow.holds Try.pinned (OpenSpec.ofChange fnDelayOfSpec)

/-- ITS FALSE NEIGHBOUR: 'it returns false'. Refute it at one input. -/
def fnDelayOfWrong : ChangeSpec := { name := "fnDelayOf", fn := fun _ => fun
  | [d] => { results := [.lit (.bool false)], args := [d] }
  | _ => none }
def FnDelayOfWrongFalsely : Prop := fnDelayOfRow.holds Try.pinned (OpenSpec.ofChange fnDelayOfWrong)

/-- 'laws.FnTryTask': WHATEVER THE INPUT: true; the input reads as it did. -/
def fnTryTaskSpec : ChangeSpec := { name := "fnTryTask", fn := fun _ => fun
  | [d] => { results := [.lit (.bool true)], args := [d] }
  | _ => none }
def fnTryTaskRow : OpenClaim := { program := "ytoggbndpjcfmiaa", sum := "d9875d416db79713e3b835315b3973eb35736c8a42f32ae0ecae2fd410b17bcf", func := "loop.example/buildscheduler/laws.FnTryTask", spec := "fnTryTask", apart := false }
def FnTryTaskSaid : Prop := fnTryTaskRow.holds Try.pinned (OpenSpec.ofChange fnTryTaskSpec)

/-- ITS FALSE NEIGHBOUR: 'it returns false'. Refute it at one input. -/
def fnTryTaskWrong : ChangeSpec := { name := "fnTryTask", fn := fun _ => fun
  | [d] => { results := [.lit (.bool false)], args := [d] }
  | _ => none }
def FnTryTaskWrongFalsely : Prop := fnTryTaskRow.holds Try.pinned (OpenSpec.ofChange fnTryTaskWrong)

/-- 'laws.FnTryTaskMore': WHATEVER THE INPUT: true; the input reads as it did. -/
def fnTryTaskMoreSpec : ChangeSpec := { name := "fnTryTaskMore", fn := fun _ => fun
  | [d] => { results := [.lit (.bool true)], args := [d] }
  | _ => none }
def fnTryTaskMoreRow : OpenClaim := { program := "ytoggbndpjcfmiaa", sum := "d9875d416db79713e3b835315b3973eb35736c8a42f32ae0ecae2fd410b17bcf", func := "loop.example/buildscheduler/laws.FnTryTaskMore", spec := "fnTryTaskMore", apart := false }
def FnTryTaskMoreSaid : Prop := fnTryTaskMoreRow.holds Try.pinned (OpenSpec.ofChange fnTryTaskMoreSpec)

/-- ITS FALSE NEIGHBOUR: 'it returns false'. Refute it at one input. -/
def fnTryTaskMoreWrong : ChangeSpec := { name := "fnTryTaskMore", fn := fun _ => fun
  | [d] => { results := [.lit (.bool false)], args := [d] }
  | _ => none }
def FnTryTaskMoreWrongFalsely : Prop := fnTryTaskMoreRow.holds Try.pinned (OpenSpec.ofChange fnTryTaskMoreWrong)

/-- 'laws.FnTryTime': WHATEVER THE INPUT: true; the input reads as it did. -/
def fnTryTimeSpec : ChangeSpec := { name := "fnTryTime", fn := fun _ => fun
  | [d] => { results := [.lit (.bool true)], args := [d] }
  | _ => none }
def fnTryTimeRow : OpenClaim := { program := "ytoggbndpjcfmiaa", sum := "d9875d416db79713e3b835315b3973eb35736c8a42f32ae0ecae2fd410b17bcf", func := "loop.example/buildscheduler/laws.FnTryTime", spec := "fnTryTime", apart := false }
def FnTryTimeSaid : Prop := fnTryTimeRow.holds Try.pinned (OpenSpec.ofChange fnTryTimeSpec)

/-- ITS FALSE NEIGHBOUR: 'it returns false'. Refute it at one input. -/
def fnTryTimeWrong : ChangeSpec := { name := "fnTryTime", fn := fun _ => fun
  | [d] => { results := [.lit (.bool false)], args := [d] }
  | _ => none }
def FnTryTimeWrongFalsely : Prop := fnTryTimeRow.holds Try.pinned (OpenSpec.ofChange fnTryTimeWrong)

/-- 'laws.FnIsFlaky': WHATEVER THE INPUT: true; the input reads as it did. -/
def fnIsFlakySpec : ChangeSpec := { name := "fnIsFlaky", fn := fun _ => fun
  | [d] => { results := [.lit (.bool true)], args := [d] }
  | _ => none }
def fnIsFlakyRow : OpenClaim := { program := "ytoggbndpjcfmiaa", sum := "d9875d416db79713e3b835315b3973eb35736c8a42f32ae0ecae2fd410b17bcf", func := "loop.example/buildscheduler/laws.FnIsFlaky", spec := "fnIsFlaky", apart := false }
def FnIsFlakySaid : Prop := fnIsFlakyRow.holds Try.pinned (OpenSpec.ofChange fnIsFlakySpec)

/-- ITS FALSE NEIGHBOUR: 'it returns false'. Refute it at one input. -/
def fnIsFlakyWrong : ChangeSpec := { name := "fnIsFlaky", fn := fun _ => fun
  | [d] => { results := [.lit (.bool false)], args := [d] }
  | _ => none }
def FnIsFlakyWrongFalsely : Prop := fnIsFlakyRow.holds Try.pinned (OpenSpec.ofChange fnIsFlakyWrong)

/-- 'laws.FnDelayOfBound': WHATEVER THE INPUT: true; the input reads as it did. -/
def fnDelayOfBoundSpec : ChangeSpec := { name := "fnDelayOfBound", fn := fun _ => fun
  | [d] => { results := [.lit (.bool true)], args := [d] }
  | _ => none }
def fnDelayOfBoundRow : OpenClaim := { program := "ytoggbndpjcfmiaa", sum := "d9875d416db79713e3b835315b3973eb35736c8a42f32ae0ecae2fd410b17bcf", func := "loop.example/buildscheduler/laws.FnDelayOfBound", spec := "fnDelayOfBound", apart := false }
def FnDelayOfBoundSaid : Prop := fnDelayOfBoundRow.holds Try.pinned (OpenSpec.ofChange fnDelayOfBoundSpec)

/-- ITS FALSE NEIGHBOUR: 'it returns false'. Refute it at one input. -/
def fnDelayOfBoundWrong : ChangeSpec := { name := "fnDelayOfBound", fn := fun _ => fun
  | [d] => { results := [.lit (.bool false)], args := [d] }
  | _ => none }
def FnDelayOfBoundWrongFalsely : Prop := fnDelayOfBoundRow.holds Try.pinned (OpenSpec.ofChange fnDelayOfBoundWrong)

/-- 'laws.FnTryTaskFirst': WHATEVER THE INPUT: true; the input reads as it did. -/
def fnTryTaskFirstSpec : ChangeSpec := { name := "fnTryTaskFirst", fn := fun _ => fun
  | [d] => { results := [.lit (.bool true)], args := [d] }
  | _ => none }
def fnTryTaskFirstRow : OpenClaim := { program := "ytoggbndpjcfmiaa", sum := "d9875d416db79713e3b835315b3973eb35736c8a42f32ae0ecae2fd410b17bcf", func := "loop.example/buildscheduler/laws.FnTryTaskFirst", spec := "fnTryTaskFirst", apart := false }
def FnTryTaskFirstSaid : Prop := fnTryTaskFirstRow.holds Try.pinned (OpenSpec.ofChange fnTryTaskFirstSpec)

/-- ITS FALSE NEIGHBOUR: 'it returns false'. Refute it at one input. -/
def fnTryTaskFirstWrong : ChangeSpec := { name := "fnTryTaskFirst", fn := fun _ => fun
  | [d] => { results := [.lit (.bool false)], args := [d] }
  | _ => none }
def FnTryTaskFirstWrongFalsely : Prop := fnTryTaskFirstRow.holds Try.pinned (OpenSpec.ofChange fnTryTaskFirstWrong)

/-- 'laws.FnTryTimeMore': WHATEVER THE INPUT: true; the input reads as it did. -/
def fnTryTimeMoreSpec : ChangeSpec := { name := "fnTryTimeMore", fn := fun _ => fun
  | [d] => { results := [.lit (.bool true)], args := [d] }
  | _ => none }
def fnTryTimeMoreRow : OpenClaim := { program := "ytoggbndpjcfmiaa", sum := "d9875d416db79713e3b835315b3973eb35736c8a42f32ae0ecae2fd410b17bcf", func := "loop.example/buildscheduler/laws.FnTryTimeMore", spec := "fnTryTimeMore", apart := false }
def FnTryTimeMoreSaid : Prop := fnTryTimeMoreRow.holds Try.pinned (OpenSpec.ofChange fnTryTimeMoreSpec)

/-- ITS FALSE NEIGHBOUR: 'it returns false'. Refute it at one input. -/
def fnTryTimeMoreWrong : ChangeSpec := { name := "fnTryTimeMore", fn := fun _ => fun
  | [d] => { results := [.lit (.bool false)], args := [d] }
  | _ => none }
def FnTryTimeMoreWrongFalsely : Prop := fnTryTimeMoreRow.holds Try.pinned (OpenSpec.ofChange fnTryTimeMoreWrong)

/-- 'laws.FnOutcomes': WHATEVER THE INPUT: true; the input reads as it did. -/
def fnOutcomesSpec : ChangeSpec := { name := "fnOutcomes", fn := fun _ => fun
  | [d] => { results := [.lit (.bool true)], args := [d] }
  | _ => none }
def fnOutcomesRow : OpenClaim := { program := "ytoggbndpjcfmiaa", sum := "d9875d416db79713e3b835315b3973eb35736c8a42f32ae0ecae2fd410b17bcf", func := "loop.example/buildscheduler/laws.FnOutcomes", spec := "fnOutcomes", apart := false }
def FnOutcomesSaid : Prop := fnOutcomesRow.holds Try.pinned (OpenSpec.ofChange fnOutcomesSpec)

/-- ITS FALSE NEIGHBOUR: 'it returns false'. Refute it at one input. -/
def fnOutcomesWrong : ChangeSpec := { name := "fnOutcomes", fn := fun _ => fun
  | [d] => { results := [.lit (.bool false)], args := [d] }
  | _ => none }
def FnOutcomesWrongFalsely : Prop := fnOutcomesRow.holds Try.pinned (OpenSpec.ofChange fnOutcomesWrong)

/- THE SECOND FORM. 'bulk': how many values and letters a reading holds, each counted each time it is reached (what is shared counts as often as it is met; a slice's spare places count too). A statement '..UptoSaid' is the law's where the arguments, and the package variables that the reading takes, are together of bulk at most 1048576: NARROWER than '..Said'. Prove '..Said' where nothing that the law and all that it calls make is longer than what came in: it says more and counts as full. Else prove '..UptoSaid'. A law counts once. -/
mutual
def uptoBulk {H : Type} : DataW H → Nat
  | .lit (.string bytes) => bytes.length + 1
  | .lit _ => 1
  | .nil => 1
  | .ptr d => uptoBulk d + 1
  | .slice elems spare => uptoBulkAll elems + uptoBulkAll spare + 1
  | .agg parts => uptoBulkAll parts + 1
  | .iface _ d => uptoBulk d + 1
  | .map entries => uptoBulkEntries entries + 1
  | .held _ => 1
def uptoBulkAll {H : Type} : List (DataW H) → Nat
  | [] => 0
  | d :: r => uptoBulk d + uptoBulkAll r
def uptoBulkEntries {H : Type} : List (Lit × DataW H) → Nat
  | [] => 0
  | x :: r => uptoBulkEntry x + uptoBulkEntries r
def uptoBulkEntry {H : Type} : Lit × DataW H → Nat
  | (.string bytes, d) => bytes.length + uptoBulk d + 1
  | (_, d) => uptoBulk d + 1
 end
def uptoSmall : (H : Type) → List (DataW H) → Bool := fun _ ds => decide (uptoBulkAll ds ≤ 1048576)
def OpenSpec.upto (s : _root_.Go.ChangeSpec) : _root_.Go.OpenSpec := { _root_.Go.OpenSpec.ofChange s with cond := some uptoSmall }

/-- 'laws.FnDelayOf', WHERE WHAT IT READS IS OF BULK AT MOST 1048576: true; the input reads as it did. -/
def fnDelayOfUptoRow : OpenClaim := { program := "ytoggbndpjcfmiaa", sum := "d9875d416db79713e3b835315b3973eb35736c8a42f32ae0ecae2fd410b17bcf", func := "loop.example/buildscheduler/laws.FnDelayOf", spec := "fnDelayOf", apart := false, narrowed := true }
def FnDelayOfUptoSaid : Prop := fnDelayOfUptoRow.holds Try.pinned (OpenSpec.upto fnDelayOfSpec)

/-- 'laws.FnTryTask', WHERE WHAT IT READS IS OF BULK AT MOST 1048576: true; the input reads as it did. -/
def fnTryTaskUptoRow : OpenClaim := { program := "ytoggbndpjcfmiaa", sum := "d9875d416db79713e3b835315b3973eb35736c8a42f32ae0ecae2fd410b17bcf", func := "loop.example/buildscheduler/laws.FnTryTask", spec := "fnTryTask", apart := false, narrowed := true }
def FnTryTaskUptoSaid : Prop := fnTryTaskUptoRow.holds Try.pinned (OpenSpec.upto fnTryTaskSpec)

/-- 'laws.FnTryTaskMore', WHERE WHAT IT READS IS OF BULK AT MOST 1048576: true; the input reads as it did. -/
def fnTryTaskMoreUptoRow : OpenClaim := { program := "ytoggbndpjcfmiaa", sum := "d9875d416db79713e3b835315b3973eb35736c8a42f32ae0ecae2fd410b17bcf", func := "loop.example/buildscheduler/laws.FnTryTaskMore", spec := "fnTryTaskMore", apart := false, narrowed := true }
def FnTryTaskMoreUptoSaid : Prop := fnTryTaskMoreUptoRow.holds Try.pinned (OpenSpec.upto fnTryTaskMoreSpec)

/-- 'laws.FnTryTime', WHERE WHAT IT READS IS OF BULK AT MOST 1048576: true; the input reads as it did. -/
def fnTryTimeUptoRow : OpenClaim := { program := "ytoggbndpjcfmiaa", sum := "d9875d416db79713e3b835315b3973eb35736c8a42f32ae0ecae2fd410b17bcf", func := "loop.example/buildscheduler/laws.FnTryTime", spec := "fnTryTime", apart := false, narrowed := true }
def FnTryTimeUptoSaid : Prop := fnTryTimeUptoRow.holds Try.pinned (OpenSpec.upto fnTryTimeSpec)

/-- 'laws.FnIsFlaky', WHERE WHAT IT READS IS OF BULK AT MOST 1048576: true; the input reads as it did. -/
def fnIsFlakyUptoRow : OpenClaim := { program := "ytoggbndpjcfmiaa", sum := "d9875d416db79713e3b835315b3973eb35736c8a42f32ae0ecae2fd410b17bcf", func := "loop.example/buildscheduler/laws.FnIsFlaky", spec := "fnIsFlaky", apart := false, narrowed := true }
def FnIsFlakyUptoSaid : Prop := fnIsFlakyUptoRow.holds Try.pinned (OpenSpec.upto fnIsFlakySpec)

/-- 'laws.FnDelayOfBound', WHERE WHAT IT READS IS OF BULK AT MOST 1048576: true; the input reads as it did. -/
def fnDelayOfBoundUptoRow : OpenClaim := { program := "ytoggbndpjcfmiaa", sum := "d9875d416db79713e3b835315b3973eb35736c8a42f32ae0ecae2fd410b17bcf", func := "loop.example/buildscheduler/laws.FnDelayOfBound", spec := "fnDelayOfBound", apart := false, narrowed := true }
def FnDelayOfBoundUptoSaid : Prop := fnDelayOfBoundUptoRow.holds Try.pinned (OpenSpec.upto fnDelayOfBoundSpec)

/-- 'laws.FnTryTaskFirst', WHERE WHAT IT READS IS OF BULK AT MOST 1048576: true; the input reads as it did. -/
def fnTryTaskFirstUptoRow : OpenClaim := { program := "ytoggbndpjcfmiaa", sum := "d9875d416db79713e3b835315b3973eb35736c8a42f32ae0ecae2fd410b17bcf", func := "loop.example/buildscheduler/laws.FnTryTaskFirst", spec := "fnTryTaskFirst", apart := false, narrowed := true }
def FnTryTaskFirstUptoSaid : Prop := fnTryTaskFirstUptoRow.holds Try.pinned (OpenSpec.upto fnTryTaskFirstSpec)

/-- 'laws.FnTryTimeMore', WHERE WHAT IT READS IS OF BULK AT MOST 1048576: true; the input reads as it did. -/
def fnTryTimeMoreUptoRow : OpenClaim := { program := "ytoggbndpjcfmiaa", sum := "d9875d416db79713e3b835315b3973eb35736c8a42f32ae0ecae2fd410b17bcf", func := "loop.example/buildscheduler/laws.FnTryTimeMore", spec := "fnTryTimeMore", apart := false, narrowed := true }
def FnTryTimeMoreUptoSaid : Prop := fnTryTimeMoreUptoRow.holds Try.pinned (OpenSpec.upto fnTryTimeMoreSpec)

/-- 'laws.FnOutcomes', WHERE WHAT IT READS IS OF BULK AT MOST 1048576: true; the input reads as it did. -/
def fnOutcomesUptoRow : OpenClaim := { program := "ytoggbndpjcfmiaa", sum := "d9875d416db79713e3b835315b3973eb35736c8a42f32ae0ecae2fd410b17bcf", func := "loop.example/buildscheduler/laws.FnOutcomes", spec := "fnOutcomes", apart := false, narrowed := true }
def FnOutcomesUptoSaid : Prop := fnOutcomesUptoRow.holds Try.pinned (OpenSpec.upto fnOutcomesSpec)

end Rows
end Go.Proofs.Ytoggbndpjcfmiaa
