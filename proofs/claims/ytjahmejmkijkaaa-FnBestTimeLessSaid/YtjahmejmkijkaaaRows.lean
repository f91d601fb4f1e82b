/-
  No cell of these rows narrows 'for every input' (looked for: loops, veiled, ifaces, maps, wideKeys, modest, calm, conditions, laid).
  DERIVED. THE GIVEN ROWS OF THIS SEAT. 7 by the template 'for every input the law returns true; each argument reads behind the call as it read before'; 0 by the template 'total and deterministic' (their statements: YtjahmejmkijkaaaTotals.lean).
  GIVEN WITH THE SEED: the statements are not yours to turn. If you find one false, say at which input.
  Laid BY PROGRAM, IN A SANDBOX (cutbox-rows.mjs): the forced cells as the released guide's own fill.sh prints them over the translation b1ea3060ba2d6cc9… (all of the seat's roots in one cut). By AI agents, Wed Nov 11 2026. No macro, syntax, notation, axiom, sorry.
-/
import Derived.Test.YtjahmejmkijkaaaChecked
import GoSem.Claim
import GoSem.ClaimJoined
import GoSem.ClaimMapViews
import Derived.JoinedTies
import Derived.KernelRfl
namespace Go.Proofs.Ytjahmejmkijkaaa
/- THE CELL 'sum', in the pinned program and in every row, IS THE sha256 OF THE DUMP (.gsa) THAT YtjahmejmkijkaaaProg.lean LOADS. Nothing in Lean hashes anything: it is a label: what it is worth is what the hold of that sum in a sandbox is worth. -/
noncomputable def Try.pinned : Pinned := { name := "ytjahmejmkijkaaa", sum := "b1ea3060ba2d6cc9dbc6a956d2a16968bd5b895ad9115be4116e09e5a9349e52", checked := Try.checked }
namespace Rows
def none {H : Type} : Left H := { results := [], args := [] }

/-- 'laws.FnBestOrder': WHATEVER THE INPUT: true; the input reads as it did. -/
def fnBestOrderSpec : ChangeSpec := { name := "fnBestOrder", fn := fun _ => fun
  | [d] => { results := [.lit (.bool true)], args := [d] }
  | _ => none }
def fnBestOrderRow : OpenClaim := { program := "ytjahmejmkijkaaa", sum := "b1ea3060ba2d6cc9dbc6a956d2a16968bd5b895ad9115be4116e09e5a9349e52", func := "loop.example/buildscheduler/laws.FnBestOrder", spec := "fnBestOrder", recurses := true, apart := false }
def FnBestOrderSaid : Prop := fnBestOrderRow.holds Try.pinned (OpenSpec.ofChange fnBestOrderSpec)

/-- ITS FALSE NEIGHBOUR: 'it returns false'. Refute it at one input. -/
def fnBestOrderWrong : ChangeSpec := { name := "fnBestOrder", fn := fun _ => fun
  | [d] => { results := [.lit (.bool false)], args := [d] }
  | _ => none }
def FnBestOrderWrongFalsely : Prop := fnBestOrderRow.holds Try.pinned (OpenSpec.ofChange fnBestOrderWrong)

/-- 'laws.FnBestTime': WHATEVER THE INPUT: true; the input reads as it did. -/
def fnBestTimeSpec : ChangeSpec := { name := "fnBestTime", fn := fun _ => fun
  | [d] => { results := [.lit (.bool true)], args := [d] }
  | _ => none }
def fnBestTimeRow : OpenClaim := { program := "ytjahmejmkijkaaa", sum := "b1ea3060ba2d6cc9dbc6a956d2a16968bd5b895ad9115be4116e09e5a9349e52", func := "loop.example/buildscheduler/laws.FnBestTime", spec := "fnBestTime", recurses := true, apart := false }
def FnBestTimeSaid : Prop := fnBestTimeRow.holds Try.pinned (OpenSpec.ofChange fnBestTimeSpec)

/-- ITS FALSE NEIGHBOUR: 'it returns false'. Refute it at one input. -/
def fnBestTimeWrong : ChangeSpec := { name := "fnBestTime", fn := fun _ => fun
  | [d] => { results := [.lit (.bool false)], args := [d] }
  | _ => none }
def FnBestTimeWrongFalsely : Prop := fnBestTimeRow.holds Try.pinned (OpenSpec.ofChange fnBestTimeWrong)

/-- 'laws.FnBestTimeOrder': WHATEVER THE INPUT: true; the input reads as it did. -/
def fnBestTimeOrderSpec : ChangeSpec := { name := "fnBestTimeOrder", fn := fun _ => fun
  | [d] => { results := [.lit (.bool true)], args := [d] }
  | _ => none }
def fnBestTimeOrderRow : OpenClaim := { program := "ytjahmejmkijkaaa", sum := "b1ea3060ba2d6cc9dbc6a956d2a16968bd5b895ad9115be4116e09e5a9349e52", func := "loop.example/buildscheduler/laws.FnBestTimeOrder", spec := "fnBestTimeOrder", recurses := true, apart := false }
def FnBestTimeOrderSaid : Prop := fnBestTimeOrderRow.holds Try.pinned (OpenSpec.ofChange fnBestTimeOrderSpec)

/-- ITS FALSE NEIGHBOUR: 'it returns false'. Refute it at one input. -/
def fnBestTimeOrderWrong : ChangeSpec := { name := "fnBestTimeOrder", fn := fun _ => fun
  | [d] => { results := [.lit (.bool false)], args := [d] }
  | _ => none }
def FnBestTimeOrderWrongFalsely : Prop := fnBestTimeOrderRow.holds Try.pinned (OpenSpec.ofChange fnBestTimeOrderWrong)

/-- 'laws.FnBestTimeMore': WHATEVER THE INPUT: true; the input reads as it did. -/
def fnBestTimeMoreSpec : ChangeSpec := { name := "fnBestTimeMore", fn := fun _ => fun
  | [d] => { results := [.lit (.bool true)], args := [d] }
  | _ => none }
def fnBestTimeMoreRow : OpenClaim := { program := "ytjahmejmkijkaaa", sum := "b1ea3060ba2d6cc9dbc6a956d2a16968bd5b895ad9115be4116e09e5a9349e52", func := "loop.example/buildscheduler/laws.FnBestTimeMore", spec := "fnBestTimeMore", recurses := true, apart := false }
def FnBestTimeMoreSaid : Prop := fnBestTimeMoreRow.holds Try.pinned (OpenSpec.ofChange fnBestTimeMoreSpec)

/-- ITS FALSE NEIGHBOUR: 'it returns false'. Refute it at one input. -/
def fnBestTimeMoreWrong : ChangeSpec := { name := "fnBestTimeMore", fn := fun _ => fun
  | [d] => { results := [.lit (.bool false)], args := [d] }
  | _ => none }
def FnBestTimeMoreWrongFalsely : Prop := fnBestTimeMoreRow.holds Try.pinned (OpenSpec.ofChange fnBestTimeMoreWrong)

/-- 'laws.FnBestOrderLeast': WHATEVER THE INPUT: true; the input reads as it did. -/
def fnBestOrderLeastSpec : ChangeSpec := { name := "fnBestOrderLeast", fn := fun _ => fun
  | [d] => { results := [.lit (.bool true)], args := [d] }
  | _ => none }
def fnBestOrderLeastRow : OpenClaim := { program := "ytjahmejmkijkaaa", sum := "b1ea3060ba2d6cc9dbc6a956d2a16968bd5b895ad9115be4116e09e5a9349e52", func := "loop.example/buildscheduler/laws.FnBestOrderLeast", spec := "fnBestOrderLeast", recurses := true, apart := false }
def FnBestOrderLeastSaid : Prop := fnBestOrderLeastRow.holds Try.pinned (OpenSpec.ofChange fnBestOrderLeastSpec)

/-- ITS FALSE NEIGHBOUR: 'it returns false'. Refute it at one input. -/
def fnBestOrderLeastWrong : ChangeSpec := { name := "fnBestOrderLeast", fn := fun _ => fun
  | [d] => { results := [.lit (.bool false)], args := [d] }
  | _ => none }
def FnBestOrderLeastWrongFalsely : Prop := fnBestOrderLeastRow.holds Try.pinned (OpenSpec.ofChange fnBestOrderLeastWrong)

/-- 'laws.FnBestTimeLess': WHATEVER THE INPUT: true; the input reads as it did. -/
def fnBestTimeLessSpec : ChangeSpec := { name := "fnBestTimeLess", fn := fun _ => fun
  | [d] => { results := [.lit (.bool true)], args := [d] }
  | _ => none }
def fnBestTimeLessRow : OpenClaim := { program := "ytjahmejmkijkaaa", sum := "b1ea3060ba2d6cc9dbc6a956d2a16968bd5b895ad9115be4116e09e5a9349e52", func := "loop.example/buildscheduler/laws.FnBestTimeLess", spec := "fnBestTimeLess", recurses := true, apart := false }
def FnBestTimeLessSaid : Prop := fnBestTimeLessRow.holds Try.pinned (OpenSpec.ofChange fnBestTimeLessSpec)

/-- ITS FALSE NEIGHBOUR: 'it returns false'. Refute it at one input. -/
def fnBestTimeLessWrong : ChangeSpec := { name := "fnBestTimeLess", fn := fun _ => fun
  | [d] => { results := [.lit (.bool false)], args := [d] }
  | _ => none }
def FnBestTimeLessWrongFalsely : Prop := fnBestTimeLessRow.holds Try.pinned (OpenSpec.ofChange fnBestTimeLessWrong)

/-- 'laws.FnOrderStartsPlan': WHATEVER THE INPUT: true; the input reads as it did. -/
def fnOrderStartsPlanSpec : ChangeSpec := { name := "fnOrderStartsPlan", fn := fun _ => fun
  | [d] => { results := [.lit (.bool true)], args := [d] }
  | _ => none }
def fnOrderStartsPlanRow : OpenClaim := { program := "ytjahmejmkijkaaa", sum := "b1ea3060ba2d6cc9dbc6a956d2a16968bd5b895ad9115be4116e09e5a9349e52", func := "loop.example/buildscheduler/laws.FnOrderStartsPlan", spec := "fnOrderStartsPlan", apart := false }
def FnOrderStartsPlanSaid : Prop := fnOrderStartsPlanRow.holds Try.pinned (OpenSpec.ofChange fnOrderStartsPlanSpec)

/-- ITS FALSE NEIGHBOUR: 'it returns false'. Refute it at one input. -/
def fnOrderStartsPlanWrong : ChangeSpec := { name := "fnOrderStartsPlan", fn := fun _ => fun
  | [d] => { results := [.lit (.bool false)], args := [d] }
  | _ => none }
def FnOrderStartsPlanWrongFalsely : Prop := fnOrderStartsPlanRow.holds Try.pinned (OpenSpec.ofChange fnOrderStartsPlanWrong)

/- THE SECOND FORM. 'bulk': how many values and letters a reading holds, each counted each time it is reached (what is shared counts as often as it is met; a slice's spare places count too). A statement '..UptoSaid' is the law's where the arguments, and the package variables that the reading takes, are together of bulk at most 1048576: NARROWER than '..Said'. Prove '..Said' where nothing that the law and all that it calls make is longer than what came in: it says more and counts as full. Else prove '..UptoSaid'. A law counts once. -/
mutual
def uptoBulk {H : Type} : DataW H → Nat
  | .lit (.string bytes) => bytes.length + 1
  | .lit _ => 1
  | .nil => 1
  | .ptr d => uptoBulk d + 1
  | .slice elems spare => uptoBulkAll elems + uptoBulkAll spare + 1
  | .agg parts => uptoBulkAll parts + 1
  | .iface _ d => uptoBulk d + 1
  | .map entries => uptoBulkEntries entries + 1
  | .held _ => 1
def uptoBulkAll {H : Type} : List (DataW H) → Nat
  | [] => 0
  | d :: r => uptoBulk d + uptoBulkAll r
def uptoBulkEntries {H : Type} : List (Lit × DataW H) → Nat
  | [] => 0
  | x :: r => uptoBulkEntry x + uptoBulkEntries r
def uptoBulkEntry {H : Type} : Lit × DataW H → Nat
  | (.string bytes, d) => bytes.length + uptoBulk d + 1
  | (_, d) => uptoBulk d + 1
 end
def uptoSmall : (H : Type) → List (DataW H) → Bool := fun _ ds => decide (uptoBulkAll ds ≤ 1048576)
def OpenSpec.upto (s : _root_.Go.ChangeSpec) : _root_.Go.OpenSpec := { _root_.Go.OpenSpec.ofChange s with cond := some uptoSmall }

/-- 'laws.FnBestOrder', WHERE WHAT IT READS IS OF BULK AT MOST 1048576: true; the input reads as it did. -/
def fnBestOrderUptoRow : OpenClaim := { program := "ytjahmejmkijkaaa", sum := "b1ea3060ba2d6cc9dbc6a956d2a16968bd5b895ad9115be4116e09e5a9349e52", func := "loop.example/buildscheduler/laws.FnBestOrder", spec := "fnBestOrder", recurses := true, apart := false, narrowed := true }
def FnBestOrderUptoSaid : Prop := fnBestOrderUptoRow.holds Try.pinned (OpenSpec.upto fnBestOrderSpec)

/-- 'laws.FnBestTime', WHERE WHAT IT READS IS OF BULK AT MOST 1048576: true; the input reads as it did. -/
def fnBestTimeUptoRow : OpenClaim := { program := "ytjahmejmkijkaaa", sum := "b1ea3060ba2d6cc9dbc6a956d2a16968bd5b895ad9115be4116e09e5a9349e52", func := "loop.example/buildscheduler/laws.FnBestTime", spec := "fnBestTime", recurses := true, apart := false, narrowed := true }
def FnBestTimeUptoSaid : Prop := fnBestTimeUptoRow.holds Try.pinned (OpenSpec.upto fnBestTimeSpec)

/-- 'laws.FnBestTimeOrder', WHERE WHAT IT READS IS OF BULK AT MOST 1048576: true; the input reads as it did. -/
def fnBestTimeOrderUptoRow : OpenClaim := { program := "ytjahmejmkijkaaa", sum := "b1ea3060ba2d6cc9dbc6a956d2a16968bd5b895ad9115be4116e09e5a9349e52", func := "loop.example/buildscheduler/laws.FnBestTimeOrder", spec := "fnBestTimeOrder", recurses := true, apart := false, narrowed := true }
def FnBestTimeOrderUptoSaid : Prop := fnBestTimeOrderUptoRow.holds Try.pinned (OpenSpec.upto fnBestTimeOrderSpec)

/-- 'laws.FnBestTimeMore', WHERE WHAT IT READS IS OF BULK AT MOST 1048576: true; the input reads as it did. -/
def fnBestTimeMoreUptoRow : OpenClaim := { program := "ytjahmejmkijkaaa", sum := "b1ea3060ba2d6cc9dbc6a956d2a16968bd5b895ad9115be4116e09e5a9349e52", func := "loop.example/buildscheduler/laws.FnBestTimeMore", spec := "fnBestTimeMore", recurses := true, apart := false, narrowed := true }
def FnBestTimeMoreUptoSaid : Prop := fnBestTimeMoreUptoRow.holds Try.pinned (OpenSpec.upto fnBestTimeMoreSpec)

/-- 'laws.FnBestOrderLeast', WHERE WHAT IT READS IS OF BULK AT MOST 1048576: true; the input reads as it did. -/
def fnBestOrderLeastUptoRow : OpenClaim := { program := "ytjahmejmkijkaaa", sum := "b1ea3060ba2d6cc9dbc6a956d2a16968bd5b895ad9115be4116e09e5a9349e52", func := "loop.example/buildscheduler/laws.FnBestOrderLeast", spec := "fnBestOrderLeast", recurses := true, apart := false, narrowed := true }
def FnBestOrderLeastUptoSaid : Prop := fnBestOrderLeastUptoRow.holds Try.pinned (OpenSpec.upto fnBestOrderLeastSpec)

/-- 'laws.FnBestTimeLess', WHERE WHAT IT READS IS OF BULK AT MOST 1048576: true; the input reads as it did. -/
def fnBestTimeLessUptoRow : OpenClaim := { program := "ytjahmejmkijkaaa", sum := "b1ea3060ba2d6cc9dbc6a956d2a16968bd5b895ad9115be4116e09e5a9349e52", func := "loop.example/buildscheduler/laws.FnBestTimeLess", spec := "fnBestTimeLess", recurses := true, apart := false, narrowed := true }
def FnBestTimeLessUptoSaid : Prop := fnBestTimeLessUptoRow.holds Try.pinned (OpenSpec.upto fnBestTimeLessSpec)

/-- 'laws.FnOrderStartsPlan', WHERE WHAT IT READS IS OF BULK AT MOST 1048576: true; the input reads as it did. -/
def fnOrderStartsPlanUptoRow : OpenClaim := { program := "ytjahmejmkijkaaa", sum := "b1ea3060ba2d6cc9dbc6a956d2a16968bd5b895ad9115be4116e09e5a9349e52", func := "loop.example/buildscheduler/laws.FnOrderStartsPlan", spec := "fnOrderStartsPlan", apart := false, narrowed := true }
def FnOrderStartsPlanUptoSaid : Prop := fnOrderStartsPlanUptoRow.holds Try.pinned (OpenSpec.upto fnOrderStartsPlanSpec)

end Rows
end Go.Proofs.Ytjahmejmkijkaaa
