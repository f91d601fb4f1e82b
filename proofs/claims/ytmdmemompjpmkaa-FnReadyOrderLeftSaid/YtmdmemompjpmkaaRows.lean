/-
  No cell of these rows narrows 'for every input' (looked for: loops, veiled, ifaces, maps, wideKeys, modest, calm, conditions, laid).
  DERIVED. THE GIVEN ROWS OF THIS SEAT. 10 by the template 'for every input the law returns true; each argument reads behind the call as it read before'; 0 by the template 'total and deterministic' (their statements: YtmdmemompjpmkaaTotals.lean).
  GIVEN WITH THE SEED: the statements are not yours to turn. If you find one false, say at which input.
  Laid BY PROGRAM, IN A SANDBOX (cutbox-rows.mjs): the forced cells as the released guide's own fill.sh prints them over the translation 6d3a5b12cbb9fabb… (all of the seat's roots in one cut). By AI agents, Wed Nov 11 2026. No macro, syntax, notation, axiom, sorry.
-/
import Derived.Test.YtmdmemompjpmkaaChecked
import GoSem.Claim
import GoSem.ClaimJoined
import GoSem.ClaimMapViews
import Derived.JoinedTies
import Derived.KernelRfl
namespace Go.Proofs.Ytmdmemompjpmkaa
/- THE CELL 'sum', in the pinned program and in every row, IS THE sha256 OF THE DUMP (.gsa) THAT YtmdmemompjpmkaaProg.lean LOADS. Nothing in Lean hashes anything: it is a label: what it is worth is what the hold of that sum in a sandbox is worth. -/
noncomputable def Try.pinned : Pinned := { name := "ytmdmemompjpmkaa", sum := "6d3a5b12cbb9fabbc28f7227c8799f7f7a25799cbd0c01bf71077ec1304059b5", checked := Try.checked }
namespace Rows
def none {H : Type} : Left H := { results := [], args := [] }

/-- 'laws.FnEstimateOf': WHATEVER THE INPUT: true; the input reads as it did. -/
def fnEstimateOfSpec : ChangeSpec := { name := "fnEstimateOf", fn := fun _ => fun
  | [d] => { results := [.lit (.bool true)], args := [d] }
  | _ => none }
def fnEstimateOfRow : OpenClaim := { program := "ytmdmemompjpmkaa", sum := "6d3a5b12cbb9fabbc28f7227c8799f7f7a25799cbd0c01bf71077ec1304059b5", func := "loop.example/buildscheduler/laws.FnEstimateOf", spec := "fnEstimateOf", apart := false }
def FnEstimateOfSaid : Prop := fnEstimateOfRow.holds Try.pinned (OpenSpec.ofChange fnEstimateOfSpec)

/-- ITS FALSE NEIGHBOUR: 'it returns false'. Refute it at one input. -/
def fnEstimateOfWrong : ChangeSpec := { name := "fnEstimateOf", fn := fun _ => fun
  | [d] => { results := [.lit (.bool false)], args := [d] }
  | _ => none }
def FnEstimateOfWrongFalsely : Prop := fnEstimateOfRow.holds Try.pinned (OpenSpec.ofChange fnEstimateOfWrong)

/-- 'laws.FnEstimateOfLast': WHATEVER THE INPUT: true; the input reads as it did. -/
def fnEstimateOfLastSpec : ChangeSpec := { name := "fnEstimateOfLast", fn := fun _ => fun
  | [d] => { results := [.lit (.bool true)], args := [d] }
  | _ => none }
def fnEstimateOfLastRow : OpenClaim := { program := "ytmdmemompjpmkaa", sum := "6d3a5b12cbb9fabbc28f7227c8799f7f7a25799cbd0c01bf71077ec1304059b5", func := "loop.example/buildscheduler/laws.FnEstimateOfLast", spec := "fnEstimateOfLast", apart := false }
def FnEstimateOfLastSaid : Prop := fnEstimateOfLastRow.holds Try.pinned (OpenSpec.ofChange fnEstimateOfLastSpec)

/-- ITS FALSE NEIGHBOUR: 'it returns false'. Refute it at one input. -/
def fnEstimateOfLastWrong : ChangeSpec := { name := "fnEstimateOfLast", fn := fun _ => fun
  | [d] => { results := [.lit (.bool false)], args := [d] }
  | _ => none }
def FnEstimateOfLastWrongFalsely : Prop := fnEstimateOfLastRow.holds Try.pinned (OpenSpec.ofChange fnEstimateOfLastWrong)

/-- 'laws.FnAddTime': WHATEVER THE INPUT: true; the input reads as it did. -/
def fnAddTimeSpec : ChangeSpec := { name := "fnAddTime", fn := fun _ => fun
  | [d] => { results := [.lit (.bool true)], args := [d] }
  | _ => none }
def fnAddTimeRow : OpenClaim := { program := "ytmdmemompjpmkaa", sum := "6d3a5b12cbb9fabbc28f7227c8799f7f7a25799cbd0c01bf71077ec1304059b5", func := "loop.example/buildscheduler/laws.FnAddTime", spec := "fnAddTime", apart := false }
def FnAddTimeSaid : Prop := fnAddTimeRow.holds Try.pinned (OpenSpec.ofChange fnAddTimeSpec)

/-- ITS FALSE NEIGHBOUR: 'it returns false'. Refute it at one input. -/
def fnAddTimeWrong : ChangeSpec := { name := "fnAddTime", fn := fun _ => fun
  | [d] => { results := [.lit (.bool false)], args := [d] }
  | _ => none }
def FnAddTimeWrongFalsely : Prop := fnAddTimeRow.holds Try.pinned (OpenSpec.ofChange fnAddTimeWrong)

/-- 'laws.FnAddTimeAll': WHATEVER THE INPUT: true; the input reads as it did. -/
def fnAddTimeAllSpec : ChangeSpec := { name := "fnAddTimeAll", fn := fun _ => fun
  | [d] => { results := [.lit (.bool true)], args := [d] }
  | _ => none }
def fnAddTimeAllRow : OpenClaim := { program := "ytmdmemompjpmkaa", sum := "6d3a5b12cbb9fabbc28f7227c8799f7f7a25799cbd0c01bf71077ec1304059b5", func := "loop.example/buildscheduler/laws.FnAddTimeAll", spec := "fnAddTimeAll", apart := false }
def FnAddTimeAllSaid : Prop := fnAddTimeAllRow.holds Try.pinned (OpenSpec.ofChange fnAddTimeAllSpec)

/-- ITS FALSE NEIGHBOUR: 'it returns false'. Refute it at one input. -/
def fnAddTimeAllWrong : ChangeSpec := { name := "fnAddTimeAll", fn := fun _ => fun
  | [d] => { results := [.lit (.bool false)], args := [d] }
  | _ => none }
def FnAddTimeAllWrongFalsely : Prop := fnAddTimeAllRow.holds Try.pinned (OpenSpec.ofChange fnAddTimeAllWrong)

/-- 'laws.FnTimeLeft': WHATEVER THE INPUT: true; the input reads as it did. -/
def fnTimeLeftSpec : ChangeSpec := { name := "fnTimeLeft", fn := fun _ => fun
  | [d] => { results := [.lit (.bool true)], args := [d] }
  | _ => none }
def fnTimeLeftRow : OpenClaim := { program := "ytmdmemompjpmkaa", sum := "6d3a5b12cbb9fabbc28f7227c8799f7f7a25799cbd0c01bf71077ec1304059b5", func := "loop.example/buildscheduler/laws.FnTimeLeft", spec := "fnTimeLeft", apart := false }
def FnTimeLeftSaid : Prop := fnTimeLeftRow.holds Try.pinned (OpenSpec.ofChange fnTimeLeftSpec)

/-- ITS FALSE NEIGHBOUR: 'it returns false'. Refute it at one input. -/
def fnTimeLeftWrong : ChangeSpec := { name := "fnTimeLeft", fn := fun _ => fun
  | [d] => { results := [.lit (.bool false)], args := [d] }
  | _ => none }
def FnTimeLeftWrongFalsely : Prop := fnTimeLeftRow.holds Try.pinned (OpenSpec.ofChange fnTimeLeftWrong)

/-- 'laws.FnProgressOf': WHATEVER THE INPUT: true; the input reads as it did. -/
def fnProgressOfSpec : ChangeSpec := { name := "fnProgressOf", fn := fun _ => fun
  | [d] => { results := [.lit (.bool true)], args := [d] }
  | _ => none }
def fnProgressOfRow : OpenClaim := { program := "ytmdmemompjpmkaa", sum := "6d3a5b12cbb9fabbc28f7227c8799f7f7a25799cbd0c01bf71077ec1304059b5", func := "loop.example/buildscheduler/laws.FnProgressOf", spec := "fnProgressOf", apart := false }
def FnProgressOfSaid : Prop := fnProgressOfRow.holds Try.pinned (OpenSpec.ofChange fnProgressOfSpec)

/-- ITS FALSE NEIGHBOUR: 'it returns false'. Refute it at one input. -/
def fnProgressOfWrong : ChangeSpec := { name := "fnProgressOf", fn := fun _ => fun
  | [d] => { results := [.lit (.bool false)], args := [d] }
  | _ => none }
def FnProgressOfWrongFalsely : Prop := fnProgressOfRow.holds Try.pinned (OpenSpec.ofChange fnProgressOfWrong)

/-- 'laws.FnProgressOfMore': WHATEVER THE INPUT: true; the input reads as it did. -/
def fnProgressOfMoreSpec : ChangeSpec := { name := "fnProgressOfMore", fn := fun _ => fun
  | [d] => { results := [.lit (.bool true)], args := [d] }
  | _ => none }
def fnProgressOfMoreRow : OpenClaim := { program := "ytmdmemompjpmkaa", sum := "6d3a5b12cbb9fabbc28f7227c8799f7f7a25799cbd0c01bf71077ec1304059b5", func := "loop.example/buildscheduler/laws.FnProgressOfMore", spec := "fnProgressOfMore", apart := false }
def FnProgressOfMoreSaid : Prop := fnProgressOfMoreRow.holds Try.pinned (OpenSpec.ofChange fnProgressOfMoreSpec)

/-- ITS FALSE NEIGHBOUR: 'it returns false'. Refute it at one input. -/
def fnProgressOfMoreWrong : ChangeSpec := { name := "fnProgressOfMore", fn := fun _ => fun
  | [d] => { results := [.lit (.bool false)], args := [d] }
  | _ => none }
def FnProgressOfMoreWrongFalsely : Prop := fnProgressOfMoreRow.holds Try.pinned (OpenSpec.ofChange fnProgressOfMoreWrong)

/-- 'laws.FnReadyOrderLeft': WHATEVER THE INPUT: true; the input reads as it did. -/
def fnReadyOrderLeftSpec : ChangeSpec := { name := "fnReadyOrderLeft", fn := fun _ => fun
  | [d] => { results := [.lit (.bool true)], args := [d] }
  | _ => none }
def fnReadyOrderLeftRow : OpenClaim := { program := "ytmdmemompjpmkaa", sum := "6d3a5b12cbb9fabbc28f7227c8799f7f7a25799cbd0c01bf71077ec1304059b5", func := "loop.example/buildscheduler/laws.FnReadyOrderLeft", spec := "fnReadyOrderLeft", apart := false }
def FnReadyOrderLeftSaid : Prop := fnReadyOrderLeftRow.holds Try.pinned (OpenSpec.ofChange fnReadyOrderLeftSpec)

/-- ITS FALSE NEIGHBOUR: 'it returns false'. Refute it at one input. -/
def fnReadyOrderLeftWrong : ChangeSpec := { name := "fnReadyOrderLeft", fn := fun _ => fun
  | [d] => { results := [.lit (.bool false)], args := [d] }
  | _ => none }
def FnReadyOrderLeftWrongFalsely : Prop := fnReadyOrderLeftRow.holds Try.pinned (OpenSpec.ofChange fnReadyOrderLeftWrong)

/-- 'laws.FnEstimateOfMore': WHATEVER THE INPUT: true; the input reads as it did. -/
def fnEstimateOfMoreSpec : ChangeSpec := { name := "fnEstimateOfMore", fn := fun _ => fun
  | [d] => { results := [.lit (.bool true)], args := [d] }
  | _ => none }
def fnEstimateOfMoreRow : OpenClaim := { program := "ytmdmemompjpmkaa", sum := "6d3a5b12cbb9fabbc28f7227c8799f7f7a25799cbd0c01bf71077ec1304059b5", func := "loop.example/buildscheduler/laws.FnEstimateOfMore", spec := "fnEstimateOfMore", apart := false }
def FnEstimateOfMoreSaid : Prop := fnEstimateOfMoreRow.holds Try.pinned (OpenSpec.ofChange fnEstimateOfMoreSpec)

/-- ITS FALSE NEIGHBOUR: 'it returns false'. Refute it at one input. -/
def fnEstimateOfMoreWrong : ChangeSpec := { name := "fnEstimateOfMore", fn := fun _ => fun
  | [d] => { results := [.lit (.bool false)], args := [d] }
  | _ => none }
def FnEstimateOfMoreWrongFalsely : Prop := fnEstimateOfMoreRow.holds Try.pinned (OpenSpec.ofChange fnEstimateOfMoreWrong)

/-- 'laws.FnTimeLeftLeast': WHATEVER THE INPUT: true; the input reads as it did. -/
def fnTimeLeftLeastSpec : ChangeSpec := { name := "fnTimeLeftLeast", fn := fun _ => fun
  | [d] => { results := [.lit (.bool true)], args := [d] }
  | _ => none }
def fnTimeLeftLeastRow : OpenClaim := { program := "ytmdmemompjpmkaa", sum := "6d3a5b12cbb9fabbc28f7227c8799f7f7a25799cbd0c01bf71077ec1304059b5", func := "loop.example/buildscheduler/laws.FnTimeLeftLeast", spec := "fnTimeLeftLeast", apart := false }
def FnTimeLeftLeastSaid : Prop := fnTimeLeftLeastRow.holds Try.pinned (OpenSpec.ofChange fnTimeLeftLeastSpec)

/-- ITS FALSE NEIGHBOUR: 'it returns false'. Refute it at one input. -/
def fnTimeLeftLeastWrong : ChangeSpec := { name := "fnTimeLeftLeast", fn := fun _ => fun
  | [d] => { results := [.lit (.bool false)], args := [d] }
  | _ => none }
def FnTimeLeftLeastWrongFalsely : Prop := fnTimeLeftLeastRow.holds Try.pinned (OpenSpec.ofChange fnTimeLeftLeastWrong)

/- THE SECOND FORM. 'bulk': how many values and letters a reading holds, each counted each time it is reached (what is shared counts as often as it is met; a slice's spare places count too). A statement '..UptoSaid' is the law's where the arguments, and the package variables that the reading takes, are together of bulk at most 1048576: NARROWER than '..Said'. Prove '..Said' where nothing that the law and all that it calls make is longer than what came in: it says more and counts as full. Else prove '..UptoSaid'. A law counts once. -/
mutual
def uptoBulk {H : Type} : DataW H → Nat
  | .lit (.string bytes) => bytes.length + 1
  | .lit _ => 1
  | .nil => 1
  | .ptr d => uptoBulk d + 1
  | .slice elems spare => uptoBulkAll elems + uptoBulkAll spare + 1
  | .agg parts => uptoBulkAll parts + 1
  | .iface _ d => uptoBulk d + 1
  | .map entries => uptoBulkEntries entries + 1
  | .held _ => 1
def uptoBulkAll {H : Type} : List (DataW H) → Nat
  | [] => 0
  | d :: r => uptoBulk d + uptoBulkAll r
def uptoBulkEntries {H : Type} : List (Lit × DataW H) → Nat
  | [] => 0
  | x :: r => uptoBulkEntry x + uptoBulkEntries r
def uptoBulkEntry {H : Type} : Lit × DataW H → Nat
  | (.string bytes, d) => bytes.length + uptoBulk d + 1
  | (_, d) => uptoBulk d + 1
 end
def uptoSmall : (H : Type) → List (DataW H) → Bool := fun _ ds => decide (uptoBulkAll ds ≤ 1048576)
def OpenSpec.upto (s : _root_.Go.ChangeSpec) : _root_.Go.OpenSpec := { _root_.Go.OpenSpec.ofChange s with cond := some uptoSmall }

/-- 'laws.FnEstimateOf', WHERE WHAT IT READS IS OF BULK AT MOST 1048576: true; the input reads as it did. -/
def fnEstimateOfUptoRow : OpenClaim := { program := "ytmdmemompjpmkaa", sum := "6d3a5b12cbb9fabbc28f7227c8799f7f7a25799cbd0c01bf71077ec1304059b5", func := "loop.example/buildscheduler/laws.FnEstimateOf", spec := "fnEstimateOf", apart := false, narrowed := true }
def FnEstimateOfUptoSaid : Prop := fnEstimateOfUptoRow.holds Try.pinned (OpenSpec.upto fnEstimateOfSpec)

/-- 'laws.FnEstimateOfLast', WHERE WHAT IT READS IS OF BULK AT MOST 1048576: true; the input reads as it did. -/
def fnEstimateOfLastUptoRow : OpenClaim := { program := "ytmdmemompjpmkaa", sum := "6d3a5b12cbb9fabbc28f7227c8799f7f7a25799cbd0c01bf71077ec1304059b5", func := "loop.example/buildscheduler/laws.FnEstimateOfLast", spec := "fnEstimateOfLast", apart := false, narrowed := true }
def FnEstimateOfLastUptoSaid : Prop := fnEstimateOfLastUptoRow.holds Try.pinned (OpenSpec.upto fnEstimateOfLastSpec)

/-- 'laws.FnAddTime', WHERE WHAT IT READS IS OF BULK AT MOST 1048576: true; the input reads as it did. -/
def fnAddTimeUptoRow : OpenClaim := { program := "ytmdmemompjpmkaa", sum := "6d3a5b12cbb9fabbc28f7227c8799f7f7a25799cbd0c01bf71077ec1304059b5", func := "loop.example/buildscheduler/laws.FnAddTime", spec := "fnAddTime", apart := false, narrowed := true }
def FnAddTimeUptoSaid : Prop := fnAddTimeUptoRow.holds Try.pinned (OpenSpec.upto fnAddTimeSpec)

/-- 'laws.FnAddTimeAll', WHERE WHAT IT READS IS OF BULK AT MOST 1048576: true; the input reads as it did. -/
def fnAddTimeAllUptoRow : OpenClaim := { program := "ytmdmemompjpmkaa", sum := "6d3a5b12cbb9fabbc28f7227c8799f7f7a25799cbd0c01bf71077ec1304059b5", func := "loop.example/buildscheduler/laws.FnAddTimeAll", spec := "fnAddTimeAll", apart := false, narrowed := true }
def FnAddTimeAllUptoSaid : Prop := fnAddTimeAllUptoRow.holds Try.pinned (OpenSpec.upto fnAddTimeAllSpec)

/-- 'laws.FnTimeLeft', WHERE WHAT IT READS IS OF BULK AT MOST 1048576: true; the input reads as it did. -/
def fnTimeLeftUptoRow : OpenClaim := { program := "ytmdmemompjpmkaa", sum := "6d3a5b12cbb9fabbc28f7227c8799f7f7a25799cbd0c01bf71077ec1304059b5", func := "loop.example/buildscheduler/laws.FnTimeLeft", spec := "fnTimeLeft", apart := false, narrowed := true }
def FnTimeLeftUptoSaid : Prop := fnTimeLeftUptoRow.holds Try.pinned (OpenSpec.upto fnTimeLeftSpec)

/-- 'laws.FnProgressOf', WHERE WHAT IT READS IS OF BULK AT MOST 1048576: true; the input reads as it did. -/
def fnProgressOfUptoRow : OpenClaim := { program := "ytmdmemompjpmkaa", sum := "6d3a5b12cbb9fabbc28f7227c8799f7f7a25799cbd0c01bf71077ec1304059b5", func := "loop.example/buildscheduler/laws.FnProgressOf", spec := "fnProgressOf", apart := false, narrowed := true }
def FnProgressOfUptoSaid : Prop := fnProgressOfUptoRow.holds Try.pinned (OpenSpec.upto fnProgressOfSpec)

/-- 'laws.FnProgressOfMore', WHERE WHAT IT READS IS OF BULK AT MOST 1048576: true; the input reads as it did. -/
def fnProgressOfMoreUptoRow : OpenClaim := { program := "ytmdmemompjpmkaa", sum := "6d3a5b12cbb9fabbc28f7227c8799f7f7a25799cbd0c01bf71077ec1304059b5", func := "loop.example/buildscheduler/laws.FnProgressOfMore", spec := "fnProgressOfMore", apart := false, narrowed := true }
def FnProgressOfMoreUptoSaid : Prop := fnProgressOfMoreUptoRow.holds Try.pinned (OpenSpec.upto fnProgressOfMoreSpec)

/-- 'laws.FnReadyOrderLeft', WHERE WHAT IT READS IS OF BULK AT MOST 1048576: true; the input reads as it did. -/
def fnReadyOrderLeftUptoRow : OpenClaim := { program := "ytmdmemompjpmkaa", sum := "6d3a5b12cbb9fabbc28f7227c8799f7f7a25799cbd0c01bf71077ec1304059b5", func := "loop.example/buildscheduler/laws.FnReadyOrderLeft", spec := "fnReadyOrderLeft", apart := false, narrowed := true }
def FnReadyOrderLeftUptoSaid : Prop := fnReadyOrderLeftUptoRow.holds Try.pinned (OpenSpec.upto fnReadyOrderLeftSpec)

/-- 'laws.FnEstimateOfMore', WHERE WHAT IT READS IS OF BULK AT MOST 1048576: true; the input reads as it did. -/
def fnEstimateOfMoreUptoRow : OpenClaim := { program := "ytmdmemompjpmkaa", sum := "6d3a5b12cbb9fabbc28f7227c8799f7f7a25799cbd0c01bf71077ec1304059b5", func := "loop.example/buildscheduler/laws.FnEstimateOfMore", spec := "fnEstimateOfMore", apart := false, narrowed := true }
def FnEstimateOfMoreUptoSaid : Prop := fnEstimateOfMoreUptoRow.holds Try.pinned (OpenSpec.upto fnEstimateOfMoreSpec)

/-- 'laws.FnTimeLeftLeast', WHERE WHAT IT READS IS OF BULK AT MOST 1048576: true; the input reads as it did. -/
def fnTimeLeftLeastUptoRow : OpenClaim := { program := "ytmdmemompjpmkaa", sum := "6d3a5b12cbb9fabbc28f7227c8799f7f7a25799cbd0c01bf71077ec1304059b5", func := "loop.example/buildscheduler/laws.FnTimeLeftLeast", spec := "fnTimeLeftLeast", apart := false, narrowed := true }
def FnTimeLeftLeastUptoSaid : Prop := fnTimeLeftLeastUptoRow.holds Try.pinned (OpenSpec.upto fnTimeLeftLeastSpec)

end Rows
end Go.Proofs.Ytmdmemompjpmkaa
