/-
  No cell of these rows narrows 'for every input' (looked for: loops, veiled, ifaces, maps, wideKeys, modest, calm, conditions, laid).
  DERIVED. THE GIVEN ROWS OF THIS SEAT. 12 by the template 'for every input the law returns true; each argument reads behind the call as it read before'; 0 by the template 'total and deterministic' (their statements: YtggekdohcancbaaTotals.lean).
  GIVEN WITH THE SEED: the statements are not yours to turn. If you find one false, say at which input.
  Laid BY PROGRAM, IN A SANDBOX (cutbox-rows.mjs): the forced cells as the released guide's own fill.sh prints them over the translation 82d345501d295ab9… (all of the seat's roots in one cut). By AI agents, Wed Nov 11 2026. No macro, syntax, notation, axiom, sorry.
-/
import Derived.Test.YtggekdohcancbaaChecked
import GoSem.Claim
import GoSem.ClaimJoined
import GoSem.ClaimMapViews
import Derived.JoinedTies
import Derived.KernelRfl
namespace Go.Proofs.Ytggekdohcancbaa
/- THE CELL 'sum', in the pinned program and in every row, IS THE sha256 OF THE DUMP (.gsa) THAT YtggekdohcancbaaProg.lean LOADS. Nothing in Lean hashes anything: it is a label: what it is worth is what the hold of that sum in a sandbox is worth. -/
noncomputable def Try.pinned : Pinned := { name := "ytggekdohcancbaa", sum := "82d345501d295ab9232ba5ef23458da8959b8d37dae2b8058b23806e2e185d63", checked := Try.checked }
namespace Rows
def none {H : Type} : Left H := { results := [], args := [] }

/-- 'laws.FnStaleTasks': WHATEVER THE INPUT: true; the input reads as it did. -/
def fnStaleTasksSpec : ChangeSpec := { name := "fnStaleTasks", fn := fun _ => fun
  | [d] => { results := [.lit (.bool true)], args := [d] }
  | _ => none }
def fnStaleTasksRow : OpenClaim := { program := "ytggekdohcancbaa", sum := "82d345501d295ab9232ba5ef23458da8959b8d37dae2b8058b23806e2e185d63", func := "loop.example/buildscheduler/laws.FnStaleTasks", spec := "fnStaleTasks", apart := false }
def FnStaleTasksSaid : Prop := fnStaleTasksRow.holds Try.pinned (OpenSpec.ofChange fnStaleTasksSpec)

/-- ITS FALSE NEIGHBOUR: 'it returns false'. Refute it at one input. -/
def fnStaleTasksWrong : ChangeSpec := { name := "fnStaleTasks", fn := fun _ => fun
  | [d] => { results := [.lit (.bool false)], args := [d] }
  | _ => none }
def FnStaleTasksWrongFalsely : Prop := fnStaleTasksRow.holds Try.pinned (OpenSpec.ofChange fnStaleTasksWrong)

/-- 'laws.FnStaleTasksAgain': WHATEVER THE INPUT: true; the input reads as it did. -/
def fnStaleTasksAgainSpec : ChangeSpec := { name := "fnStaleTasksAgain", fn := fun _ => fun
  | [d] => { results := [.lit (.bool true)], args := [d] }
  | _ => none }
def fnStaleTasksAgainRow : OpenClaim := { program := "ytggekdohcancbaa", sum := "82d345501d295ab9232ba5ef23458da8959b8d37dae2b8058b23806e2e185d63", func := "loop.example/buildscheduler/laws.FnStaleTasksAgain", spec := "fnStaleTasksAgain", apart := false }
def FnStaleTasksAgainSaid : Prop := fnStaleTasksAgainRow.holds Try.pinned (OpenSpec.ofChange fnStaleTasksAgainSpec)

/-- ITS FALSE NEIGHBOUR: 'it returns false'. Refute it at one input. -/
def fnStaleTasksAgainWrong : ChangeSpec := { name := "fnStaleTasksAgain", fn := fun _ => fun
  | [d] => { results := [.lit (.bool false)], args := [d] }
  | _ => none }
def FnStaleTasksAgainWrongFalsely : Prop := fnStaleTasksAgainRow.holds Try.pinned (OpenSpec.ofChange fnStaleTasksAgainWrong)

/-- 'laws.FnStaleTasksDone': WHATEVER THE INPUT: true; the input reads as it did. -/
def fnStaleTasksDoneSpec : ChangeSpec := { name := "fnStaleTasksDone", fn := fun _ => fun
  | [d] => { results := [.lit (.bool true)], args := [d] }
  | _ => none }
def fnStaleTasksDoneRow : OpenClaim := { program := "ytggekdohcancbaa", sum := "82d345501d295ab9232ba5ef23458da8959b8d37dae2b8058b23806e2e185d63", func := "loop.example/buildscheduler/laws.FnStaleTasksDone", spec := "fnStaleTasksDone", apart := false }
def FnStaleTasksDoneSaid : Prop := fnStaleTasksDoneRow.holds Try.pinned (OpenSpec.ofChange fnStaleTasksDoneSpec)

/-- ITS FALSE NEIGHBOUR: 'it returns false'. Refute it at one input. -/
def fnStaleTasksDoneWrong : ChangeSpec := { name := "fnStaleTasksDone", fn := fun _ => fun
  | [d] => { results := [.lit (.bool false)], args := [d] }
  | _ => none }
def FnStaleTasksDoneWrongFalsely : Prop := fnStaleTasksDoneRow.holds Try.pinned (OpenSpec.ofChange fnStaleTasksDoneWrong)

/-- 'laws.FnStaleTasksMore': WHATEVER THE INPUT: true; the input reads as it did. -/
def fnStaleTasksMoreSpec : ChangeSpec := { name := "fnStaleTasksMore", fn := fun _ => fun
  | [d] => { results := [.lit (.bool true)], args := [d] }
  | _ => none }
def fnStaleTasksMoreRow : OpenClaim := { program := "ytggekdohcancbaa", sum := "82d345501d295ab9232ba5ef23458da8959b8d37dae2b8058b23806e2e185d63", func := "loop.example/buildscheduler/laws.FnStaleTasksMore", spec := "fnStaleTasksMore", apart := false }
def FnStaleTasksMoreSaid : Prop := fnStaleTasksMoreRow.holds Try.pinned (OpenSpec.ofChange fnStaleTasksMoreSpec)

/-- ITS FALSE NEIGHBOUR: 'it returns false'. Refute it at one input. -/
def fnStaleTasksMoreWrong : ChangeSpec := { name := "fnStaleTasksMore", fn := fun _ => fun
  | [d] => { results := [.lit (.bool false)], args := [d] }
  | _ => none }
def FnStaleTasksMoreWrongFalsely : Prop := fnStaleTasksMoreRow.holds Try.pinned (OpenSpec.ofChange fnStaleTasksMoreWrong)

/-- 'laws.FnTaskKeys': WHATEVER THE INPUT: true; the input reads as it did. -/
def fnTaskKeysSpec : ChangeSpec := { name := "fnTaskKeys", fn := fun _ => fun
  | [d] => { results := [.lit (.bool true)], args := [d] }
  | _ => none }
def fnTaskKeysRow : OpenClaim := { program := "ytggekdohcancbaa", sum := "82d345501d295ab9232ba5ef23458da8959b8d37dae2b8058b23806e2e185d63", func := "loop.example/buildscheduler/laws.FnTaskKeys", spec := "fnTaskKeys", apart := false }
def FnTaskKeysSaid : Prop := fnTaskKeysRow.holds Try.pinned (OpenSpec.ofChange fnTaskKeysSpec)

/-- ITS FALSE NEIGHBOUR: 'it returns false'. Refute it at one input. -/
def fnTaskKeysWrong : ChangeSpec := { name := "fnTaskKeys", fn := fun _ => fun
  | [d] => { results := [.lit (.bool false)], args := [d] }
  | _ => none }
def FnTaskKeysWrongFalsely : Prop := fnTaskKeysRow.holds Try.pinned (OpenSpec.ofChange fnTaskKeysWrong)

/-- 'laws.FnTaskKeysChange': WHATEVER THE INPUT: true; the input reads as it did. -/
def fnTaskKeysChangeSpec : ChangeSpec := { name := "fnTaskKeysChange", fn := fun _ => fun
  | [d] => { results := [.lit (.bool true)], args := [d] }
  | _ => none }
def fnTaskKeysChangeRow : OpenClaim := { program := "ytggekdohcancbaa", sum := "82d345501d295ab9232ba5ef23458da8959b8d37dae2b8058b23806e2e185d63", func := "loop.example/buildscheduler/laws.FnTaskKeysChange", spec := "fnTaskKeysChange", apart := false }
def FnTaskKeysChangeSaid : Prop := fnTaskKeysChangeRow.holds Try.pinned (OpenSpec.ofChange fnTaskKeysChangeSpec)

/-- ITS FALSE NEIGHBOUR: 'it returns false'. Refute it at one input. -/
def fnTaskKeysChangeWrong : ChangeSpec := { name := "fnTaskKeysChange", fn := fun _ => fun
  | [d] => { results := [.lit (.bool false)], args := [d] }
  | _ => none }
def FnTaskKeysChangeWrongFalsely : Prop := fnTaskKeysChangeRow.holds Try.pinned (OpenSpec.ofChange fnTaskKeysChangeWrong)

/-- 'laws.FnTaskKeysEqual': WHATEVER THE INPUT: true; the input reads as it did. -/
def fnTaskKeysEqualSpec : ChangeSpec := { name := "fnTaskKeysEqual", fn := fun _ => fun
  | [d] => { results := [.lit (.bool true)], args := [d] }
  | _ => none }
def fnTaskKeysEqualRow : OpenClaim := { program := "ytggekdohcancbaa", sum := "82d345501d295ab9232ba5ef23458da8959b8d37dae2b8058b23806e2e185d63", func := "loop.example/buildscheduler/laws.FnTaskKeysEqual", spec := "fnTaskKeysEqual", apart := false }
def FnTaskKeysEqualSaid : Prop := fnTaskKeysEqualRow.holds Try.pinned (OpenSpec.ofChange fnTaskKeysEqualSpec)

/-- ITS FALSE NEIGHBOUR: 'it returns false'. Refute it at one input. -/
def fnTaskKeysEqualWrong : ChangeSpec := { name := "fnTaskKeysEqual", fn := fun _ => fun
  | [d] => { results := [.lit (.bool false)], args := [d] }
  | _ => none }
def FnTaskKeysEqualWrongFalsely : Prop := fnTaskKeysEqualRow.holds Try.pinned (OpenSpec.ofChange fnTaskKeysEqualWrong)

/-- 'laws.FnMissingKeys': WHATEVER THE INPUT: true; the input reads as it did. -/
def fnMissingKeysSpec : ChangeSpec := { name := "fnMissingKeys", fn := fun _ => fun
  | [d] => { results := [.lit (.bool true)], args := [d] }
  | _ => none }
def fnMissingKeysRow : OpenClaim := { program := "ytggekdohcancbaa", sum := "82d345501d295ab9232ba5ef23458da8959b8d37dae2b8058b23806e2e185d63", func := "loop.example/buildscheduler/laws.FnMissingKeys", spec := "fnMissingKeys", apart := false }
def FnMissingKeysSaid : Prop := fnMissingKeysRow.holds Try.pinned (OpenSpec.ofChange fnMissingKeysSpec)

/-- ITS FALSE NEIGHBOUR: 'it returns false'. Refute it at one input. -/
def fnMissingKeysWrong : ChangeSpec := { name := "fnMissingKeys", fn := fun _ => fun
  | [d] => { results := [.lit (.bool false)], args := [d] }
  | _ => none }
def FnMissingKeysWrongFalsely : Prop := fnMissingKeysRow.holds Try.pinned (OpenSpec.ofChange fnMissingKeysWrong)

/-- 'laws.FnMissingKeysNone': WHATEVER THE INPUT: true; the input reads as it did. -/
def fnMissingKeysNoneSpec : ChangeSpec := { name := "fnMissingKeysNone", fn := fun _ => fun
  | [d] => { results := [.lit (.bool true)], args := [d] }
  | _ => none }
def fnMissingKeysNoneRow : OpenClaim := { program := "ytggekdohcancbaa", sum := "82d345501d295ab9232ba5ef23458da8959b8d37dae2b8058b23806e2e185d63", func := "loop.example/buildscheduler/laws.FnMissingKeysNone", spec := "fnMissingKeysNone", apart := false }
def FnMissingKeysNoneSaid : Prop := fnMissingKeysNoneRow.holds Try.pinned (OpenSpec.ofChange fnMissingKeysNoneSpec)

/-- ITS FALSE NEIGHBOUR: 'it returns false'. Refute it at one input. -/
def fnMissingKeysNoneWrong : ChangeSpec := { name := "fnMissingKeysNone", fn := fun _ => fun
  | [d] => { results := [.lit (.bool false)], args := [d] }
  | _ => none }
def FnMissingKeysNoneWrongFalsely : Prop := fnMissingKeysNoneRow.holds Try.pinned (OpenSpec.ofChange fnMissingKeysNoneWrong)

/-- 'laws.FnMissingKeysStale': WHATEVER THE INPUT: true; the input reads as it did. -/
def fnMissingKeysStaleSpec : ChangeSpec := { name := "fnMissingKeysStale", fn := fun _ => fun
  | [d] => { results := [.lit (.bool true)], args := [d] }
  | _ => none }
def fnMissingKeysStaleRow : OpenClaim := { program := "ytggekdohcancbaa", sum := "82d345501d295ab9232ba5ef23458da8959b8d37dae2b8058b23806e2e185d63", func := "loop.example/buildscheduler/laws.FnMissingKeysStale", spec := "fnMissingKeysStale", apart := false }
def FnMissingKeysStaleSaid : Prop := fnMissingKeysStaleRow.holds Try.pinned (OpenSpec.ofChange fnMissingKeysStaleSpec)

/-- ITS FALSE NEIGHBOUR: 'it returns false'. Refute it at one input. -/
def fnMissingKeysStaleWrong : ChangeSpec := { name := "fnMissingKeysStale", fn := fun _ => fun
  | [d] => { results := [.lit (.bool false)], args := [d] }
  | _ => none }
def FnMissingKeysStaleWrongFalsely : Prop := fnMissingKeysStaleRow.holds Try.pinned (OpenSpec.ofChange fnMissingKeysStaleWrong)

/-- 'laws.FnStaleTime': WHATEVER THE INPUT: true; the input reads as it did. -/
def fnStaleTimeSpec : ChangeSpec := { name := "fnStaleTime", fn := fun _ => fun
  | [d] => { results := [.lit (.bool true)], args := [d] }
  | _ => none }
def fnStaleTimeRow : OpenClaim := { program := "ytggekdohcancbaa", sum := "82d345501d295ab9232ba5ef23458da8959b8d37dae2b8058b23806e2e185d63", func := "loop.example/buildscheduler/laws.FnStaleTime", spec := "fnStaleTime", apart := false }
def FnStaleTimeSaid : Prop := fnStaleTimeRow.holds Try.pinned (OpenSpec.ofChange fnStaleTimeSpec)

/-- ITS FALSE NEIGHBOUR: 'it returns false'. Refute it at one input. -/
def fnStaleTimeWrong : ChangeSpec := { name := "fnStaleTime", fn := fun _ => fun
  | [d] => { results := [.lit (.bool false)], args := [d] }
  | _ => none }
def FnStaleTimeWrongFalsely : Prop := fnStaleTimeRow.holds Try.pinned (OpenSpec.ofChange fnStaleTimeWrong)

/-- 'laws.FnStaleTimeParts': WHATEVER THE INPUT: true; the input reads as it did. -/
def fnStaleTimePartsSpec : ChangeSpec := { name := "fnStaleTimeParts", fn := fun _ => fun
  | [d] => { results := [.lit (.bool true)], args := [d] }
  | _ => none }
def fnStaleTimePartsRow : OpenClaim := { program := "ytggekdohcancbaa", sum := "82d345501d295ab9232ba5ef23458da8959b8d37dae2b8058b23806e2e185d63", func := "loop.example/buildscheduler/laws.FnStaleTimeParts", spec := "fnStaleTimeParts", apart := false }
def FnStaleTimePartsSaid : Prop := fnStaleTimePartsRow.holds Try.pinned (OpenSpec.ofChange fnStaleTimePartsSpec)

/-- ITS FALSE NEIGHBOUR: 'it returns false'. Refute it at one input. -/
def fnStaleTimePartsWrong : ChangeSpec := { name := "fnStaleTimeParts", fn := fun _ => fun
  | [d] => { results := [.lit (.bool false)], args := [d] }
  | _ => none }
def FnStaleTimePartsWrongFalsely : Prop := fnStaleTimePartsRow.holds Try.pinned (OpenSpec.ofChange fnStaleTimePartsWrong)

/- THE SECOND FORM. 'bulk': how many values and letters a reading holds, each counted each time it is reached (what is shared counts as often as it is met; a slice's spare places count too). A statement '..UptoSaid' is the law's where the arguments, and the package variables that the reading takes, are together of bulk at most 1048576: NARROWER than '..Said'. Prove '..Said' where nothing that the law and all that it calls make is longer than what came in: it says more and counts as full. Else prove '..UptoSaid'. A law counts once. -/
mutual
def uptoBulk {H : Type} : DataW H → Nat
  | .lit (.string bytes) => bytes.length + 1
  | .lit _ => 1
  | .nil => 1
  | .ptr d => uptoBulk d + 1
  | .slice elems spare => uptoBulkAll elems + uptoBulkAll spare + 1
  | .agg parts => uptoBulkAll parts + 1
  | .iface _ d => uptoBulk d + 1
  | .map entries => uptoBulkEntries entries + 1
  | .held _ => 1
def uptoBulkAll {H : Type} : List (DataW H) → Nat
  | [] => 0
  | d :: r => uptoBulk d + uptoBulkAll r
def uptoBulkEntries {H : Type} : List (Lit × DataW H) → Nat
  | [] => 0
  | x :: r => uptoBulkEntry x + uptoBulkEntries r
def uptoBulkEntry {H : Type} : Lit × DataW H → Nat
  | (.string bytes, d) => bytes.length + uptoBulk d + 1
  | (_, d) => uptoBulk d + 1
 end
def uptoSmall : (H : Type) → List (DataW H) → Bool := fun _ ds => decide (uptoBulkAll ds ≤ 1048576)
def OpenSpec.upto (s : _root_.Go.ChangeSpec) : _root_.Go.OpenSpec := { _root_.Go.OpenSpec.ofChange s with cond := some uptoSmall }

/-- 'laws.FnStaleTasks', WHERE WHAT IT READS IS OF BULK AT MOST 1048576: true; the input reads as it did. -/
def fnStaleTasksUptoRow : OpenClaim := { program := "ytggekdohcancbaa", sum := "82d345501d295ab9232ba5ef23458da8959b8d37dae2b8058b23806e2e185d63", func := "loop.example/buildscheduler/laws.FnStaleTasks", spec := "fnStaleTasks", apart := false, narrowed := true }
def FnStaleTasksUptoSaid : Prop := fnStaleTasksUptoRow.holds Try.pinned (OpenSpec.upto fnStaleTasksSpec)

/-- 'laws.FnStaleTasksAgain', WHERE WHAT IT READS IS OF BULK AT MOST 1048576: true; the input reads as it did. -/
def fnStaleTasksAgainUptoRow : OpenClaim := { program := "ytggekdohcancbaa", sum := "82d345501d295ab9232ba5ef23458da8959b8d37dae2b8058b23806e2e185d63", func := "loop.example/buildscheduler/laws.FnStaleTasksAgain", spec := "fnStaleTasksAgain", apart := false, narrowed := true }
def FnStaleTasksAgainUptoSaid : Prop := fnStaleTasksAgainUptoRow.holds Try.pinned (OpenSpec.upto fnStaleTasksAgainSpec)

/-- 'laws.FnStaleTasksDone', WHERE WHAT IT READS IS OF BULK AT MOST 1048576: true; the input reads as it did. -/
def fnStaleTasksDoneUptoRow : OpenClaim := { program := "ytggekdohcancbaa", sum := "82d345501d295ab9232ba5ef23458da8959b8d37dae2b8058b23806e2e185d63", func := "loop.example/buildscheduler/laws.FnStaleTasksDone", spec := "fnStaleTasksDone", apart := false, narrowed := true }
def FnStaleTasksDoneUptoSaid : Prop := fnStaleTasksDoneUptoRow.holds Try.pinned (OpenSpec.upto fnStaleTasksDoneSpec)

/-- 'laws.FnStaleTasksMore', WHERE WHAT IT READS IS OF BULK AT MOST 1048576: true; the input reads as it did. -/
def fnStaleTasksMoreUptoRow : OpenClaim := { program := "ytggekdohcancbaa", sum := "82d345501d295ab9232ba5ef23458da8959b8d37dae2b8058b23806e2e185d63", func := "loop.example/buildscheduler/laws.FnStaleTasksMore", spec := "fnStaleTasksMore", apart := false, narrowed := true }
def FnStaleTasksMoreUptoSaid : Prop := fnStaleTasksMoreUptoRow.holds Try.pinned (OpenSpec.upto fnStaleTasksMoreSpec)

/-- 'laws.FnTaskKeys', WHERE WHAT IT READS IS OF BULK AT MOST 1048576: true; the input reads as it did. -/
def fnTaskKeysUptoRow : OpenClaim := { program := "ytggekdohcancbaa", sum := "82d345501d295ab9232ba5ef23458da8959b8d37dae2b8058b23806e2e185d63", func := "loop.example/buildscheduler/laws.FnTaskKeys", spec := "fnTaskKeys", apart := false, narrowed := true }
def FnTaskKeysUptoSaid : Prop := fnTaskKeysUptoRow.holds Try.pinned (OpenSpec.upto fnTaskKeysSpec)

/-- 'laws.FnTaskKeysChange', WHERE WHAT IT READS IS OF BULK AT MOST 1048576: true; the input reads as it did. -/
def fnTaskKeysChangeUptoRow : OpenClaim := { program := "ytggekdohcancbaa", sum := "82d345501d295ab9232ba5ef23458da8959b8d37dae2b8058b23806e2e185d63", func := "loop.example/buildscheduler/laws.FnTaskKeysChange", spec := "fnTaskKeysChange", apart := false, narrowed := true }
def FnTaskKeysChangeUptoSaid : Prop := fnTaskKeysChangeUptoRow.holds Try.pinned (OpenSpec.upto fnTaskKeysChangeSpec)

/-- 'laws.FnTaskKeysEqual', WHERE WHAT IT READS IS OF BULK AT MOST 1048576: true; the input reads as it did. -/
def fnTaskKeysEqualUptoRow : OpenClaim := { program := "ytggekdohcancbaa", sum := "82d345501d295ab9232ba5ef23458da8959b8d37dae2b8058b23806e2e185d63", func := "loop.example/buildscheduler/laws.FnTaskKeysEqual", spec := "fnTaskKeysEqual", apart := false, narrowed := true }
def FnTaskKeysEqualUptoSaid : Prop := fnTaskKeysEqualUptoRow.holds Try.pinned (OpenSpec.upto fnTaskKeysEqualSpec)

/-- 'laws.FnMissingKeys', WHERE WHAT IT READS IS OF BULK AT MOST 1048576: true; the input reads as it did. -/
def fnMissingKeysUptoRow : OpenClaim := { program := "ytggekdohcancbaa", sum := "82d345501d295ab9232ba5ef23458da8959b8d37dae2b8058b23806e2e185d63", func := "loop.example/buildscheduler/laws.FnMissingKeys", spec := "fnMissingKeys", apart := false, narrowed := true }
def FnMissingKeysUptoSaid : Prop := fnMissingKeysUptoRow.holds Try.pinned (OpenSpec.upto fnMissingKeysSpec)

/-- 'laws.FnMissingKeysNone', WHERE WHAT IT READS IS OF BULK AT MOST 1048576: true; the input reads as it did. -/
def fnMissingKeysNoneUptoRow : OpenClaim := { program := "ytggekdohcancbaa", sum := "82d345501d295ab9232ba5ef23458da8959b8d37dae2b8058b23806e2e185d63", func := "loop.example/buildscheduler/laws.FnMissingKeysNone", spec := "fnMissingKeysNone", apart := false, narrowed := true }
def FnMissingKeysNoneUptoSaid : Prop := fnMissingKeysNoneUptoRow.holds Try.pinned (OpenSpec.upto fnMissingKeysNoneSpec)

/-- 'laws.FnMissingKeysStale', WHERE WHAT IT READS IS OF BULK AT MOST 1048576: true; the input reads as it did. -/
def fnMissingKeysStaleUptoRow : OpenClaim := { program := "ytggekdohcancbaa", sum := "82d345501d295ab9232ba5ef23458da8959b8d37dae2b8058b23806e2e185d63", func := "loop.example/buildscheduler/laws.FnMissingKeysStale", spec := "fnMissingKeysStale", apart := false, narrowed := true }
def FnMissingKeysStaleUptoSaid : Prop := fnMissingKeysStaleUptoRow.holds Try.pinned (OpenSpec.upto fnMissingKeysStaleSpec)

/-- 'laws.FnStaleTime', WHERE WHAT IT READS IS OF BULK AT MOST 1048576: true; the input reads as it did. -/
def fnStaleTimeUptoRow : OpenClaim := { program := "ytggekdohcancbaa", sum := "82d345501d295ab9232ba5ef23458da8959b8d37dae2b8058b23806e2e185d63", func := "loop.example/buildscheduler/laws.FnStaleTime", spec := "fnStaleTime", apart := false, narrowed := true }
def FnStaleTimeUptoSaid : Prop := fnStaleTimeUptoRow.holds Try.pinned (OpenSpec.upto fnStaleTimeSpec)

/-- 'laws.FnStaleTimeParts', WHERE WHAT IT READS IS OF BULK AT MOST 1048576: true; the input reads as it did. -/
def fnStaleTimePartsUptoRow : OpenClaim := { program := "ytggekdohcancbaa", sum := "82d345501d295ab9232ba5ef23458da8959b8d37dae2b8058b23806e2e185d63", func := "loop.example/buildscheduler/laws.FnStaleTimeParts", spec := "fnStaleTimeParts", apart := false, narrowed := true }
def FnStaleTimePartsUptoSaid : Prop := fnStaleTimePartsUptoRow.holds Try.pinned (OpenSpec.upto fnStaleTimePartsSpec)

end Rows
end Go.Proofs.Ytggekdohcancbaa
