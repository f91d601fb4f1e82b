/-
  No cell of these rows narrows 'for every input' (looked for: loops, veiled, ifaces, maps, wideKeys, modest, calm, conditions, laid).
  DERIVED. THE GIVEN ROWS OF THIS SEAT. 2 by the template 'for every input the law returns true; each argument reads behind the call as it read before'; 0 by the template 'total and deterministic' (their statements: YthllincpbiafcaaTotals.lean).
  GIVEN WITH THE SEED: the statements are not yours to turn. If you find one false, say at which input.
  Laid BY PROGRAM, IN A SANDBOX (cutbox-rows.mjs): the forced cells as the released guide's own fill.sh prints them over the translation 0a49d5cf726bf45f… (all of the seat's roots in one cut). By AI agents, Wed Nov 11 2026. No macro, syntax, notation, axiom, sorry.
-/
import Derived.Test.YthllincpbiafcaaChecked
import GoSem.Claim
import GoSem.ClaimJoined
import GoSem.ClaimMapViews
import Derived.JoinedTies
import Derived.KernelRfl
namespace Go.Proofs.Ythllincpbiafcaa
/- THE CELL 'sum', in the pinned program and in every row, IS THE sha256 OF THE DUMP (.gsa) THAT YthllincpbiafcaaProg.lean LOADS. Nothing in Lean hashes anything: it is a label: what it is worth is what the hold of that sum in a sandbox is worth. -/
noncomputable def Try.pinned : Pinned := { name := "ythllincpbiafcaa", sum := "0a49d5cf726bf45fcf6abcf2d8a1fd3bf4a6d01e945e6eea4957b476fdeb967f", checked := Try.checked }
namespace Rows
def none {H : Type} : Left H := { results := [], args := [] }

/-- 'laws.FnEndTime': WHATEVER THE INPUT: true; the input reads as it did. -/
def fnEndTimeSpec : ChangeSpec := { name := "fnEndTime", fn := fun _ => fun
  | [d] => { results := [.lit (.bool true)], args := [d] }
  | _ => none }
def fnEndTimeRow : OpenClaim := { program := "ythllincpbiafcaa", sum := "0a49d5cf726bf45fcf6abcf2d8a1fd3bf4a6d01e945e6eea4957b476fdeb967f", func := "loop.example/buildscheduler/laws.FnEndTime", spec := "fnEndTime", apart := false }
def FnEndTimeSaid : Prop := fnEndTimeRow.holds Try.pinned (OpenSpec.ofChange fnEndTimeSpec)

/-- ITS FALSE NEIGHBOUR: 'it returns false'. Refute it at one input. -/
def fnEndTimeWrong : ChangeSpec := { name := "fnEndTime", fn := fun _ => fun
  | [d] => { results := [.lit (.bool false)], args := [d] }
  | _ => none }
def FnEndTimeWrongFalsely : Prop := fnEndTimeRow.holds Try.pinned (OpenSpec.ofChange fnEndTimeWrong)

/-- 'laws.FnOutcomesUsers': WHATEVER THE INPUT: true; the input reads as it did. -/
def fnOutcomesUsersSpec : ChangeSpec := { name := "fnOutcomesUsers", fn := fun _ => fun
  | [d] => { results := [.lit (.bool true)], args := [d] }
  | _ => none }
def fnOutcomesUsersRow : OpenClaim := { program := "ythllincpbiafcaa", sum := "0a49d5cf726bf45fcf6abcf2d8a1fd3bf4a6d01e945e6eea4957b476fdeb967f", func := "loop.example/buildscheduler/laws.FnOutcomesUsers", spec := "fnOutcomesUsers", apart := false }
def FnOutcomesUsersSaid : Prop := fnOutcomesUsersRow.holds Try.pinned (OpenSpec.ofChange fnOutcomesUsersSpec)

/-- ITS FALSE NEIGHBOUR: 'it returns false'. Refute it at one input. -/
def fnOutcomesUsersWrong : ChangeSpec := { name := "fnOutcomesUsers", fn := fun _ => fun
  | [d] => { results := [.lit (.bool false)], args := [d] }
  | _ => none }
def FnOutcomesUsersWrongFalsely : Prop := fnOutcomesUsersRow.holds Try.pinned (OpenSpec.ofChange fnOutcomesUsersWrong)

/- THE SECOND FORM. 'bulk': how many values and letters a reading holds, each counted each time it is reached (what is shared counts as often as it is met; a slice's spare places count too). A statement '..UptoSaid' is the law's where the arguments, and the package variables that the reading takes, are together of bulk at most 1048576: NARROWER than '..Said'. Prove '..Said' where nothing that the law and all that it calls make is longer than what came in: it says more and counts as full. Else prove '..UptoSaid'. A law counts once. -/
mutual
def uptoBulk {H : Type} : DataW H → Nat
  | .lit (.string bytes) => bytes.length + 1
  | .lit _ => 1
  | .nil => 1
  | .ptr d => uptoBulk d + 1
  | .slice elems spare => uptoBulkAll elems + uptoBulkAll spare + 1
  | .agg parts => uptoBulkAll parts + 1
  | .iface _ d => uptoBulk d + 1
  | .map entries => uptoBulkEntries entries + 1
  | .held _ => 1
def uptoBulkAll {H : Type} : List (DataW H) → Nat
  | [] => 0
  | d :: r => uptoBulk d + uptoBulkAll r
def uptoBulkEntries {H : Type} : List (Lit × DataW H) → Nat
  | [] => 0
  | x :: r => uptoBulkEntry x + uptoBulkEntries r
def uptoBulkEntry {H : Type} : Lit × DataW H → Nat
  | (.string bytes, d) => bytes.length + uptoBulk d + 1
  | (_, d) => uptoBulk d + 1
 end
def uptoSmall : (H : Type) → List (DataW H) → Bool := fun _ ds => decide (uptoBulkAll ds ≤ 1048576)
def OpenSpec.upto (s : _root_.Go.ChangeSpec) : _root_.Go.OpenSpec := { _root_.Go.OpenSpec.ofChange s with cond := some uptoSmall }

/-- 'laws.FnEndTime', WHERE WHAT IT READS IS OF BULK AT MOST 1048576: true; the input reads as it did. -/
def fnEndTimeUptoRow : OpenClaim := { program := "ythllincpbiafcaa", sum := "0a49d5cf726bf45fcf6abcf2d8a1fd3bf4a6d01e945e6eea4957b476fdeb967f", func := "loop.example/buildscheduler/laws.FnEndTime", spec := "fnEndTime", apart := false, narrowed := true }
def FnEndTimeUptoSaid : Prop := fnEndTimeUptoRow.holds Try.pinned (OpenSpec.upto fnEndTimeSpec)

/-- 'laws.FnOutcomesUsers', WHERE WHAT IT READS IS OF BULK AT MOST 1048576: true; the input reads as it did. -/
def fnOutcomesUsersUptoRow : OpenClaim := { program := "ythllincpbiafcaa", sum := "0a49d5cf726bf45fcf6abcf2d8a1fd3bf4a6d01e945e6eea4957b476fdeb967f", func := "loop.example/buildscheduler/laws.FnOutcomesUsers", spec := "fnOutcomesUsers", apart := false, narrowed := true }
def FnOutcomesUsersUptoSaid : Prop := fnOutcomesUsersUptoRow.holds Try.pinned (OpenSpec.upto fnOutcomesUsersSpec)

end Rows
end Go.Proofs.Ythllincpbiafcaa
