/-
  No cell of these rows narrows 'for every input' (looked for: loops, veiled, ifaces, maps, wideKeys, modest, calm, conditions, laid).
  DERIVED. THE GIVEN ROWS OF THIS SEAT. 12 by the template 'for every input the law returns true; each argument reads behind the call as it read before'; 0 by the template 'total and deterministic' (their statements: YtiokblodjhmjmaaTotals.lean).
  GIVEN WITH THE SEED: the statements are not yours to turn. If you find one false, say at which input.
  Laid BY PROGRAM, IN A SANDBOX (cutbox-rows.mjs): the forced cells as the released guide's own fill.sh prints them over the translation 11628d509b8010c8… (all of the seat's roots in one cut). By AI agents, Wed Nov 11 2026. No macro, syntax, notation, axiom, sorry.
-/
import Derived.Test.YtiokblodjhmjmaaChecked
import GoSem.Claim
import GoSem.ClaimJoined
import GoSem.ClaimMapViews
import Derived.JoinedTies
import Derived.KernelRfl
namespace Go.Proofs.Ytiokblodjhmjmaa
/- THE CELL 'sum', in the pinned program and in every row, IS THE sha256 OF THE DUMP (.gsa) THAT YtiokblodjhmjmaaProg.lean LOADS. Nothing in Lean hashes anything: it is a label: what it is worth is what the hold of that sum in a sandbox is worth. -/
noncomputable def Try.pinned : Pinned := { name := "ytiokblodjhmjmaa", sum := "11628d509b8010c8c7753f2a23115a46bdd7a42184c2bc7465159ccef399f0e6", checked := Try.checked }
namespace Rows
def none {H : Type} : Left H := { results := [], args := [] }

/-- 'laws.FnValidGraph': WHATEVER THE INPUT: true; the input reads as it did. -/
def fnValidGraphSpec : ChangeSpec := { name := "fnValidGraph", fn := fun _ => fun
  | [d] => { results := [.lit (.bool true)], args := [d] }
  | _ => none }
def fnValidGraphRow : OpenClaim := { program := "ytiokblodjhmjmaa", sum := "11628d509b8010c8c7753f2a23115a46bdd7a42184c2bc7465159ccef399f0e6", func := "loop.example/buildscheduler/laws.FnValidGraph", spec := "fnValidGraph", apart := false }
def FnValidGraphSaid : Prop := fnValidGraphRow.holds Try.pinned (OpenSpec.ofChange fnValidGraphSpec)

/-- ITS FALSE NEIGHBOUR: 'it returns false'. Refute it at one input. -/
def fnValidGraphWrong : ChangeSpec := { name := "fnValidGraph", fn := fun _ => fun
  | [d] => { results := [.lit (.bool false)], args := [d] }
  | _ => none }
def FnValidGraphWrongFalsely : Prop := fnValidGraphRow.holds Try.pinned (OpenSpec.ofChange fnValidGraphWrong)

/-- 'laws.FnTopOrder': WHATEVER THE INPUT: true; the input reads as it did. -/
def fnTopOrderSpec : ChangeSpec := { name := "fnTopOrder", fn := fun _ => fun
  | [d] => { results := [.lit (.bool true)], args := [d] }
  | _ => none }
def fnTopOrderRow : OpenClaim := { program := "ytiokblodjhmjmaa", sum := "11628d509b8010c8c7753f2a23115a46bdd7a42184c2bc7465159ccef399f0e6", func := "loop.example/buildscheduler/laws.FnTopOrder", spec := "fnTopOrder", apart := false }
def FnTopOrderSaid : Prop := fnTopOrderRow.holds Try.pinned (OpenSpec.ofChange fnTopOrderSpec)

/-- ITS FALSE NEIGHBOUR: 'it returns false'. Refute it at one input. -/
def fnTopOrderWrong : ChangeSpec := { name := "fnTopOrder", fn := fun _ => fun
  | [d] => { results := [.lit (.bool false)], args := [d] }
  | _ => none }
def FnTopOrderWrongFalsely : Prop := fnTopOrderRow.holds Try.pinned (OpenSpec.ofChange fnTopOrderWrong)

/-- 'laws.FnTopOrderLeast': WHATEVER THE INPUT: true; the input reads as it did. -/
def fnTopOrderLeastSpec : ChangeSpec := { name := "fnTopOrderLeast", fn := fun _ => fun
  | [d] => { results := [.lit (.bool true)], args := [d] }
  | _ => none }
def fnTopOrderLeastRow : OpenClaim := { program := "ytiokblodjhmjmaa", sum := "11628d509b8010c8c7753f2a23115a46bdd7a42184c2bc7465159ccef399f0e6", func := "loop.example/buildscheduler/laws.FnTopOrderLeast", spec := "fnTopOrderLeast", apart := false }
def FnTopOrderLeastSaid : Prop := fnTopOrderLeastRow.holds Try.pinned (OpenSpec.ofChange fnTopOrderLeastSpec)

/-- ITS FALSE NEIGHBOUR: 'it returns false'. Refute it at one input. -/
def fnTopOrderLeastWrong : ChangeSpec := { name := "fnTopOrderLeast", fn := fun _ => fun
  | [d] => { results := [.lit (.bool false)], args := [d] }
  | _ => none }
def FnTopOrderLeastWrongFalsely : Prop := fnTopOrderLeastRow.holds Try.pinned (OpenSpec.ofChange fnTopOrderLeastWrong)

/-- 'laws.FnStuckTasks': WHATEVER THE INPUT: true; the input reads as it did. -/
def fnStuckTasksSpec : ChangeSpec := { name := "fnStuckTasks", fn := fun _ => fun
  | [d] => { results := [.lit (.bool true)], args := [d] }
  | _ => none }
def fnStuckTasksRow : OpenClaim := { program := "ytiokblodjhmjmaa", sum := "11628d509b8010c8c7753f2a23115a46bdd7a42184c2bc7465159ccef399f0e6", func := "loop.example/buildscheduler/laws.FnStuckTasks", spec := "fnStuckTasks", apart := false }
def FnStuckTasksSaid : Prop := fnStuckTasksRow.holds Try.pinned (OpenSpec.ofChange fnStuckTasksSpec)

/-- ITS FALSE NEIGHBOUR: 'it returns false'. Refute it at one input. -/
def fnStuckTasksWrong : ChangeSpec := { name := "fnStuckTasks", fn := fun _ => fun
  | [d] => { results := [.lit (.bool false)], args := [d] }
  | _ => none }
def FnStuckTasksWrongFalsely : Prop := fnStuckTasksRow.holds Try.pinned (OpenSpec.ofChange fnStuckTasksWrong)

/-- 'laws.FnStuckTasksNeeds': WHATEVER THE INPUT: true; the input reads as it did. -/
def fnStuckTasksNeedsSpec : ChangeSpec := { name := "fnStuckTasksNeeds", fn := fun _ => fun
  | [d] => { results := [.lit (.bool true)], args := [d] }
  | _ => none }
def fnStuckTasksNeedsRow : OpenClaim := { program := "ytiokblodjhmjmaa", sum := "11628d509b8010c8c7753f2a23115a46bdd7a42184c2bc7465159ccef399f0e6", func := "loop.example/buildscheduler/laws.FnStuckTasksNeeds", spec := "fnStuckTasksNeeds", apart := false }
def FnStuckTasksNeedsSaid : Prop := fnStuckTasksNeedsRow.holds Try.pinned (OpenSpec.ofChange fnStuckTasksNeedsSpec)

/-- ITS FALSE NEIGHBOUR: 'it returns false'. Refute it at one input. -/
def fnStuckTasksNeedsWrong : ChangeSpec := { name := "fnStuckTasksNeeds", fn := fun _ => fun
  | [d] => { results := [.lit (.bool false)], args := [d] }
  | _ => none }
def FnStuckTasksNeedsWrongFalsely : Prop := fnStuckTasksNeedsRow.holds Try.pinned (OpenSpec.ofChange fnStuckTasksNeedsWrong)

/-- 'laws.FnAllNeeds': WHATEVER THE INPUT: true; the input reads as it did. -/
def fnAllNeedsSpec : ChangeSpec := { name := "fnAllNeeds", fn := fun _ => fun
  | [d] => { results := [.lit (.bool true)], args := [d] }
  | _ => none }
def fnAllNeedsRow : OpenClaim := { program := "ytiokblodjhmjmaa", sum := "11628d509b8010c8c7753f2a23115a46bdd7a42184c2bc7465159ccef399f0e6", func := "loop.example/buildscheduler/laws.FnAllNeeds", spec := "fnAllNeeds", apart := false }
def FnAllNeedsSaid : Prop := fnAllNeedsRow.holds Try.pinned (OpenSpec.ofChange fnAllNeedsSpec)

/-- ITS FALSE NEIGHBOUR: 'it returns false'. Refute it at one input. -/
def fnAllNeedsWrong : ChangeSpec := { name := "fnAllNeeds", fn := fun _ => fun
  | [d] => { results := [.lit (.bool false)], args := [d] }
  | _ => none }
def FnAllNeedsWrongFalsely : Prop := fnAllNeedsRow.holds Try.pinned (OpenSpec.ofChange fnAllNeedsWrong)

/-- 'laws.FnAllUsers': WHATEVER THE INPUT: true; the input reads as it did. -/
def fnAllUsersSpec : ChangeSpec := { name := "fnAllUsers", fn := fun _ => fun
  | [d] => { results := [.lit (.bool true)], args := [d] }
  | _ => none }
def fnAllUsersRow : OpenClaim := { program := "ytiokblodjhmjmaa", sum := "11628d509b8010c8c7753f2a23115a46bdd7a42184c2bc7465159ccef399f0e6", func := "loop.example/buildscheduler/laws.FnAllUsers", spec := "fnAllUsers", apart := false }
def FnAllUsersSaid : Prop := fnAllUsersRow.holds Try.pinned (OpenSpec.ofChange fnAllUsersSpec)

/-- ITS FALSE NEIGHBOUR: 'it returns false'. Refute it at one input. -/
def fnAllUsersWrong : ChangeSpec := { name := "fnAllUsers", fn := fun _ => fun
  | [d] => { results := [.lit (.bool false)], args := [d] }
  | _ => none }
def FnAllUsersWrongFalsely : Prop := fnAllUsersRow.holds Try.pinned (OpenSpec.ofChange fnAllUsersWrong)

/-- 'laws.FnAllUsersOrder': WHATEVER THE INPUT: true; the input reads as it did. -/
def fnAllUsersOrderSpec : ChangeSpec := { name := "fnAllUsersOrder", fn := fun _ => fun
  | [d] => { results := [.lit (.bool true)], args := [d] }
  | _ => none }
def fnAllUsersOrderRow : OpenClaim := { program := "ytiokblodjhmjmaa", sum := "11628d509b8010c8c7753f2a23115a46bdd7a42184c2bc7465159ccef399f0e6", func := "loop.example/buildscheduler/laws.FnAllUsersOrder", spec := "fnAllUsersOrder", apart := false }
def FnAllUsersOrderSaid : Prop := fnAllUsersOrderRow.holds Try.pinned (OpenSpec.ofChange fnAllUsersOrderSpec)

/-- ITS FALSE NEIGHBOUR: 'it returns false'. Refute it at one input. -/
def fnAllUsersOrderWrong : ChangeSpec := { name := "fnAllUsersOrder", fn := fun _ => fun
  | [d] => { results := [.lit (.bool false)], args := [d] }
  | _ => none }
def FnAllUsersOrderWrongFalsely : Prop := fnAllUsersOrderRow.holds Try.pinned (OpenSpec.ofChange fnAllUsersOrderWrong)

/-- 'laws.FnHeadTimes': WHATEVER THE INPUT: true; the input reads as it did. -/
def fnHeadTimesSpec : ChangeSpec := { name := "fnHeadTimes", fn := fun _ => fun
  | [d] => { results := [.lit (.bool true)], args := [d] }
  | _ => none }
def fnHeadTimesRow : OpenClaim := { program := "ytiokblodjhmjmaa", sum := "11628d509b8010c8c7753f2a23115a46bdd7a42184c2bc7465159ccef399f0e6", func := "loop.example/buildscheduler/laws.FnHeadTimes", spec := "fnHeadTimes", apart := false }
def FnHeadTimesSaid : Prop := fnHeadTimesRow.holds Try.pinned (OpenSpec.ofChange fnHeadTimesSpec)

/-- ITS FALSE NEIGHBOUR: 'it returns false'. Refute it at one input. -/
def fnHeadTimesWrong : ChangeSpec := { name := "fnHeadTimes", fn := fun _ => fun
  | [d] => { results := [.lit (.bool false)], args := [d] }
  | _ => none }
def FnHeadTimesWrongFalsely : Prop := fnHeadTimesRow.holds Try.pinned (OpenSpec.ofChange fnHeadTimesWrong)

/-- 'laws.FnTailTimes': WHATEVER THE INPUT: true; the input reads as it did. -/
def fnTailTimesSpec : ChangeSpec := { name := "fnTailTimes", fn := fun _ => fun
  | [d] => { results := [.lit (.bool true)], args := [d] }
  | _ => none }
def fnTailTimesRow : OpenClaim := { program := "ytiokblodjhmjmaa", sum := "11628d509b8010c8c7753f2a23115a46bdd7a42184c2bc7465159ccef399f0e6", func := "loop.example/buildscheduler/laws.FnTailTimes", spec := "fnTailTimes", apart := false }
def FnTailTimesSaid : Prop := fnTailTimesRow.holds Try.pinned (OpenSpec.ofChange fnTailTimesSpec)

/-- ITS FALSE NEIGHBOUR: 'it returns false'. Refute it at one input. -/
def fnTailTimesWrong : ChangeSpec := { name := "fnTailTimes", fn := fun _ => fun
  | [d] => { results := [.lit (.bool false)], args := [d] }
  | _ => none }
def FnTailTimesWrongFalsely : Prop := fnTailTimesRow.holds Try.pinned (OpenSpec.ofChange fnTailTimesWrong)

/-- 'laws.FnTailTimesHeads': WHATEVER THE INPUT: true; the input reads as it did. -/
def fnTailTimesHeadsSpec : ChangeSpec := { name := "fnTailTimesHeads", fn := fun _ => fun
  | [d] => { results := [.lit (.bool true)], args := [d] }
  | _ => none }
def fnTailTimesHeadsRow : OpenClaim := { program := "ytiokblodjhmjmaa", sum := "11628d509b8010c8c7753f2a23115a46bdd7a42184c2bc7465159ccef399f0e6", func := "loop.example/buildscheduler/laws.FnTailTimesHeads", spec := "fnTailTimesHeads", apart := false }
def FnTailTimesHeadsSaid : Prop := fnTailTimesHeadsRow.holds Try.pinned (OpenSpec.ofChange fnTailTimesHeadsSpec)

/-- ITS FALSE NEIGHBOUR: 'it returns false'. Refute it at one input. -/
def fnTailTimesHeadsWrong : ChangeSpec := { name := "fnTailTimesHeads", fn := fun _ => fun
  | [d] => { results := [.lit (.bool false)], args := [d] }
  | _ => none }
def FnTailTimesHeadsWrongFalsely : Prop := fnTailTimesHeadsRow.holds Try.pinned (OpenSpec.ofChange fnTailTimesHeadsWrong)

/-- 'laws.FnLongestTime': WHATEVER THE INPUT: true; the input reads as it did. -/
def fnLongestTimeSpec : ChangeSpec := { name := "fnLongestTime", fn := fun _ => fun
  | [d] => { results := [.lit (.bool true)], args := [d] }
  | _ => none }
def fnLongestTimeRow : OpenClaim := { program := "ytiokblodjhmjmaa", sum := "11628d509b8010c8c7753f2a23115a46bdd7a42184c2bc7465159ccef399f0e6", func := "loop.example/buildscheduler/laws.FnLongestTime", spec := "fnLongestTime", apart := false }
def FnLongestTimeSaid : Prop := fnLongestTimeRow.holds Try.pinned (OpenSpec.ofChange fnLongestTimeSpec)

/-- ITS FALSE NEIGHBOUR: 'it returns false'. Refute it at one input. -/
def fnLongestTimeWrong : ChangeSpec := { name := "fnLongestTime", fn := fun _ => fun
  | [d] => { results := [.lit (.bool false)], args := [d] }
  | _ => none }
def FnLongestTimeWrongFalsely : Prop := fnLongestTimeRow.holds Try.pinned (OpenSpec.ofChange fnLongestTimeWrong)

/- THE SECOND FORM. 'bulk': how many values and letters a reading holds, each counted each time it is reached (what is shared counts as often as it is met; a slice's spare places count too). A statement '..UptoSaid' is the law's where the arguments, and the package variables that the reading takes, are together of bulk at most 1048576: NARROWER than '..Said'. Prove '..Said' where nothing that the law and all that it calls make is longer than what came in: it says more and counts as full. Else prove '..UptoSaid'. A law counts once. -/
mutual
def uptoBulk {H : Type} : DataW H → Nat
  | .lit (.string bytes) => bytes.length + 1
  | .lit _ => 1
  | .nil => 1
  | .ptr d => uptoBulk d + 1
  | .slice elems spare => uptoBulkAll elems + uptoBulkAll spare + 1
  | .agg parts => uptoBulkAll parts + 1
  | .iface _ d => uptoBulk d + 1
  | .map entries => uptoBulkEntries entries + 1
  | .held _ => 1
def uptoBulkAll {H : Type} : List (DataW H) → Nat
  | [] => 0
  | d :: r => uptoBulk d + uptoBulkAll r
def uptoBulkEntries {H : Type} : List (Lit × DataW H) → Nat
  | [] => 0
  | x :: r => uptoBulkEntry x + uptoBulkEntries r
def uptoBulkEntry {H : Type} : Lit × DataW H → Nat
  | (.string bytes, d) => bytes.length + uptoBulk d + 1
  | (_, d) => uptoBulk d + 1
 end
def uptoSmall : (H : Type) → List (DataW H) → Bool := fun _ ds => decide (uptoBulkAll ds ≤ 1048576)
def OpenSpec.upto (s : _root_.Go.ChangeSpec) : _root_.Go.OpenSpec := { _root_.Go.OpenSpec.ofChange s with cond := some uptoSmall }

/-- 'laws.FnValidGraph', WHERE WHAT IT READS IS OF BULK AT MOST 1048576: true; the input reads as it did. -/
def fnValidGraphUptoRow : OpenClaim := { program := "ytiokblodjhmjmaa", sum := "11628d509b8010c8c7753f2a23115a46bdd7a42184c2bc7465159ccef399f0e6", func := "loop.example/buildscheduler/laws.FnValidGraph", spec := "fnValidGraph", apart := false, narrowed := true }
def FnValidGraphUptoSaid : Prop := fnValidGraphUptoRow.holds Try.pinned (OpenSpec.upto fnValidGraphSpec)

/-- 'laws.FnTopOrder', WHERE WHAT IT READS IS OF BULK AT MOST 1048576: true; the input reads as it did. -/
def fnTopOrderUptoRow : OpenClaim := { program := "ytiokblodjhmjmaa", sum := "11628d509b8010c8c7753f2a23115a46bdd7a42184c2bc7465159ccef399f0e6", func := "loop.example/buildscheduler/laws.FnTopOrder", spec := "fnTopOrder", apart := false, narrowed := true }
def FnTopOrderUptoSaid : Prop := fnTopOrderUptoRow.holds Try.pinned (OpenSpec.upto fnTopOrderSpec)

/-- 'laws.FnTopOrderLeast', WHERE WHAT IT READS IS OF BULK AT MOST 1048576: true; the input reads as it did. -/
def fnTopOrderLeastUptoRow : OpenClaim := { program := "ytiokblodjhmjmaa", sum := "11628d509b8010c8c7753f2a23115a46bdd7a42184c2bc7465159ccef399f0e6", func := "loop.example/buildscheduler/laws.FnTopOrderLeast", spec := "fnTopOrderLeast", apart := false, narrowed := true }
def FnTopOrderLeastUptoSaid : Prop := fnTopOrderLeastUptoRow.holds Try.pinned (OpenSpec.upto fnTopOrderLeastSpec)

/-- 'laws.FnStuckTasks', WHERE WHAT IT READS IS OF BULK AT MOST 1048576: true; the input reads as it did. -/
def fnStuckTasksUptoRow : OpenClaim := { program := "ytiokblodjhmjmaa", sum := "11628d509b8010c8c7753f2a23115a46bdd7a42184c2bc7465159ccef399f0e6", func := "loop.example/buildscheduler/laws.FnStuckTasks", spec := "fnStuckTasks", apart := false, narrowed := true }
def FnStuckTasksUptoSaid : Prop := fnStuckTasksUptoRow.holds Try.pinned (OpenSpec.upto fnStuckTasksSpec)

/-- 'laws.FnStuckTasksNeeds', WHERE WHAT IT READS IS OF BULK AT MOST 1048576: true; the input reads as it did. -/
def fnStuckTasksNeedsUptoRow : OpenClaim := { program := "ytiokblodjhmjmaa", sum := "11628d509b8010c8c7753f2a23115a46bdd7a42184c2bc7465159ccef399f0e6", func := "loop.example/buildscheduler/laws.FnStuckTasksNeeds", spec := "fnStuckTasksNeeds", apart := false, narrowed := true }
def FnStuckTasksNeedsUptoSaid : Prop := fnStuckTasksNeedsUptoRow.holds Try.pinned (OpenSpec.upto fnStuckTasksNeedsSpec)

/-- 'laws.FnAllNeeds', WHERE WHAT IT READS IS OF BULK AT MOST 1048576: true; the input reads as it did. -/
def fnAllNeedsUptoRow : OpenClaim := { program := "ytiokblodjhmjmaa", sum := "11628d509b8010c8c7753f2a23115a46bdd7a42184c2bc7465159ccef399f0e6", func := "loop.example/buildscheduler/laws.FnAllNeeds", spec := "fnAllNeeds", apart := false, narrowed := true }
def FnAllNeedsUptoSaid : Prop := fnAllNeedsUptoRow.holds Try.pinned (OpenSpec.upto fnAllNeedsSpec)

/-- 'laws.FnAllUsers', WHERE WHAT IT READS IS OF BULK AT MOST 1048576: true; the input reads as it did. -/
def fnAllUsersUptoRow : OpenClaim := { program := "ytiokblodjhmjmaa", sum := "11628d509b8010c8c7753f2a23115a46bdd7a42184c2bc7465159ccef399f0e6", func := "loop.example/buildscheduler/laws.FnAllUsers", spec := "fnAllUsers", apart := false, narrowed := true }
def FnAllUsersUptoSaid : Prop := fnAllUsersUptoRow.holds Try.pinned (OpenSpec.upto fnAllUsersSpec)

/-- 'laws.FnAllUsersOrder', WHERE WHAT IT READS IS OF BULK AT MOST 1048576: true; the input reads as it did. -/
def fnAllUsersOrderUptoRow : OpenClaim := { program := "ytiokblodjhmjmaa", sum := "11628d509b8010c8c7753f2a23115a46bdd7a42184c2bc7465159ccef399f0e6", func := "loop.example/buildscheduler/laws.FnAllUsersOrder", spec := "fnAllUsersOrder", apart := false, narrowed := true }
def FnAllUsersOrderUptoSaid : Prop := fnAllUsersOrderUptoRow.holds Try.pinned (OpenSpec.upto fnAllUsersOrderSpec)

/-- 'laws.FnHeadTimes', WHERE WHAT IT READS IS OF BULK AT MOST 1048576: true; the input reads as it did. -/
def fnHeadTimesUptoRow : OpenClaim := { program := "ytiokblodjhmjmaa", sum := "11628d509b8010c8c7753f2a23115a46bdd7a42184c2bc7465159ccef399f0e6", func := "loop.example/buildscheduler/laws.FnHeadTimes", spec := "fnHeadTimes", apart := false, narrowed := true }
def FnHeadTimesUptoSaid : Prop := fnHeadTimesUptoRow.holds Try.pinned (OpenSpec.upto fnHeadTimesSpec)

/-- 'laws.FnTailTimes', WHERE WHAT IT READS IS OF BULK AT MOST 1048576: true; the input reads as it did. -/
def fnTailTimesUptoRow : OpenClaim := { program := "ytiokblodjhmjmaa", sum := "11628d509b8010c8c7753f2a23115a46bdd7a42184c2bc7465159ccef399f0e6", func := "loop.example/buildscheduler/laws.FnTailTimes", spec := "fnTailTimes", apart := false, narrowed := true }
def FnTailTimesUptoSaid : Prop := fnTailTimesUptoRow.holds Try.pinned (OpenSpec.upto fnTailTimesSpec)

/-- 'laws.FnTailTimesHeads', WHERE WHAT IT READS IS OF BULK AT MOST 1048576: true; the input reads as it did. -/
def fnTailTimesHeadsUptoRow : OpenClaim := { program := "ytiokblodjhmjmaa", sum := "11628d509b8010c8c7753f2a23115a46bdd7a42184c2bc7465159ccef399f0e6", func := "loop.example/buildscheduler/laws.FnTailTimesHeads", spec := "fnTailTimesHeads", apart := false, narrowed := true }
def FnTailTimesHeadsUptoSaid : Prop := fnTailTimesHeadsUptoRow.holds Try.pinned (OpenSpec.upto fnTailTimesHeadsSpec)

/-- 'laws.FnLongestTime', WHERE WHAT IT READS IS OF BULK AT MOST 1048576: true; the input reads as it did. -/
def fnLongestTimeUptoRow : OpenClaim := { program := "ytiokblodjhmjmaa", sum := "11628d509b8010c8c7753f2a23115a46bdd7a42184c2bc7465159ccef399f0e6", func := "loop.example/buildscheduler/laws.FnLongestTime", spec := "fnLongestTime", apart := false, narrowed := true }
def FnLongestTimeUptoSaid : Prop := fnLongestTimeUptoRow.holds Try.pinned (OpenSpec.upto fnLongestTimeSpec)

end Rows
end Go.Proofs.Ytiokblodjhmjmaa
