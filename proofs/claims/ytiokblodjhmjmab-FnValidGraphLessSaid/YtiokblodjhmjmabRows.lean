/-
  No cell of these rows narrows 'for every input' (looked for: loops, veiled, ifaces, maps, wideKeys, modest, calm, conditions, laid).
  DERIVED. THE GIVEN ROWS OF THIS SEAT. 12 by the template 'for every input the law returns true; each argument reads behind the call as it read before'; 0 by the template 'total and deterministic' (their statements: YtiokblodjhmjmabTotals.lean).
  GIVEN WITH THE SEED: the statements are not yours to turn. If you find one false, say at which input.
  Laid BY PROGRAM, IN A SANDBOX (cutbox-rows.mjs): the forced cells as the released guide's own fill.sh prints them over the translation 299a6981040b0c4e… (all of the seat's roots in one cut). By AI agents, Wed Nov 11 2026. No macro, syntax, notation, axiom, sorry.
-/
import Derived.Test.YtiokblodjhmjmabChecked
import GoSem.Claim
import GoSem.ClaimJoined
import GoSem.ClaimMapViews
import Derived.JoinedTies
import Derived.KernelRfl
namespace Go.Proofs.Ytiokblodjhmjmab
/- THE CELL 'sum', in the pinned program and in every row, IS THE sha256 OF THE DUMP (.gsa) THAT YtiokblodjhmjmabProg.lean LOADS. Nothing in Lean hashes anything: it is a label: what it is worth is what the hold of that sum in a sandbox is worth. -/
noncomputable def Try.pinned : Pinned := { name := "ytiokblodjhmjmab", sum := "299a6981040b0c4e45f87b73415ca2d7fbd71cc38891a75fb22a76b488e45955", checked := Try.checked }
namespace Rows
def none {H : Type} : Left H := { results := [], args := [] }

/-- 'laws.FnCriticalChain': WHATEVER THE INPUT: true; the input reads as it did. -/
def fnCriticalChainSpec : ChangeSpec := { name := "fnCriticalChain", fn := fun _ => fun
  | [d] => { results := [.lit (.bool true)], args := [d] }
  | _ => none }
def fnCriticalChainRow : OpenClaim := { program := "ytiokblodjhmjmab", sum := "299a6981040b0c4e45f87b73415ca2d7fbd71cc38891a75fb22a76b488e45955", func := "loop.example/buildscheduler/laws.FnCriticalChain", spec := "fnCriticalChain", apart := false }
def FnCriticalChainSaid : Prop := fnCriticalChainRow.holds Try.pinned (OpenSpec.ofChange fnCriticalChainSpec)

/-- ITS FALSE NEIGHBOUR: 'it returns false'. Refute it at one input. -/
def fnCriticalChainWrong : ChangeSpec := { name := "fnCriticalChain", fn := fun _ => fun
  | [d] => { results := [.lit (.bool false)], args := [d] }
  | _ => none }
def FnCriticalChainWrongFalsely : Prop := fnCriticalChainRow.holds Try.pinned (OpenSpec.ofChange fnCriticalChainWrong)

/-- 'laws.FnCriticalChainSlack': WHATEVER THE INPUT: true; the input reads as it did. -/
def fnCriticalChainSlackSpec : ChangeSpec := { name := "fnCriticalChainSlack", fn := fun _ => fun
  | [d] => { results := [.lit (.bool true)], args := [d] }
  | _ => none }
def fnCriticalChainSlackRow : OpenClaim := { program := "ytiokblodjhmjmab", sum := "299a6981040b0c4e45f87b73415ca2d7fbd71cc38891a75fb22a76b488e45955", func := "loop.example/buildscheduler/laws.FnCriticalChainSlack", spec := "fnCriticalChainSlack", apart := false }
def FnCriticalChainSlackSaid : Prop := fnCriticalChainSlackRow.holds Try.pinned (OpenSpec.ofChange fnCriticalChainSlackSpec)

/-- ITS FALSE NEIGHBOUR: 'it returns false'. Refute it at one input. -/
def fnCriticalChainSlackWrong : ChangeSpec := { name := "fnCriticalChainSlack", fn := fun _ => fun
  | [d] => { results := [.lit (.bool false)], args := [d] }
  | _ => none }
def FnCriticalChainSlackWrongFalsely : Prop := fnCriticalChainSlackRow.holds Try.pinned (OpenSpec.ofChange fnCriticalChainSlackWrong)

/-- 'laws.FnSlackTimes': WHATEVER THE INPUT: true; the input reads as it did. -/
def fnSlackTimesSpec : ChangeSpec := { name := "fnSlackTimes", fn := fun _ => fun
  | [d] => { results := [.lit (.bool true)], args := [d] }
  | _ => none }
def fnSlackTimesRow : OpenClaim := { program := "ytiokblodjhmjmab", sum := "299a6981040b0c4e45f87b73415ca2d7fbd71cc38891a75fb22a76b488e45955", func := "loop.example/buildscheduler/laws.FnSlackTimes", spec := "fnSlackTimes", apart := false }
def FnSlackTimesSaid : Prop := fnSlackTimesRow.holds Try.pinned (OpenSpec.ofChange fnSlackTimesSpec)

/-- ITS FALSE NEIGHBOUR: 'it returns false'. Refute it at one input. -/
def fnSlackTimesWrong : ChangeSpec := { name := "fnSlackTimes", fn := fun _ => fun
  | [d] => { results := [.lit (.bool false)], args := [d] }
  | _ => none }
def FnSlackTimesWrongFalsely : Prop := fnSlackTimesRow.holds Try.pinned (OpenSpec.ofChange fnSlackTimesWrong)

/-- 'laws.FnSlackTimesMore': WHATEVER THE INPUT: true; the input reads as it did. -/
def fnSlackTimesMoreSpec : ChangeSpec := { name := "fnSlackTimesMore", fn := fun _ => fun
  | [d] => { results := [.lit (.bool true)], args := [d] }
  | _ => none }
def fnSlackTimesMoreRow : OpenClaim := { program := "ytiokblodjhmjmab", sum := "299a6981040b0c4e45f87b73415ca2d7fbd71cc38891a75fb22a76b488e45955", func := "loop.example/buildscheduler/laws.FnSlackTimesMore", spec := "fnSlackTimesMore", apart := false }
def FnSlackTimesMoreSaid : Prop := fnSlackTimesMoreRow.holds Try.pinned (OpenSpec.ofChange fnSlackTimesMoreSpec)

/-- ITS FALSE NEIGHBOUR: 'it returns false'. Refute it at one input. -/
def fnSlackTimesMoreWrong : ChangeSpec := { name := "fnSlackTimesMore", fn := fun _ => fun
  | [d] => { results := [.lit (.bool false)], args := [d] }
  | _ => none }
def FnSlackTimesMoreWrongFalsely : Prop := fnSlackTimesMoreRow.holds Try.pinned (OpenSpec.ofChange fnSlackTimesMoreWrong)

/-- 'laws.FnValidGraphLess': WHATEVER THE INPUT: true; the input reads as it did. -/
def fnValidGraphLessSpec : ChangeSpec := { name := "fnValidGraphLess", fn := fun _ => fun
  | [d] => { results := [.lit (.bool true)], args := [d] }
  | _ => none }
def fnValidGraphLessRow : OpenClaim := { program := "ytiokblodjhmjmab", sum := "299a6981040b0c4e45f87b73415ca2d7fbd71cc38891a75fb22a76b488e45955", func := "loop.example/buildscheduler/laws.FnValidGraphLess", spec := "fnValidGraphLess", apart := false }
def FnValidGraphLessSaid : Prop := fnValidGraphLessRow.holds Try.pinned (OpenSpec.ofChange fnValidGraphLessSpec)

/-- ITS FALSE NEIGHBOUR: 'it returns false'. Refute it at one input. -/
def fnValidGraphLessWrong : ChangeSpec := { name := "fnValidGraphLess", fn := fun _ => fun
  | [d] => { results := [.lit (.bool false)], args := [d] }
  | _ => none }
def FnValidGraphLessWrongFalsely : Prop := fnValidGraphLessRow.holds Try.pinned (OpenSpec.ofChange fnValidGraphLessWrong)

/-- 'laws.FnTopOrderFree': WHATEVER THE INPUT: true; the input reads as it did. -/
def fnTopOrderFreeSpec : ChangeSpec := { name := "fnTopOrderFree", fn := fun _ => fun
  | [d] => { results := [.lit (.bool true)], args := [d] }
  | _ => none }
def fnTopOrderFreeRow : OpenClaim := { program := "ytiokblodjhmjmab", sum := "299a6981040b0c4e45f87b73415ca2d7fbd71cc38891a75fb22a76b488e45955", func := "loop.example/buildscheduler/laws.FnTopOrderFree", spec := "fnTopOrderFree", apart := false }
def FnTopOrderFreeSaid : Prop := fnTopOrderFreeRow.holds Try.pinned (OpenSpec.ofChange fnTopOrderFreeSpec)

/-- ITS FALSE NEIGHBOUR: 'it returns false'. Refute it at one input. -/
def fnTopOrderFreeWrong : ChangeSpec := { name := "fnTopOrderFree", fn := fun _ => fun
  | [d] => { results := [.lit (.bool false)], args := [d] }
  | _ => none }
def FnTopOrderFreeWrongFalsely : Prop := fnTopOrderFreeRow.holds Try.pinned (OpenSpec.ofChange fnTopOrderFreeWrong)

/-- 'laws.FnStuckTasksSelf': WHATEVER THE INPUT: true; the input reads as it did. -/
def fnStuckTasksSelfSpec : ChangeSpec := { name := "fnStuckTasksSelf", fn := fun _ => fun
  | [d] => { results := [.lit (.bool true)], args := [d] }
  | _ => none }
def fnStuckTasksSelfRow : OpenClaim := { program := "ytiokblodjhmjmab", sum := "299a6981040b0c4e45f87b73415ca2d7fbd71cc38891a75fb22a76b488e45955", func := "loop.example/buildscheduler/laws.FnStuckTasksSelf", spec := "fnStuckTasksSelf", apart := false }
def FnStuckTasksSelfSaid : Prop := fnStuckTasksSelfRow.holds Try.pinned (OpenSpec.ofChange fnStuckTasksSelfSpec)

/-- ITS FALSE NEIGHBOUR: 'it returns false'. Refute it at one input. -/
def fnStuckTasksSelfWrong : ChangeSpec := { name := "fnStuckTasksSelf", fn := fun _ => fun
  | [d] => { results := [.lit (.bool false)], args := [d] }
  | _ => none }
def FnStuckTasksSelfWrongFalsely : Prop := fnStuckTasksSelfRow.holds Try.pinned (OpenSpec.ofChange fnStuckTasksSelfWrong)

/-- 'laws.FnAllNeedsLess': WHATEVER THE INPUT: true; the input reads as it did. -/
def fnAllNeedsLessSpec : ChangeSpec := { name := "fnAllNeedsLess", fn := fun _ => fun
  | [d] => { results := [.lit (.bool true)], args := [d] }
  | _ => none }
def fnAllNeedsLessRow : OpenClaim := { program := "ytiokblodjhmjmab", sum := "299a6981040b0c4e45f87b73415ca2d7fbd71cc38891a75fb22a76b488e45955", func := "loop.example/buildscheduler/laws.FnAllNeedsLess", spec := "fnAllNeedsLess", apart := false }
def FnAllNeedsLessSaid : Prop := fnAllNeedsLessRow.holds Try.pinned (OpenSpec.ofChange fnAllNeedsLessSpec)

/-- ITS FALSE NEIGHBOUR: 'it returns false'. Refute it at one input. -/
def fnAllNeedsLessWrong : ChangeSpec := { name := "fnAllNeedsLess", fn := fun _ => fun
  | [d] => { results := [.lit (.bool false)], args := [d] }
  | _ => none }
def FnAllNeedsLessWrongFalsely : Prop := fnAllNeedsLessRow.holds Try.pinned (OpenSpec.ofChange fnAllNeedsLessWrong)

/-- 'laws.FnAllUsersCount': WHATEVER THE INPUT: true; the input reads as it did. -/
def fnAllUsersCountSpec : ChangeSpec := { name := "fnAllUsersCount", fn := fun _ => fun
  | [d] => { results := [.lit (.bool true)], args := [d] }
  | _ => none }
def fnAllUsersCountRow : OpenClaim := { program := "ytiokblodjhmjmab", sum := "299a6981040b0c4e45f87b73415ca2d7fbd71cc38891a75fb22a76b488e45955", func := "loop.example/buildscheduler/laws.FnAllUsersCount", spec := "fnAllUsersCount", apart := false }
def FnAllUsersCountSaid : Prop := fnAllUsersCountRow.holds Try.pinned (OpenSpec.ofChange fnAllUsersCountSpec)

/-- ITS FALSE NEIGHBOUR: 'it returns false'. Refute it at one input. -/
def fnAllUsersCountWrong : ChangeSpec := { name := "fnAllUsersCount", fn := fun _ => fun
  | [d] => { results := [.lit (.bool false)], args := [d] }
  | _ => none }
def FnAllUsersCountWrongFalsely : Prop := fnAllUsersCountRow.holds Try.pinned (OpenSpec.ofChange fnAllUsersCountWrong)

/-- 'laws.FnTailTimesLast': WHATEVER THE INPUT: true; the input reads as it did. -/
def fnTailTimesLastSpec : ChangeSpec := { name := "fnTailTimesLast", fn := fun _ => fun
  | [d] => { results := [.lit (.bool true)], args := [d] }
  | _ => none }
def fnTailTimesLastRow : OpenClaim := { program := "ytiokblodjhmjmab", sum := "299a6981040b0c4e45f87b73415ca2d7fbd71cc38891a75fb22a76b488e45955", func := "loop.example/buildscheduler/laws.FnTailTimesLast", spec := "fnTailTimesLast", apart := false }
def FnTailTimesLastSaid : Prop := fnTailTimesLastRow.holds Try.pinned (OpenSpec.ofChange fnTailTimesLastSpec)

/-- ITS FALSE NEIGHBOUR: 'it returns false'. Refute it at one input. -/
def fnTailTimesLastWrong : ChangeSpec := { name := "fnTailTimesLast", fn := fun _ => fun
  | [d] => { results := [.lit (.bool false)], args := [d] }
  | _ => none }
def FnTailTimesLastWrongFalsely : Prop := fnTailTimesLastRow.holds Try.pinned (OpenSpec.ofChange fnTailTimesLastWrong)

/-- 'laws.FnLongestTimeMore': WHATEVER THE INPUT: true; the input reads as it did. -/
def fnLongestTimeMoreSpec : ChangeSpec := { name := "fnLongestTimeMore", fn := fun _ => fun
  | [d] => { results := [.lit (.bool true)], args := [d] }
  | _ => none }
def fnLongestTimeMoreRow : OpenClaim := { program := "ytiokblodjhmjmab", sum := "299a6981040b0c4e45f87b73415ca2d7fbd71cc38891a75fb22a76b488e45955", func := "loop.example/buildscheduler/laws.FnLongestTimeMore", spec := "fnLongestTimeMore", apart := false }
def FnLongestTimeMoreSaid : Prop := fnLongestTimeMoreRow.holds Try.pinned (OpenSpec.ofChange fnLongestTimeMoreSpec)

/-- ITS FALSE NEIGHBOUR: 'it returns false'. Refute it at one input. -/
def fnLongestTimeMoreWrong : ChangeSpec := { name := "fnLongestTimeMore", fn := fun _ => fun
  | [d] => { results := [.lit (.bool false)], args := [d] }
  | _ => none }
def FnLongestTimeMoreWrongFalsely : Prop := fnLongestTimeMoreRow.holds Try.pinned (OpenSpec.ofChange fnLongestTimeMoreWrong)

/-- 'laws.FnCriticalChainLonger': WHATEVER THE INPUT: true; the input reads as it did. -/
def fnCriticalChainLongerSpec : ChangeSpec := { name := "fnCriticalChainLonger", fn := fun _ => fun
  | [d] => { results := [.lit (.bool true)], args := [d] }
  | _ => none }
def fnCriticalChainLongerRow : OpenClaim := { program := "ytiokblodjhmjmab", sum := "299a6981040b0c4e45f87b73415ca2d7fbd71cc38891a75fb22a76b488e45955", func := "loop.example/buildscheduler/laws.FnCriticalChainLonger", spec := "fnCriticalChainLonger", apart := false }
def FnCriticalChainLongerSaid : Prop := fnCriticalChainLongerRow.holds Try.pinned (OpenSpec.ofChange fnCriticalChainLongerSpec)

/-- ITS FALSE NEIGHBOUR: 'it returns false'. Refute it at one input. -/
def fnCriticalChainLongerWrong : ChangeSpec := { name := "fnCriticalChainLonger", fn := fun _ => fun
  | [d] => { results := [.lit (.bool false)], args := [d] }
  | _ => none }
def FnCriticalChainLongerWrongFalsely : Prop := fnCriticalChainLongerRow.holds Try.pinned (OpenSpec.ofChange fnCriticalChainLongerWrong)

/- THE SECOND FORM. 'bulk': how many values and letters a reading holds, each counted each time it is reached (what is shared counts as often as it is met; a slice's spare places count too). A statement '..UptoSaid' is the law's where the arguments, and the package variables that the reading takes, are together of bulk at most 1048576: NARROWER than '..Said'. Prove '..Said' where nothing that the law and all that it calls make is longer than what came in: it says more and counts as full. Else prove '..UptoSaid'. A law counts once. -/
mutual
def uptoBulk {H : Type} : DataW H → Nat
  | .lit (.string bytes) => bytes.length + 1
  | .lit _ => 1
  | .nil => 1
  | .ptr d => uptoBulk d + 1
  | .slice elems spare => uptoBulkAll elems + uptoBulkAll spare + 1
  | .agg parts => uptoBulkAll parts + 1
  | .iface _ d => uptoBulk d + 1
  | .map entries => uptoBulkEntries entries + 1
  | .held _ => 1
def uptoBulkAll {H : Type} : List (DataW H) → Nat
  | [] => 0
  | d :: r => uptoBulk d + uptoBulkAll r
def uptoBulkEntries {H : Type} : List (Lit × DataW H) → Nat
  | [] => 0
  | x :: r => uptoBulkEntry x + uptoBulkEntries r
def uptoBulkEntry {H : Type} : Lit × DataW H → Nat
  | (.string bytes, d) => bytes.length + uptoBulk d + 1
  | (_, d) => uptoBulk d + 1
 end
def uptoSmall : (H : Type) → List (DataW H) → Bool := fun _ ds => decide (uptoBulkAll ds ≤ 1048576)
def OpenSpec.upto (s : _root_.Go.ChangeSpec) : _root_.Go.OpenSpec := { _root_.Go.OpenSpec.ofChange s with cond := some uptoSmall }

/-- 'laws.FnCriticalChain', WHERE WHAT IT READS IS OF BULK AT MOST 1048576: true; the input reads as it did. -/
def fnCriticalChainUptoRow : OpenClaim := { program := "ytiokblodjhmjmab", sum := "299a6981040b0c4e45f87b73415ca2d7fbd71cc38891a75fb22a76b488e45955", func := "loop.example/buildscheduler/laws.FnCriticalChain", spec := "fnCriticalChain", apart := false, narrowed := true }
def FnCriticalChainUptoSaid : Prop := fnCriticalChainUptoRow.holds Try.pinned (OpenSpec.upto fnCriticalChainSpec)

/-- 'laws.FnCriticalChainSlack', WHERE WHAT IT READS IS OF BULK AT MOST 1048576: true; the input reads as it did. -/
def fnCriticalChainSlackUptoRow : OpenClaim := { program := "ytiokblodjhmjmab", sum := "299a6981040b0c4e45f87b73415ca2d7fbd71cc38891a75fb22a76b488e45955", func := "loop.example/buildscheduler/laws.FnCriticalChainSlack", spec := "fnCriticalChainSlack", apart := false, narrowed := true }
def FnCriticalChainSlackUptoSaid : Prop := fnCriticalChainSlackUptoRow.holds Try.pinned (OpenSpec.upto fnCriticalChainSlackSpec)

/-- 'laws.FnSlackTimes', WHERE WHAT IT READS IS OF BULK AT MOST 1048576: true; the input reads as it did. -/
def fnSlackTimesUptoRow : OpenClaim := { program := "ytiokblodjhmjmab", sum := "299a6981040b0c4e45f87b73415ca2d7fbd71cc38891a75fb22a76b488e45955", func := "loop.example/buildscheduler/laws.FnSlackTimes", spec := "fnSlackTimes", apart := false, narrowed := true }
def FnSlackTimesUptoSaid : Prop := fnSlackTimesUptoRow.holds Try.pinned (OpenSpec.upto fnSlackTimesSpec)

/-- 'laws.FnSlackTimesMore', WHERE WHAT IT READS IS OF BULK AT MOST 1048576: true; the input reads as it did. -/
def fnSlackTimesMoreUptoRow : OpenClaim := { program := "ytiokblodjhmjmab", sum := "299a6981040b0c4e45f87b73415ca2d7fbd71cc38891a75fb22a76b488e45955", func := "loop.example/buildscheduler/laws.FnSlackTimesMore", spec := "fnSlackTimesMore", apart := false, narrowed := true }
def FnSlackTimesMoreUptoSaid : Prop := fnSlackTimesMoreUptoRow.holds Try.pinned (OpenSpec.upto fnSlackTimesMoreSpec)

/-- 'laws.FnValidGraphLess', WHERE WHAT IT READS IS OF BULK AT MOST 1048576: true; the input reads as it did. -/
def fnValidGraphLessUptoRow : OpenClaim := { program := "ytiokblodjhmjmab", sum := "299a6981040b0c4e45f87b73415ca2d7fbd71cc38891a75fb22a76b488e45955", func := "loop.example/buildscheduler/laws.FnValidGraphLess", spec := "fnValidGraphLess", apart := false, narrowed := true }
def FnValidGraphLessUptoSaid : Prop := fnValidGraphLessUptoRow.holds Try.pinned (OpenSpec.upto fnValidGraphLessSpec)

/-- 'laws.FnTopOrderFree', WHERE WHAT IT READS IS OF BULK AT MOST 1048576: true; the input reads as it did. -/
def fnTopOrderFreeUptoRow : OpenClaim := { program := "ytiokblodjhmjmab", sum := "299a6981040b0c4e45f87b73415ca2d7fbd71cc38891a75fb22a76b488e45955", func := "loop.example/buildscheduler/laws.FnTopOrderFree", spec := "fnTopOrderFree", apart := false, narrowed := true }
def FnTopOrderFreeUptoSaid : Prop := fnTopOrderFreeUptoRow.holds Try.pinned (OpenSpec.upto fnTopOrderFreeSpec)

/-- 'laws.FnStuckTasksSelf', WHERE WHAT IT READS IS OF BULK AT MOST 1048576: true; the input reads as it did. -/
def fnStuckTasksSelfUptoRow : OpenClaim := { program := "ytiokblodjhmjmab", sum := "299a6981040b0c4e45f87b73415ca2d7fbd71cc38891a75fb22a76b488e45955", func := "loop.example/buildscheduler/laws.FnStuckTasksSelf", spec := "fnStuckTasksSelf", apart := false, narrowed := true }
def FnStuckTasksSelfUptoSaid : Prop := fnStuckTasksSelfUptoRow.holds Try.pinned (OpenSpec.upto fnStuckTasksSelfSpec)

/-- 'laws.FnAllNeedsLess', WHERE WHAT IT READS IS OF BULK AT MOST 1048576: true; the input reads as it did. -/
def fnAllNeedsLessUptoRow : OpenClaim := { program := "ytiokblodjhmjmab", sum := "299a6981040b0c4e45f87b73415ca2d7fbd71cc38891a75fb22a76b488e45955", func := "loop.example/buildscheduler/laws.FnAllNeedsLess", spec := "fnAllNeedsLess", apart := false, narrowed := true }
def FnAllNeedsLessUptoSaid : Prop := fnAllNeedsLessUptoRow.holds Try.pinned (OpenSpec.upto fnAllNeedsLessSpec)

/-- 'laws.FnAllUsersCount', WHERE WHAT IT READS IS OF BULK AT MOST 1048576: true; the input reads as it did. -/
def fnAllUsersCountUptoRow : OpenClaim := { program := "ytiokblodjhmjmab", sum := "299a6981040b0c4e45f87b73415ca2d7fbd71cc38891a75fb22a76b488e45955", func := "loop.example/buildscheduler/laws.FnAllUsersCount", spec := "fnAllUsersCount", apart := false, narrowed := true }
def FnAllUsersCountUptoSaid : Prop := fnAllUsersCountUptoRow.holds Try.pinned (OpenSpec.upto fnAllUsersCountSpec)

/-- 'laws.FnTailTimesLast', WHERE WHAT IT READS IS OF BULK AT MOST 1048576: true; the input reads as it did. -/
def fnTailTimesLastUptoRow : OpenClaim := { program := "ytiokblodjhmjmab", sum := "299a6981040b0c4e45f87b73415ca2d7fbd71cc38891a75fb22a76b488e45955", func := "loop.example/buildscheduler/laws.FnTailTimesLast", spec := "fnTailTimesLast", apart := false, narrowed := true }
def FnTailTimesLastUptoSaid : Prop := fnTailTimesLastUptoRow.holds Try.pinned (OpenSpec.upto fnTailTimesLastSpec)

/-- 'laws.FnLongestTimeMore', WHERE WHAT IT READS IS OF BULK AT MOST 1048576: true; the input reads as it did. -/
def fnLongestTimeMoreUptoRow : OpenClaim := { program := "ytiokblodjhmjmab", sum := "299a6981040b0c4e45f87b73415ca2d7fbd71cc38891a75fb22a76b488e45955", func := "loop.example/buildscheduler/laws.FnLongestTimeMore", spec := "fnLongestTimeMore", apart := false, narrowed := true }
def FnLongestTimeMoreUptoSaid : Prop := fnLongestTimeMoreUptoRow.holds Try.pinned (OpenSpec.upto fnLongestTimeMoreSpec)

/-- 'laws.FnCriticalChainLonger', WHERE WHAT IT READS IS OF BULK AT MOST 1048576: true; the input reads as it did. -/
def fnCriticalChainLongerUptoRow : OpenClaim := { program := "ytiokblodjhmjmab", sum := "299a6981040b0c4e45f87b73415ca2d7fbd71cc38891a75fb22a76b488e45955", func := "loop.example/buildscheduler/laws.FnCriticalChainLonger", spec := "fnCriticalChainLonger", apart := false, narrowed := true }
def FnCriticalChainLongerUptoSaid : Prop := fnCriticalChainLongerUptoRow.holds Try.pinned (OpenSpec.upto fnCriticalChainLongerSpec)

end Rows
end Go.Proofs.Ytiokblodjhmjmab
