/-
  No cell of these rows narrows 'for every input' (looked for: loops, veiled, ifaces, maps, wideKeys, modest, calm, conditions, laid).
  DERIVED. THE GIVEN ROWS OF THIS SEAT. 11 by the template 'for every input the law returns true; each argument reads behind the call as it read before'; 0 by the template 'total and deterministic' (their statements: YtoaakidapgbhhaaTotals.lean).
  GIVEN WITH THE SEED: the statements are not yours to turn. If you find one false, say at which input.
  Laid BY PROGRAM, IN A SANDBOX (cutbox-rows.mjs): the forced cells as the released guide's own fill.sh prints them over the translation 4098f9f1f9434723… (all of the seat's roots in one cut). By AI agents, Wed Nov 11 2026. No macro, syntax, notation, axiom, sorry.
-/
import Derived.Test.YtoaakidapgbhhaaChecked
import GoSem.Claim
import GoSem.ClaimJoined
import GoSem.ClaimMapViews
import Derived.JoinedTies
import Derived.KernelRfl
namespace Go.Proofs.Ytoaakidapgbhhaa
/- THE CELL 'sum', in the pinned program and in every row, IS THE sha256 OF THE DUMP (.gsa) THAT YtoaakidapgbhhaaProg.lean LOADS. Nothing in Lean hashes anything: it is a label: what it is worth is what the hold of that sum in a sandbox is worth. -/
noncomputable def Try.pinned : Pinned := { name := "ytoaakidapgbhhaa", sum := "4098f9f1f943472343fd35f31504d65093edbadc90c891c6b332593e95d68646", checked := Try.checked }
namespace Rows
def none {H : Type} : Left H := { results := [], args := [] }

/-- 'laws.FnStageOf': WHATEVER THE INPUT: true; the input reads as it did. -/
def fnStageOfSpec : ChangeSpec := { name := "fnStageOf", fn := fun _ => fun
  | [d] => { results := [.lit (.bool true)], args := [d] }
  | _ => none }
def fnStageOfRow : OpenClaim := { program := "ytoaakidapgbhhaa", sum := "4098f9f1f943472343fd35f31504d65093edbadc90c891c6b332593e95d68646", func := "loop.example/buildscheduler/laws.FnStageOf", spec := "fnStageOf", apart := false }
def FnStageOfSaid : Prop := fnStageOfRow.holds Try.pinned (OpenSpec.ofChange fnStageOfSpec)

/-- ITS FALSE NEIGHBOUR: 'it returns false'. Refute it at one input. -/
def fnStageOfWrong : ChangeSpec := { name := "fnStageOf", fn := fun _ => fun
  | [d] => { results := [.lit (.bool false)], args := [d] }
  | _ => none }
def FnStageOfWrongFalsely : Prop := fnStageOfRow.holds Try.pinned (OpenSpec.ofChange fnStageOfWrong)

/-- 'laws.FnStagesOf': WHATEVER THE INPUT: true; the input reads as it did. -/
def fnStagesOfSpec : ChangeSpec := { name := "fnStagesOf", fn := fun _ => fun
  | [d] => { results := [.lit (.bool true)], args := [d] }
  | _ => none }
def fnStagesOfRow : OpenClaim := { program := "ytoaakidapgbhhaa", sum := "4098f9f1f943472343fd35f31504d65093edbadc90c891c6b332593e95d68646", func := "loop.example/buildscheduler/laws.FnStagesOf", spec := "fnStagesOf", apart := false }
def FnStagesOfSaid : Prop := fnStagesOfRow.holds Try.pinned (OpenSpec.ofChange fnStagesOfSpec)

/-- ITS FALSE NEIGHBOUR: 'it returns false'. Refute it at one input. -/
def fnStagesOfWrong : ChangeSpec := { name := "fnStagesOf", fn := fun _ => fun
  | [d] => { results := [.lit (.bool false)], args := [d] }
  | _ => none }
def FnStagesOfWrongFalsely : Prop := fnStagesOfRow.holds Try.pinned (OpenSpec.ofChange fnStagesOfWrong)

/-- 'laws.FnStagesOfDone': WHATEVER THE INPUT: true; the input reads as it did. -/
def fnStagesOfDoneSpec : ChangeSpec := { name := "fnStagesOfDone", fn := fun _ => fun
  | [d] => { results := [.lit (.bool true)], args := [d] }
  | _ => none }
def fnStagesOfDoneRow : OpenClaim := { program := "ytoaakidapgbhhaa", sum := "4098f9f1f943472343fd35f31504d65093edbadc90c891c6b332593e95d68646", func := "loop.example/buildscheduler/laws.FnStagesOfDone", spec := "fnStagesOfDone", apart := false }
def FnStagesOfDoneSaid : Prop := fnStagesOfDoneRow.holds Try.pinned (OpenSpec.ofChange fnStagesOfDoneSpec)

/-- ITS FALSE NEIGHBOUR: 'it returns false'. Refute it at one input. -/
def fnStagesOfDoneWrong : ChangeSpec := { name := "fnStagesOfDone", fn := fun _ => fun
  | [d] => { results := [.lit (.bool false)], args := [d] }
  | _ => none }
def FnStagesOfDoneWrongFalsely : Prop := fnStagesOfDoneRow.holds Try.pinned (OpenSpec.ofChange fnStagesOfDoneWrong)

/-- 'laws.FnUselessNeeds': WHATEVER THE INPUT: true; the input reads as it did. -/
def fnUselessNeedsSpec : ChangeSpec := { name := "fnUselessNeeds", fn := fun _ => fun
  | [d] => { results := [.lit (.bool true)], args := [d] }
  | _ => none }
def fnUselessNeedsRow : OpenClaim := { program := "ytoaakidapgbhhaa", sum := "4098f9f1f943472343fd35f31504d65093edbadc90c891c6b332593e95d68646", func := "loop.example/buildscheduler/laws.FnUselessNeeds", spec := "fnUselessNeeds", apart := false }
def FnUselessNeedsSaid : Prop := fnUselessNeedsRow.holds Try.pinned (OpenSpec.ofChange fnUselessNeedsSpec)

/-- ITS FALSE NEIGHBOUR: 'it returns false'. Refute it at one input. -/
def fnUselessNeedsWrong : ChangeSpec := { name := "fnUselessNeeds", fn := fun _ => fun
  | [d] => { results := [.lit (.bool false)], args := [d] }
  | _ => none }
def FnUselessNeedsWrongFalsely : Prop := fnUselessNeedsRow.holds Try.pinned (OpenSpec.ofChange fnUselessNeedsWrong)

/-- 'laws.FnWithoutUseless': WHATEVER THE INPUT: true; the input reads as it did. -/
def fnWithoutUselessSpec : ChangeSpec := { name := "fnWithoutUseless", fn := fun _ => fun
  | [d] => { results := [.lit (.bool true)], args := [d] }
  | _ => none }
def fnWithoutUselessRow : OpenClaim := { program := "ytoaakidapgbhhaa", sum := "4098f9f1f943472343fd35f31504d65093edbadc90c891c6b332593e95d68646", func := "loop.example/buildscheduler/laws.FnWithoutUseless", spec := "fnWithoutUseless", apart := false }
def FnWithoutUselessSaid : Prop := fnWithoutUselessRow.holds Try.pinned (OpenSpec.ofChange fnWithoutUselessSpec)

/-- ITS FALSE NEIGHBOUR: 'it returns false'. Refute it at one input. -/
def fnWithoutUselessWrong : ChangeSpec := { name := "fnWithoutUseless", fn := fun _ => fun
  | [d] => { results := [.lit (.bool false)], args := [d] }
  | _ => none }
def FnWithoutUselessWrongFalsely : Prop := fnWithoutUselessRow.holds Try.pinned (OpenSpec.ofChange fnWithoutUselessWrong)

/-- 'laws.FnWithoutUselessTimes': WHATEVER THE INPUT: true; the input reads as it did. -/
def fnWithoutUselessTimesSpec : ChangeSpec := { name := "fnWithoutUselessTimes", fn := fun _ => fun
  | [d] => { results := [.lit (.bool true)], args := [d] }
  | _ => none }
def fnWithoutUselessTimesRow : OpenClaim := { program := "ytoaakidapgbhhaa", sum := "4098f9f1f943472343fd35f31504d65093edbadc90c891c6b332593e95d68646", func := "loop.example/buildscheduler/laws.FnWithoutUselessTimes", spec := "fnWithoutUselessTimes", apart := false }
def FnWithoutUselessTimesSaid : Prop := fnWithoutUselessTimesRow.holds Try.pinned (OpenSpec.ofChange fnWithoutUselessTimesSpec)

/-- ITS FALSE NEIGHBOUR: 'it returns false'. Refute it at one input. -/
def fnWithoutUselessTimesWrong : ChangeSpec := { name := "fnWithoutUselessTimes", fn := fun _ => fun
  | [d] => { results := [.lit (.bool false)], args := [d] }
  | _ => none }
def FnWithoutUselessTimesWrongFalsely : Prop := fnWithoutUselessTimesRow.holds Try.pinned (OpenSpec.ofChange fnWithoutUselessTimesWrong)

/-- 'laws.FnWithoutUselessLeast': WHATEVER THE INPUT: true; the input reads as it did. -/
def fnWithoutUselessLeastSpec : ChangeSpec := { name := "fnWithoutUselessLeast", fn := fun _ => fun
  | [d] => { results := [.lit (.bool true)], args := [d] }
  | _ => none }
def fnWithoutUselessLeastRow : OpenClaim := { program := "ytoaakidapgbhhaa", sum := "4098f9f1f943472343fd35f31504d65093edbadc90c891c6b332593e95d68646", func := "loop.example/buildscheduler/laws.FnWithoutUselessLeast", spec := "fnWithoutUselessLeast", apart := false }
def FnWithoutUselessLeastSaid : Prop := fnWithoutUselessLeastRow.holds Try.pinned (OpenSpec.ofChange fnWithoutUselessLeastSpec)

/-- ITS FALSE NEIGHBOUR: 'it returns false'. Refute it at one input. -/
def fnWithoutUselessLeastWrong : ChangeSpec := { name := "fnWithoutUselessLeast", fn := fun _ => fun
  | [d] => { results := [.lit (.bool false)], args := [d] }
  | _ => none }
def FnWithoutUselessLeastWrongFalsely : Prop := fnWithoutUselessLeastRow.holds Try.pinned (OpenSpec.ofChange fnWithoutUselessLeastWrong)

/-- 'laws.FnCountOrdersLess': WHATEVER THE INPUT: true; the input reads as it did. -/
def fnCountOrdersLessSpec : ChangeSpec := { name := "fnCountOrdersLess", fn := fun _ => fun
  | [d] => { results := [.lit (.bool true)], args := [d] }
  | _ => none }
def fnCountOrdersLessRow : OpenClaim := { program := "ytoaakidapgbhhaa", sum := "4098f9f1f943472343fd35f31504d65093edbadc90c891c6b332593e95d68646", func := "loop.example/buildscheduler/laws.FnCountOrdersLess", spec := "fnCountOrdersLess", recurses := true, apart := false }
def FnCountOrdersLessSaid : Prop := fnCountOrdersLessRow.holds Try.pinned (OpenSpec.ofChange fnCountOrdersLessSpec)

/-- ITS FALSE NEIGHBOUR: 'it returns false'. Refute it at one input. -/
def fnCountOrdersLessWrong : ChangeSpec := { name := "fnCountOrdersLess", fn := fun _ => fun
  | [d] => { results := [.lit (.bool false)], args := [d] }
  | _ => none }
def FnCountOrdersLessWrongFalsely : Prop := fnCountOrdersLessRow.holds Try.pinned (OpenSpec.ofChange fnCountOrdersLessWrong)

/-- 'laws.FnStageOfCount': WHATEVER THE INPUT: true; the input reads as it did. -/
def fnStageOfCountSpec : ChangeSpec := { name := "fnStageOfCount", fn := fun _ => fun
  | [d] => { results := [.lit (.bool true)], args := [d] }
  | _ => none }
def fnStageOfCountRow : OpenClaim := { program := "ytoaakidapgbhhaa", sum := "4098f9f1f943472343fd35f31504d65093edbadc90c891c6b332593e95d68646", func := "loop.example/buildscheduler/laws.FnStageOfCount", spec := "fnStageOfCount", apart := false }
def FnStageOfCountSaid : Prop := fnStageOfCountRow.holds Try.pinned (OpenSpec.ofChange fnStageOfCountSpec)

/-- ITS FALSE NEIGHBOUR: 'it returns false'. Refute it at one input. -/
def fnStageOfCountWrong : ChangeSpec := { name := "fnStageOfCount", fn := fun _ => fun
  | [d] => { results := [.lit (.bool false)], args := [d] }
  | _ => none }
def FnStageOfCountWrongFalsely : Prop := fnStageOfCountRow.holds Try.pinned (OpenSpec.ofChange fnStageOfCountWrong)

/-- 'laws.FnStagesOfChain': WHATEVER THE INPUT: true; the input reads as it did. -/
def fnStagesOfChainSpec : ChangeSpec := { name := "fnStagesOfChain", fn := fun _ => fun
  | [d] => { results := [.lit (.bool true)], args := [d] }
  | _ => none }
def fnStagesOfChainRow : OpenClaim := { program := "ytoaakidapgbhhaa", sum := "4098f9f1f943472343fd35f31504d65093edbadc90c891c6b332593e95d68646", func := "loop.example/buildscheduler/laws.FnStagesOfChain", spec := "fnStagesOfChain", recurses := true, apart := false }
def FnStagesOfChainSaid : Prop := fnStagesOfChainRow.holds Try.pinned (OpenSpec.ofChange fnStagesOfChainSpec)

/-- ITS FALSE NEIGHBOUR: 'it returns false'. Refute it at one input. -/
def fnStagesOfChainWrong : ChangeSpec := { name := "fnStagesOfChain", fn := fun _ => fun
  | [d] => { results := [.lit (.bool false)], args := [d] }
  | _ => none }
def FnStagesOfChainWrongFalsely : Prop := fnStagesOfChainRow.holds Try.pinned (OpenSpec.ofChange fnStagesOfChainWrong)

/-- 'laws.FnUselessNeedsNone': WHATEVER THE INPUT: true; the input reads as it did. -/
def fnUselessNeedsNoneSpec : ChangeSpec := { name := "fnUselessNeedsNone", fn := fun _ => fun
  | [d] => { results := [.lit (.bool true)], args := [d] }
  | _ => none }
def fnUselessNeedsNoneRow : OpenClaim := { program := "ytoaakidapgbhhaa", sum := "4098f9f1f943472343fd35f31504d65093edbadc90c891c6b332593e95d68646", func := "loop.example/buildscheduler/laws.FnUselessNeedsNone", spec := "fnUselessNeedsNone", apart := false }
def FnUselessNeedsNoneSaid : Prop := fnUselessNeedsNoneRow.holds Try.pinned (OpenSpec.ofChange fnUselessNeedsNoneSpec)

/-- ITS FALSE NEIGHBOUR: 'it returns false'. Refute it at one input. -/
def fnUselessNeedsNoneWrong : ChangeSpec := { name := "fnUselessNeedsNone", fn := fun _ => fun
  | [d] => { results := [.lit (.bool false)], args := [d] }
  | _ => none }
def FnUselessNeedsNoneWrongFalsely : Prop := fnUselessNeedsNoneRow.holds Try.pinned (OpenSpec.ofChange fnUselessNeedsNoneWrong)

/- THE SECOND FORM. 'bulk': how many values and letters a reading holds, each counted each time it is reached (what is shared counts as often as it is met; a slice's spare places count too). A statement '..UptoSaid' is the law's where the arguments, and the package variables that the reading takes, are together of bulk at most 1048576: NARROWER than '..Said'. Prove '..Said' where nothing that the law and all that it calls make is longer than what came in: it says more and counts as full. Else prove '..UptoSaid'. A law counts once. -/
mutual
def uptoBulk {H : Type} : DataW H → Nat
  | .lit (.string bytes) => bytes.length + 1
  | .lit _ => 1
  | .nil => 1
  | .ptr d => uptoBulk d + 1
  | .slice elems spare => uptoBulkAll elems + uptoBulkAll spare + 1
  | .agg parts => uptoBulkAll parts + 1
  | .iface _ d => uptoBulk d + 1
  | .map entries => uptoBulkEntries entries + 1
  | .held _ => 1
def uptoBulkAll {H : Type} : List (DataW H) → Nat
  | [] => 0
  | d :: r => uptoBulk d + uptoBulkAll r
def uptoBulkEntries {H : Type} : List (Lit × DataW H) → Nat
  | [] => 0
  | x :: r => uptoBulkEntry x + uptoBulkEntries r
def uptoBulkEntry {H : Type} : Lit × DataW H → Nat
  | (.string bytes, d) => bytes.length + uptoBulk d + 1
  | (_, d) => uptoBulk d + 1
 end
def uptoSmall : (H : Type) → List (DataW H) → Bool := fun _ ds => decide (uptoBulkAll ds ≤ 1048576)
def OpenSpec.upto (s : _root_.Go.ChangeSpec) : _root_.Go.OpenSpec := { _root_.Go.OpenSpec.ofChange s with cond := some uptoSmall }

/-- 'laws.FnStageOf', WHERE WHAT IT READS IS OF BULK AT MOST 1048576: true; the input reads as it did. -/
def fnStageOfUptoRow : OpenClaim := { program := "ytoaakidapgbhhaa", sum := "4098f9f1f943472343fd35f31504d65093edbadc90c891c6b332593e95d68646", func := "loop.example/buildscheduler/laws.FnStageOf", spec := "fnStageOf", apart := false, narrowed := true }
def FnStageOfUptoSaid : Prop := fnStageOfUptoRow.holds Try.pinned (OpenSpec.upto fnStageOfSpec)

/-- 'laws.FnStagesOf', WHERE WHAT IT READS IS OF BULK AT MOST 1048576: true; the input reads as it did. -/
def fnStagesOfUptoRow : OpenClaim := { program := "ytoaakidapgbhhaa", sum := "4098f9f1f943472343fd35f31504d65093edbadc90c891c6b332593e95d68646", func := "loop.example/buildscheduler/laws.FnStagesOf", spec := "fnStagesOf", apart := false, narrowed := true }
def FnStagesOfUptoSaid : Prop := fnStagesOfUptoRow.holds Try.pinned (OpenSpec.upto fnStagesOfSpec)

/-- 'laws.FnStagesOfDone', WHERE WHAT IT READS IS OF BULK AT MOST 1048576: true; the input reads as it did. -/
def fnStagesOfDoneUptoRow : OpenClaim := { program := "ytoaakidapgbhhaa", sum := "4098f9f1f943472343fd35f31504d65093edbadc90c891c6b332593e95d68646", func := "loop.example/buildscheduler/laws.FnStagesOfDone", spec := "fnStagesOfDone", apart := false, narrowed := true }
def FnStagesOfDoneUptoSaid : Prop := fnStagesOfDoneUptoRow.holds Try.pinned (OpenSpec.upto fnStagesOfDoneSpec)

/-- 'laws.FnUselessNeeds', WHERE WHAT IT READS IS OF BULK AT MOST 1048576: true; the input reads as it did. -/
def fnUselessNeedsUptoRow : OpenClaim := { program := "ytoaakidapgbhhaa", sum := "4098f9f1f943472343fd35f31504d65093edbadc90c891c6b332593e95d68646", func := "loop.example/buildscheduler/laws.FnUselessNeeds", spec := "fnUselessNeeds", apart := false, narrowed := true }
def FnUselessNeedsUptoSaid : Prop := fnUselessNeedsUptoRow.holds Try.pinned (OpenSpec.upto fnUselessNeedsSpec)

/-- 'laws.FnWithoutUseless', WHERE WHAT IT READS IS OF BULK AT MOST 1048576: true; the input reads as it did. -/
def fnWithoutUselessUptoRow : OpenClaim := { program := "ytoaakidapgbhhaa", sum := "4098f9f1f943472343fd35f31504d65093edbadc90c891c6b332593e95d68646", func := "loop.example/buildscheduler/laws.FnWithoutUseless", spec := "fnWithoutUseless", apart := false, narrowed := true }
def FnWithoutUselessUptoSaid : Prop := fnWithoutUselessUptoRow.holds Try.pinned (OpenSpec.upto fnWithoutUselessSpec)

/-- 'laws.FnWithoutUselessTimes', WHERE WHAT IT READS IS OF BULK AT MOST 1048576: true; the input reads as it did. -/
def fnWithoutUselessTimesUptoRow : OpenClaim := { program := "ytoaakidapgbhhaa", sum := "4098f9f1f943472343fd35f31504d65093edbadc90c891c6b332593e95d68646", func := "loop.example/buildscheduler/laws.FnWithoutUselessTimes", spec := "fnWithoutUselessTimes", apart := false, narrowed := true }
def FnWithoutUselessTimesUptoSaid : Prop := fnWithoutUselessTimesUptoRow.holds Try.pinned (OpenSpec.upto fnWithoutUselessTimesSpec)

/-- 'laws.FnWithoutUselessLeast', WHERE WHAT IT READS IS OF BULK AT MOST 1048576: true; the input reads as it did. -/
def fnWithoutUselessLeastUptoRow : OpenClaim := { program := "ytoaakidapgbhhaa", sum := "4098f9f1f943472343fd35f31504d65093edbadc90c891c6b332593e95d68646", func := "loop.example/buildscheduler/laws.FnWithoutUselessLeast", spec := "fnWithoutUselessLeast", apart := false, narrowed := true }
def FnWithoutUselessLeastUptoSaid : Prop := fnWithoutUselessLeastUptoRow.holds Try.pinned (OpenSpec.upto fnWithoutUselessLeastSpec)

/-- 'laws.FnCountOrdersLess', WHERE WHAT IT READS IS OF BULK AT MOST 1048576: true; the input reads as it did. -/
def fnCountOrdersLessUptoRow : OpenClaim := { program := "ytoaakidapgbhhaa", sum := "4098f9f1f943472343fd35f31504d65093edbadc90c891c6b332593e95d68646", func := "loop.example/buildscheduler/laws.FnCountOrdersLess", spec := "fnCountOrdersLess", recurses := true, apart := false, narrowed := true }
def FnCountOrdersLessUptoSaid : Prop := fnCountOrdersLessUptoRow.holds Try.pinned (OpenSpec.upto fnCountOrdersLessSpec)

/-- 'laws.FnStageOfCount', WHERE WHAT IT READS IS OF BULK AT MOST 1048576: true; the input reads as it did. -/
def fnStageOfCountUptoRow : OpenClaim := { program := "ytoaakidapgbhhaa", sum := "4098f9f1f943472343fd35f31504d65093edbadc90c891c6b332593e95d68646", func := "loop.example/buildscheduler/laws.FnStageOfCount", spec := "fnStageOfCount", apart := false, narrowed := true }
def FnStageOfCountUptoSaid : Prop := fnStageOfCountUptoRow.holds Try.pinned (OpenSpec.upto fnStageOfCountSpec)

/-- 'laws.FnStagesOfChain', WHERE WHAT IT READS IS OF BULK AT MOST 1048576: true; the input reads as it did. -/
def fnStagesOfChainUptoRow : OpenClaim := { program := "ytoaakidapgbhhaa", sum := "4098f9f1f943472343fd35f31504d65093edbadc90c891c6b332593e95d68646", func := "loop.example/buildscheduler/laws.FnStagesOfChain", spec := "fnStagesOfChain", recurses := true, apart := false, narrowed := true }
def FnStagesOfChainUptoSaid : Prop := fnStagesOfChainUptoRow.holds Try.pinned (OpenSpec.upto fnStagesOfChainSpec)

/-- 'laws.FnUselessNeedsNone', WHERE WHAT IT READS IS OF BULK AT MOST 1048576: true; the input reads as it did. -/
def fnUselessNeedsNoneUptoRow : OpenClaim := { program := "ytoaakidapgbhhaa", sum := "4098f9f1f943472343fd35f31504d65093edbadc90c891c6b332593e95d68646", func := "loop.example/buildscheduler/laws.FnUselessNeedsNone", spec := "fnUselessNeedsNone", apart := false, narrowed := true }
def FnUselessNeedsNoneUptoSaid : Prop := fnUselessNeedsNoneUptoRow.holds Try.pinned (OpenSpec.upto fnUselessNeedsNoneSpec)

end Rows
end Go.Proofs.Ytoaakidapgbhhaa
