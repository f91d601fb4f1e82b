/-
  No cell of these rows narrows 'for every input' (looked for: loops, veiled, ifaces, maps, wideKeys, modest, calm, conditions, laid).
  DERIVED. THE GIVEN ROWS OF THIS SEAT. 9 by the template 'for every input the law returns true; each argument reads behind the call as it read before'; 0 by the template 'total and deterministic' (their statements: YtfdaeomlgpflhaaTotals.lean).
  GIVEN WITH THE SEED: the statements are not yours to turn. If you find one false, say at which input.
  Laid BY PROGRAM, IN A SANDBOX (cutbox-rows.mjs): the forced cells as the released guide's own fill.sh prints them over the translation 7c150504a8faa153… (all of the seat's roots in one cut). By AI agents, Wed Nov 11 2026. No macro, syntax, notation, axiom, sorry.
-/
import Derived.Test.YtfdaeomlgpflhaaChecked
import GoSem.Claim
import GoSem.ClaimJoined
import GoSem.ClaimMapViews
import Derived.JoinedTies
import Derived.KernelRfl
namespace Go.Proofs.Ytfdaeomlgpflhaa
/- THE CELL 'sum', in the pinned program and in every row, IS THE sha256 OF THE DUMP (.gsa) THAT YtfdaeomlgpflhaaProg.lean LOADS. Nothing in Lean hashes anything: it is a label: what it is worth is what the hold of that sum in a sandbox is worth. -/
noncomputable def Try.pinned : Pinned := { name := "ytfdaeomlgpflhaa", sum := "7c150504a8faa15321445e77a414fb81a93c0cda54f561ccd6957f2ace56ac1f", checked := Try.checked }
namespace Rows
def none {H : Type} : Left H := { results := [], args := [] }

/-- 'laws.FnExactValidStarts': WHATEVER THE INPUT: true; the input reads as it did. -/
def fnExactValidStartsSpec : ChangeSpec := { name := "fnExactValidStarts", fn := fun _ => fun
  | [d1, d2, d3, d4] => { results := [.lit (.bool true)], args := [d1, d2, d3, d4] }
  | _ => none }
def fnExactValidStartsRow : OpenClaim := { program := "ytfdaeomlgpflhaa", sum := "7c150504a8faa15321445e77a414fb81a93c0cda54f561ccd6957f2ace56ac1f", func := "loop.example/buildscheduler/laws.FnExactValidStarts", spec := "fnExactValidStarts", apart := false }
def FnExactValidStartsSaid : Prop := fnExactValidStartsRow.holds Try.pinned (OpenSpec.ofChange fnExactValidStartsSpec)

/-- ITS FALSE NEIGHBOUR: 'it returns false'. Refute it at one input. -/
def fnExactValidStartsWrong : ChangeSpec := { name := "fnExactValidStarts", fn := fun _ => fun
  | [d1, d2, d3, d4] => { results := [.lit (.bool false)], args := [d1, d2, d3, d4] }
  | _ => none }
def FnExactValidStartsWrongFalsely : Prop := fnExactValidStartsRow.holds Try.pinned (OpenSpec.ofChange fnExactValidStartsWrong)

/-- 'laws.FnExactPlanStarts': WHATEVER THE INPUT: true; the input reads as it did. -/
def fnExactPlanStartsSpec : ChangeSpec := { name := "fnExactPlanStarts", fn := fun _ => fun
  | [d1, d2, d3] => { results := [.lit (.bool true)], args := [d1, d2, d3] }
  | _ => none }
def fnExactPlanStartsRow : OpenClaim := { program := "ytfdaeomlgpflhaa", sum := "7c150504a8faa15321445e77a414fb81a93c0cda54f561ccd6957f2ace56ac1f", func := "loop.example/buildscheduler/laws.FnExactPlanStarts", spec := "fnExactPlanStarts", apart := false }
def FnExactPlanStartsSaid : Prop := fnExactPlanStartsRow.holds Try.pinned (OpenSpec.ofChange fnExactPlanStartsSpec)

/-- ITS FALSE NEIGHBOUR: 'it returns false'. Refute it at one input. -/
def fnExactPlanStartsWrong : ChangeSpec := { name := "fnExactPlanStarts", fn := fun _ => fun
  | [d1, d2, d3] => { results := [.lit (.bool false)], args := [d1, d2, d3] }
  | _ => none }
def FnExactPlanStartsWrongFalsely : Prop := fnExactPlanStartsRow.holds Try.pinned (OpenSpec.ofChange fnExactPlanStartsWrong)

/-- 'laws.FnExactEndTime': WHATEVER THE INPUT: true; the input reads as it did. -/
def fnExactEndTimeSpec : ChangeSpec := { name := "fnExactEndTime", fn := fun _ => fun
  | [d1, d2, d3, d4] => { results := [.lit (.bool true)], args := [d1, d2, d3, d4] }
  | _ => none }
def fnExactEndTimeRow : OpenClaim := { program := "ytfdaeomlgpflhaa", sum := "7c150504a8faa15321445e77a414fb81a93c0cda54f561ccd6957f2ace56ac1f", func := "loop.example/buildscheduler/laws.FnExactEndTime", spec := "fnExactEndTime", apart := false }
def FnExactEndTimeSaid : Prop := fnExactEndTimeRow.holds Try.pinned (OpenSpec.ofChange fnExactEndTimeSpec)

/-- ITS FALSE NEIGHBOUR: 'it returns false'. Refute it at one input. -/
def fnExactEndTimeWrong : ChangeSpec := { name := "fnExactEndTime", fn := fun _ => fun
  | [d1, d2, d3, d4] => { results := [.lit (.bool false)], args := [d1, d2, d3, d4] }
  | _ => none }
def FnExactEndTimeWrongFalsely : Prop := fnExactEndTimeRow.holds Try.pinned (OpenSpec.ofChange fnExactEndTimeWrong)

/-- 'laws.FnExactRunningAt': WHATEVER THE INPUT: true; the input reads as it did. -/
def fnExactRunningAtSpec : ChangeSpec := { name := "fnExactRunningAt", fn := fun _ => fun
  | [d1, d2, d3, d4, d5] => { results := [.lit (.bool true)], args := [d1, d2, d3, d4, d5] }
  | _ => none }
def fnExactRunningAtRow : OpenClaim := { program := "ytfdaeomlgpflhaa", sum := "7c150504a8faa15321445e77a414fb81a93c0cda54f561ccd6957f2ace56ac1f", func := "loop.example/buildscheduler/laws.FnExactRunningAt", spec := "fnExactRunningAt", apart := false }
def FnExactRunningAtSaid : Prop := fnExactRunningAtRow.holds Try.pinned (OpenSpec.ofChange fnExactRunningAtSpec)

/-- ITS FALSE NEIGHBOUR: 'it returns false'. Refute it at one input. -/
def fnExactRunningAtWrong : ChangeSpec := { name := "fnExactRunningAt", fn := fun _ => fun
  | [d1, d2, d3, d4, d5] => { results := [.lit (.bool false)], args := [d1, d2, d3, d4, d5] }
  | _ => none }
def FnExactRunningAtWrongFalsely : Prop := fnExactRunningAtRow.holds Try.pinned (OpenSpec.ofChange fnExactRunningAtWrong)

/-- 'laws.FnExactLeastTime': WHATEVER THE INPUT: true; the input reads as it did. -/
def fnExactLeastTimeSpec : ChangeSpec := { name := "fnExactLeastTime", fn := fun _ => fun
  | [d1, d2, d3] => { results := [.lit (.bool true)], args := [d1, d2, d3] }
  | _ => none }
def fnExactLeastTimeRow : OpenClaim := { program := "ytfdaeomlgpflhaa", sum := "7c150504a8faa15321445e77a414fb81a93c0cda54f561ccd6957f2ace56ac1f", func := "loop.example/buildscheduler/laws.FnExactLeastTime", spec := "fnExactLeastTime", apart := false }
def FnExactLeastTimeSaid : Prop := fnExactLeastTimeRow.holds Try.pinned (OpenSpec.ofChange fnExactLeastTimeSpec)

/-- ITS FALSE NEIGHBOUR: 'it returns false'. Refute it at one input. -/
def fnExactLeastTimeWrong : ChangeSpec := { name := "fnExactLeastTime", fn := fun _ => fun
  | [d1, d2, d3] => { results := [.lit (.bool false)], args := [d1, d2, d3] }
  | _ => none }
def FnExactLeastTimeWrongFalsely : Prop := fnExactLeastTimeRow.holds Try.pinned (OpenSpec.ofChange fnExactLeastTimeWrong)

/-- 'laws.FnExactOrderStarts': WHATEVER THE INPUT: true; the input reads as it did. -/
def fnExactOrderStartsSpec : ChangeSpec := { name := "fnExactOrderStarts", fn := fun _ => fun
  | [d1, d2, d3, d4] => { results := [.lit (.bool true)], args := [d1, d2, d3, d4] }
  | _ => none }
def fnExactOrderStartsRow : OpenClaim := { program := "ytfdaeomlgpflhaa", sum := "7c150504a8faa15321445e77a414fb81a93c0cda54f561ccd6957f2ace56ac1f", func := "loop.example/buildscheduler/laws.FnExactOrderStarts", spec := "fnExactOrderStarts", apart := false }
def FnExactOrderStartsSaid : Prop := fnExactOrderStartsRow.holds Try.pinned (OpenSpec.ofChange fnExactOrderStartsSpec)

/-- ITS FALSE NEIGHBOUR: 'it returns false'. Refute it at one input. -/
def fnExactOrderStartsWrong : ChangeSpec := { name := "fnExactOrderStarts", fn := fun _ => fun
  | [d1, d2, d3, d4] => { results := [.lit (.bool false)], args := [d1, d2, d3, d4] }
  | _ => none }
def FnExactOrderStartsWrongFalsely : Prop := fnExactOrderStartsRow.holds Try.pinned (OpenSpec.ofChange fnExactOrderStartsWrong)

/-- 'laws.FnExactBestOrder': WHATEVER THE INPUT: true; the input reads as it did. -/
def fnExactBestOrderSpec : ChangeSpec := { name := "fnExactBestOrder", fn := fun _ => fun
  | [d1, d2, d3] => { results := [.lit (.bool true)], args := [d1, d2, d3] }
  | _ => none }
def fnExactBestOrderRow : OpenClaim := { program := "ytfdaeomlgpflhaa", sum := "7c150504a8faa15321445e77a414fb81a93c0cda54f561ccd6957f2ace56ac1f", func := "loop.example/buildscheduler/laws.FnExactBestOrder", spec := "fnExactBestOrder", recurses := true, apart := false }
def FnExactBestOrderSaid : Prop := fnExactBestOrderRow.holds Try.pinned (OpenSpec.ofChange fnExactBestOrderSpec)

/-- ITS FALSE NEIGHBOUR: 'it returns false'. Refute it at one input. -/
def fnExactBestOrderWrong : ChangeSpec := { name := "fnExactBestOrder", fn := fun _ => fun
  | [d1, d2, d3] => { results := [.lit (.bool false)], args := [d1, d2, d3] }
  | _ => none }
def FnExactBestOrderWrongFalsely : Prop := fnExactBestOrderRow.holds Try.pinned (OpenSpec.ofChange fnExactBestOrderWrong)

/-- 'laws.FnExactBestTime': WHATEVER THE INPUT: true; the input reads as it did. -/
def fnExactBestTimeSpec : ChangeSpec := { name := "fnExactBestTime", fn := fun _ => fun
  | [d1, d2, d3] => { results := [.lit (.bool true)], args := [d1, d2, d3] }
  | _ => none }
def fnExactBestTimeRow : OpenClaim := { program := "ytfdaeomlgpflhaa", sum := "7c150504a8faa15321445e77a414fb81a93c0cda54f561ccd6957f2ace56ac1f", func := "loop.example/buildscheduler/laws.FnExactBestTime", spec := "fnExactBestTime", recurses := true, apart := false }
def FnExactBestTimeSaid : Prop := fnExactBestTimeRow.holds Try.pinned (OpenSpec.ofChange fnExactBestTimeSpec)

/-- ITS FALSE NEIGHBOUR: 'it returns false'. Refute it at one input. -/
def fnExactBestTimeWrong : ChangeSpec := { name := "fnExactBestTime", fn := fun _ => fun
  | [d1, d2, d3] => { results := [.lit (.bool false)], args := [d1, d2, d3] }
  | _ => none }
def FnExactBestTimeWrongFalsely : Prop := fnExactBestTimeRow.holds Try.pinned (OpenSpec.ofChange fnExactBestTimeWrong)

/-- 'laws.FnExactCountOrders': WHATEVER THE INPUT: true; the input reads as it did. -/
def fnExactCountOrdersSpec : ChangeSpec := { name := "fnExactCountOrders", fn := fun _ => fun
  | [d] => { results := [.lit (.bool true)], args := [d] }
  | _ => none }
def fnExactCountOrdersRow : OpenClaim := { program := "ytfdaeomlgpflhaa", sum := "7c150504a8faa15321445e77a414fb81a93c0cda54f561ccd6957f2ace56ac1f", func := "loop.example/buildscheduler/laws.FnExactCountOrders", spec := "fnExactCountOrders", recurses := true, apart := false }
def FnExactCountOrdersSaid : Prop := fnExactCountOrdersRow.holds Try.pinned (OpenSpec.ofChange fnExactCountOrdersSpec)

/-- ITS FALSE NEIGHBOUR: 'it returns false'. Refute it at one input. -/
def fnExactCountOrdersWrong : ChangeSpec := { name := "fnExactCountOrders", fn := fun _ => fun
  | [d] => { results := [.lit (.bool false)], args := [d] }
  | _ => none }
def FnExactCountOrdersWrongFalsely : Prop := fnExactCountOrdersRow.holds Try.pinned (OpenSpec.ofChange fnExactCountOrdersWrong)

/- THE SECOND FORM. 'bulk': how many values and letters a reading holds, each counted each time it is reached (what is shared counts as often as it is met; a slice's spare places count too). A statement '..UptoSaid' is the law's where the arguments, and the package variables that the reading takes, are together of bulk at most 1048576: NARROWER than '..Said'. Prove '..Said' where nothing that the law and all that it calls make is longer than what came in: it says more and counts as full. Else prove '..UptoSaid'. A law counts once. -/
mutual
def uptoBulk {H : Type} : DataW H → Nat
  | .lit (.string bytes) => bytes.length + 1
  | .lit _ => 1
  | .nil => 1
  | .ptr d => uptoBulk d + 1
  | .slice elems spare => uptoBulkAll elems + uptoBulkAll spare + 1
  | .agg parts => uptoBulkAll parts + 1
  | .iface _ d => uptoBulk d + 1
  | .map entries => uptoBulkEntries entries + 1
  | .held _ => 1
def uptoBulkAll {H : Type} : List (DataW H) → Nat
  | [] => 0
  | d :: r => uptoBulk d + uptoBulkAll r
def uptoBulkEntries {H : Type} : List (Lit × DataW H) → Nat
  | [] => 0
  | x :: r => uptoBulkEntry x + uptoBulkEntries r
def uptoBulkEntry {H : Type} : Lit × DataW H → Nat
  | (.string bytes, d) => bytes.length + uptoBulk d + 1
  | (_, d) => uptoBulk d + 1
 end
def uptoSmall : (H : Type) → List (DataW H) → Bool := fun _ ds => decide (uptoBulkAll ds ≤ 1048576)
def OpenSpec.upto (s : _root_.Go.ChangeSpec) : _root_.Go.OpenSpec := { _root_.Go.OpenSpec.ofChange s with cond := some uptoSmall }

/-- 'laws.FnExactValidStarts', WHERE WHAT IT READS IS OF BULK AT MOST 1048576: true; the input reads as it did. -/
def fnExactValidStartsUptoRow : OpenClaim := { program := "ytfdaeomlgpflhaa", sum := "7c150504a8faa15321445e77a414fb81a93c0cda54f561ccd6957f2ace56ac1f", func := "loop.example/buildscheduler/laws.FnExactValidStarts", spec := "fnExactValidStarts", apart := false, narrowed := true }
def FnExactValidStartsUptoSaid : Prop := fnExactValidStartsUptoRow.holds Try.pinned (OpenSpec.upto fnExactValidStartsSpec)

/-- 'laws.FnExactPlanStarts', WHERE WHAT IT READS IS OF BULK AT MOST 1048576: true; the input reads as it did. -/
def fnExactPlanStartsUptoRow : OpenClaim := { program := "ytfdaeomlgpflhaa", sum := "7c150504a8faa15321445e77a414fb81a93c0cda54f561ccd6957f2ace56ac1f", func := "loop.example/buildscheduler/laws.FnExactPlanStarts", spec := "fnExactPlanStarts", apart := false, narrowed := true }
def FnExactPlanStartsUptoSaid : Prop := fnExactPlanStartsUptoRow.holds Try.pinned (OpenSpec.upto fnExactPlanStartsSpec)

/-- 'laws.FnExactEndTime', WHERE WHAT IT READS IS OF BULK AT MOST 1048576: true; the input reads as it did. -/
def fnExactEndTimeUptoRow : OpenClaim := { program := "ytfdaeomlgpflhaa", sum := "7c150504a8faa15321445e77a414fb81a93c0cda54f561ccd6957f2ace56ac1f", func := "loop.example/buildscheduler/laws.FnExactEndTime", spec := "fnExactEndTime", apart := false, narrowed := true }
def FnExactEndTimeUptoSaid : Prop := fnExactEndTimeUptoRow.holds Try.pinned (OpenSpec.upto fnExactEndTimeSpec)

/-- 'laws.FnExactRunningAt', WHERE WHAT IT READS IS OF BULK AT MOST 1048576: true; the input reads as it did. -/
def fnExactRunningAtUptoRow : OpenClaim := { program := "ytfdaeomlgpflhaa", sum := "7c150504a8faa15321445e77a414fb81a93c0cda54f561ccd6957f2ace56ac1f", func := "loop.example/buildscheduler/laws.FnExactRunningAt", spec := "fnExactRunningAt", apart := false, narrowed := true }
def FnExactRunningAtUptoSaid : Prop := fnExactRunningAtUptoRow.holds Try.pinned (OpenSpec.upto fnExactRunningAtSpec)

/-- 'laws.FnExactLeastTime', WHERE WHAT IT READS IS OF BULK AT MOST 1048576: true; the input reads as it did. -/
def fnExactLeastTimeUptoRow : OpenClaim := { program := "ytfdaeomlgpflhaa", sum := "7c150504a8faa15321445e77a414fb81a93c0cda54f561ccd6957f2ace56ac1f", func := "loop.example/buildscheduler/laws.FnExactLeastTime", spec := "fnExactLeastTime", apart := false, narrowed := true }
def FnExactLeastTimeUptoSaid : Prop := fnExactLeastTimeUptoRow.holds Try.pinned (OpenSpec.upto fnExactLeastTimeSpec)

/-- 'laws.FnExactOrderStarts', WHERE WHAT IT READS IS OF BULK AT MOST 1048576: true; the input reads as it did. -/
def fnExactOrderStartsUptoRow : OpenClaim := { program := "ytfdaeomlgpflhaa", sum := "7c150504a8faa15321445e77a414fb81a93c0cda54f561ccd6957f2ace56ac1f", func := "loop.example/buildscheduler/laws.FnExactOrderStarts", spec := "fnExactOrderStarts", apart := false, narrowed := true }
def FnExactOrderStartsUptoSaid : Prop := fnExactOrderStartsUptoRow.holds Try.pinned (OpenSpec.upto fnExactOrderStartsSpec)

/-- 'laws.FnExactBestOrder', WHERE WHAT IT READS IS OF BULK AT MOST 1048576: true; the input reads as it did. -/
def fnExactBestOrderUptoRow : OpenClaim := { program := "ytfdaeomlgpflhaa", sum := "7c150504a8faa15321445e77a414fb81a93c0cda54f561ccd6957f2ace56ac1f", func := "loop.example/buildscheduler/laws.FnExactBestOrder", spec := "fnExactBestOrder", recurses := true, apart := false, narrowed := true }
def FnExactBestOrderUptoSaid : Prop := fnExactBestOrderUptoRow.holds Try.pinned (OpenSpec.upto fnExactBestOrderSpec)

/-- 'laws.FnExactBestTime', WHERE WHAT IT READS IS OF BULK AT MOST 1048576: true; the input reads as it did. -/
def fnExactBestTimeUptoRow : OpenClaim := { program := "ytfdaeomlgpflhaa", sum := "7c150504a8faa15321445e77a414fb81a93c0cda54f561ccd6957f2ace56ac1f", func := "loop.example/buildscheduler/laws.FnExactBestTime", spec := "fnExactBestTime", recurses := true, apart := false, narrowed := true }
def FnExactBestTimeUptoSaid : Prop := fnExactBestTimeUptoRow.holds Try.pinned (OpenSpec.upto fnExactBestTimeSpec)

/-- 'laws.FnExactCountOrders', WHERE WHAT IT READS IS OF BULK AT MOST 1048576: true; the input reads as it did. -/
def fnExactCountOrdersUptoRow : OpenClaim := { program := "ytfdaeomlgpflhaa", sum := "7c150504a8faa15321445e77a414fb81a93c0cda54f561ccd6957f2ace56ac1f", func := "loop.example/buildscheduler/laws.FnExactCountOrders", spec := "fnExactCountOrders", recurses := true, apart := false, narrowed := true }
def FnExactCountOrdersUptoSaid : Prop := fnExactCountOrdersUptoRow.holds Try.pinned (OpenSpec.upto fnExactCountOrdersSpec)

end Rows
end Go.Proofs.Ytfdaeomlgpflhaa
