/-
  No cell of these rows narrows 'for every input' (looked for: loops, veiled, ifaces, maps, wideKeys, modest, calm, conditions, laid).
  DERIVED. THE GIVEN ROWS OF THIS SEAT. 12 by the template 'for every input the law returns true; each argument reads behind the call as it read before'; 0 by the template 'total and deterministic' (their statements: YtnbgekbfccejdabTotals.lean).
  GIVEN WITH THE SEED: the statements are not yours to turn. If you find one false, say at which input.
  Laid BY PROGRAM, IN A SANDBOX (cutbox-rows.mjs): the forced cells as the released guide's own fill.sh prints them over the translation 6fcc8db84b0e76ad… (all of the seat's roots in one cut). By AI agents, Wed Nov 11 2026. No macro, syntax, notation, axiom, sorry.
-/
import Derived.Test.YtnbgekbfccejdabChecked
import GoSem.Claim
import GoSem.ClaimJoined
import GoSem.ClaimMapViews
import Derived.JoinedTies
import Derived.KernelRfl
namespace Go.Proofs.Ytnbgekbfccejdab
/- THE CELL 'sum', in the pinned program and in every row, IS THE sha256 OF THE DUMP (.gsa) THAT YtnbgekbfccejdabProg.lean LOADS. Nothing in Lean hashes anything: it is a label: what it is worth is what the hold of that sum in a sandbox is worth. -/
noncomputable def Try.pinned : Pinned := { name := "ytnbgekbfccejdab", sum := "6fcc8db84b0e76ad5264346116d709e15535c7bac939dd6b99f1ea329a98b764", checked := Try.checked }
namespace Rows
def none {H : Type} : Left H := { results := [], args := [] }

/-- 'laws.FnOrderStarts': WHATEVER THE INPUT: true; the input reads as it did. -/
def fnOrderStartsSpec : ChangeSpec := { name := "fnOrderStarts", fn := fun _ => fun
  | [d] => { results := [.lit (.bool true)], args := [d] }
  | _ => none }
def fnOrderStartsRow : OpenClaim := { program := "ytnbgekbfccejdab", sum := "6fcc8db84b0e76ad5264346116d709e15535c7bac939dd6b99f1ea329a98b764", func := "loop.example/buildscheduler/laws.FnOrderStarts", spec := "fnOrderStarts", apart := false }
def FnOrderStartsSaid : Prop := fnOrderStartsRow.holds Try.pinned (OpenSpec.ofChange fnOrderStartsSpec)

/-- ITS FALSE NEIGHBOUR: 'it returns false'. Refute it at one input. -/
def fnOrderStartsWrong : ChangeSpec := { name := "fnOrderStarts", fn := fun _ => fun
  | [d] => { results := [.lit (.bool false)], args := [d] }
  | _ => none }
def FnOrderStartsWrongFalsely : Prop := fnOrderStartsRow.holds Try.pinned (OpenSpec.ofChange fnOrderStartsWrong)

/-- 'laws.FnOrderStartsFirst': WHATEVER THE INPUT: true; the input reads as it did. -/
def fnOrderStartsFirstSpec : ChangeSpec := { name := "fnOrderStartsFirst", fn := fun _ => fun
  | [d] => { results := [.lit (.bool true)], args := [d] }
  | _ => none }
def fnOrderStartsFirstRow : OpenClaim := { program := "ytnbgekbfccejdab", sum := "6fcc8db84b0e76ad5264346116d709e15535c7bac939dd6b99f1ea329a98b764", func := "loop.example/buildscheduler/laws.FnOrderStartsFirst", spec := "fnOrderStartsFirst", apart := false }
def FnOrderStartsFirstSaid : Prop := fnOrderStartsFirstRow.holds Try.pinned (OpenSpec.ofChange fnOrderStartsFirstSpec)

/-- ITS FALSE NEIGHBOUR: 'it returns false'. Refute it at one input. -/
def fnOrderStartsFirstWrong : ChangeSpec := { name := "fnOrderStartsFirst", fn := fun _ => fun
  | [d] => { results := [.lit (.bool false)], args := [d] }
  | _ => none }
def FnOrderStartsFirstWrongFalsely : Prop := fnOrderStartsFirstRow.holds Try.pinned (OpenSpec.ofChange fnOrderStartsFirstWrong)

/-- 'laws.FnBestOrder': WHATEVER THE INPUT: true; the input reads as it did. -/
def fnBestOrderSpec : ChangeSpec := { name := "fnBestOrder", fn := fun _ => fun
  | [d] => { results := [.lit (.bool true)], args := [d] }
  | _ => none }
def fnBestOrderRow : OpenClaim := { program := "ytnbgekbfccejdab", sum := "6fcc8db84b0e76ad5264346116d709e15535c7bac939dd6b99f1ea329a98b764", func := "loop.example/buildscheduler/laws.FnBestOrder", spec := "fnBestOrder", recurses := true, apart := false }
def FnBestOrderSaid : Prop := fnBestOrderRow.holds Try.pinned (OpenSpec.ofChange fnBestOrderSpec)

/-- ITS FALSE NEIGHBOUR: 'it returns false'. Refute it at one input. -/
def fnBestOrderWrong : ChangeSpec := { name := "fnBestOrder", fn := fun _ => fun
  | [d] => { results := [.lit (.bool false)], args := [d] }
  | _ => none }
def FnBestOrderWrongFalsely : Prop := fnBestOrderRow.holds Try.pinned (OpenSpec.ofChange fnBestOrderWrong)

/-- 'laws.FnBestTime': WHATEVER THE INPUT: true; the input reads as it did. -/
def fnBestTimeSpec : ChangeSpec := { name := "fnBestTime", fn := fun _ => fun
  | [d] => { results := [.lit (.bool true)], args := [d] }
  | _ => none }
def fnBestTimeRow : OpenClaim := { program := "ytnbgekbfccejdab", sum := "6fcc8db84b0e76ad5264346116d709e15535c7bac939dd6b99f1ea329a98b764", func := "loop.example/buildscheduler/laws.FnBestTime", spec := "fnBestTime", recurses := true, apart := false }
def FnBestTimeSaid : Prop := fnBestTimeRow.holds Try.pinned (OpenSpec.ofChange fnBestTimeSpec)

/-- ITS FALSE NEIGHBOUR: 'it returns false'. Refute it at one input. -/
def fnBestTimeWrong : ChangeSpec := { name := "fnBestTime", fn := fun _ => fun
  | [d] => { results := [.lit (.bool false)], args := [d] }
  | _ => none }
def FnBestTimeWrongFalsely : Prop := fnBestTimeRow.holds Try.pinned (OpenSpec.ofChange fnBestTimeWrong)

/-- 'laws.FnBestTimeOrder': WHATEVER THE INPUT: true; the input reads as it did. -/
def fnBestTimeOrderSpec : ChangeSpec := { name := "fnBestTimeOrder", fn := fun _ => fun
  | [d] => { results := [.lit (.bool true)], args := [d] }
  | _ => none }
def fnBestTimeOrderRow : OpenClaim := { program := "ytnbgekbfccejdab", sum := "6fcc8db84b0e76ad5264346116d709e15535c7bac939dd6b99f1ea329a98b764", func := "loop.example/buildscheduler/laws.FnBestTimeOrder", spec := "fnBestTimeOrder", recurses := true, apart := false }
def FnBestTimeOrderSaid : Prop := fnBestTimeOrderRow.holds Try.pinned (OpenSpec.ofChange fnBestTimeOrderSpec)

/-- ITS FALSE NEIGHBOUR: 'it returns false'. Refute it at one input. -/
def fnBestTimeOrderWrong : ChangeSpec := { name := "fnBestTimeOrder", fn := fun _ => fun
  | [d] => { results := [.lit (.bool false)], args := [d] }
  | _ => none }
def FnBestTimeOrderWrongFalsely : Prop := fnBestTimeOrderRow.holds Try.pinned (OpenSpec.ofChange fnBestTimeOrderWrong)

/-- 'laws.FnBestTimeMore': WHATEVER THE INPUT: true; the input reads as it did. -/
def fnBestTimeMoreSpec : ChangeSpec := { name := "fnBestTimeMore", fn := fun _ => fun
  | [d] => { results := [.lit (.bool true)], args := [d] }
  | _ => none }
def fnBestTimeMoreRow : OpenClaim := { program := "ytnbgekbfccejdab", sum := "6fcc8db84b0e76ad5264346116d709e15535c7bac939dd6b99f1ea329a98b764", func := "loop.example/buildscheduler/laws.FnBestTimeMore", spec := "fnBestTimeMore", recurses := true, apart := false }
def FnBestTimeMoreSaid : Prop := fnBestTimeMoreRow.holds Try.pinned (OpenSpec.ofChange fnBestTimeMoreSpec)

/-- ITS FALSE NEIGHBOUR: 'it returns false'. Refute it at one input. -/
def fnBestTimeMoreWrong : ChangeSpec := { name := "fnBestTimeMore", fn := fun _ => fun
  | [d] => { results := [.lit (.bool false)], args := [d] }
  | _ => none }
def FnBestTimeMoreWrongFalsely : Prop := fnBestTimeMoreRow.holds Try.pinned (OpenSpec.ofChange fnBestTimeMoreWrong)

/-- 'laws.FnCountOrders': WHATEVER THE INPUT: true; the input reads as it did. -/
def fnCountOrdersSpec : ChangeSpec := { name := "fnCountOrders", fn := fun _ => fun
  | [d] => { results := [.lit (.bool true)], args := [d] }
  | _ => none }
def fnCountOrdersRow : OpenClaim := { program := "ytnbgekbfccejdab", sum := "6fcc8db84b0e76ad5264346116d709e15535c7bac939dd6b99f1ea329a98b764", func := "loop.example/buildscheduler/laws.FnCountOrders", spec := "fnCountOrders", recurses := true, apart := false }
def FnCountOrdersSaid : Prop := fnCountOrdersRow.holds Try.pinned (OpenSpec.ofChange fnCountOrdersSpec)

/-- ITS FALSE NEIGHBOUR: 'it returns false'. Refute it at one input. -/
def fnCountOrdersWrong : ChangeSpec := { name := "fnCountOrders", fn := fun _ => fun
  | [d] => { results := [.lit (.bool false)], args := [d] }
  | _ => none }
def FnCountOrdersWrongFalsely : Prop := fnCountOrdersRow.holds Try.pinned (OpenSpec.ofChange fnCountOrdersWrong)

/-- 'laws.FnCountOrdersChain': WHATEVER THE INPUT: true; the input reads as it did. -/
def fnCountOrdersChainSpec : ChangeSpec := { name := "fnCountOrdersChain", fn := fun _ => fun
  | [d] => { results := [.lit (.bool true)], args := [d] }
  | _ => none }
def fnCountOrdersChainRow : OpenClaim := { program := "ytnbgekbfccejdab", sum := "6fcc8db84b0e76ad5264346116d709e15535c7bac939dd6b99f1ea329a98b764", func := "loop.example/buildscheduler/laws.FnCountOrdersChain", spec := "fnCountOrdersChain", recurses := true, apart := false }
def FnCountOrdersChainSaid : Prop := fnCountOrdersChainRow.holds Try.pinned (OpenSpec.ofChange fnCountOrdersChainSpec)

/-- ITS FALSE NEIGHBOUR: 'it returns false'. Refute it at one input. -/
def fnCountOrdersChainWrong : ChangeSpec := { name := "fnCountOrdersChain", fn := fun _ => fun
  | [d] => { results := [.lit (.bool false)], args := [d] }
  | _ => none }
def FnCountOrdersChainWrongFalsely : Prop := fnCountOrdersChainRow.holds Try.pinned (OpenSpec.ofChange fnCountOrdersChainWrong)

/-- 'laws.FnHeadTimesMany': WHATEVER THE INPUT: true; the input reads as it did. -/
def fnHeadTimesManySpec : ChangeSpec := { name := "fnHeadTimesMany", fn := fun _ => fun
  | [d] => { results := [.lit (.bool true)], args := [d] }
  | _ => none }
def fnHeadTimesManyRow : OpenClaim := { program := "ytnbgekbfccejdab", sum := "6fcc8db84b0e76ad5264346116d709e15535c7bac939dd6b99f1ea329a98b764", func := "loop.example/buildscheduler/laws.FnHeadTimesMany", spec := "fnHeadTimesMany", apart := false }
def FnHeadTimesManySaid : Prop := fnHeadTimesManyRow.holds Try.pinned (OpenSpec.ofChange fnHeadTimesManySpec)

/-- ITS FALSE NEIGHBOUR: 'it returns false'. Refute it at one input. -/
def fnHeadTimesManyWrong : ChangeSpec := { name := "fnHeadTimesMany", fn := fun _ => fun
  | [d] => { results := [.lit (.bool false)], args := [d] }
  | _ => none }
def FnHeadTimesManyWrongFalsely : Prop := fnHeadTimesManyRow.holds Try.pinned (OpenSpec.ofChange fnHeadTimesManyWrong)

/-- 'laws.FnValidStartsHead': WHATEVER THE INPUT: true; the input reads as it did. -/
def fnValidStartsHeadSpec : ChangeSpec := { name := "fnValidStartsHead", fn := fun _ => fun
  | [d] => { results := [.lit (.bool true)], args := [d] }
  | _ => none }
def fnValidStartsHeadRow : OpenClaim := { program := "ytnbgekbfccejdab", sum := "6fcc8db84b0e76ad5264346116d709e15535c7bac939dd6b99f1ea329a98b764", func := "loop.example/buildscheduler/laws.FnValidStartsHead", spec := "fnValidStartsHead", apart := false }
def FnValidStartsHeadSaid : Prop := fnValidStartsHeadRow.holds Try.pinned (OpenSpec.ofChange fnValidStartsHeadSpec)

/-- ITS FALSE NEIGHBOUR: 'it returns false'. Refute it at one input. -/
def fnValidStartsHeadWrong : ChangeSpec := { name := "fnValidStartsHead", fn := fun _ => fun
  | [d] => { results := [.lit (.bool false)], args := [d] }
  | _ => none }
def FnValidStartsHeadWrongFalsely : Prop := fnValidStartsHeadRow.holds Try.pinned (OpenSpec.ofChange fnValidStartsHeadWrong)

/-- 'laws.FnValidStartsRow': WHATEVER THE INPUT: true; the input reads as it did. -/
def fnValidStartsRowSpec : ChangeSpec := { name := "fnValidStartsRow", fn := fun _ => fun
  | [d] => { results := [.lit (.bool true)], args := [d] }
  | _ => none }
def fnValidStartsRowRow : OpenClaim := { program := "ytnbgekbfccejdab", sum := "6fcc8db84b0e76ad5264346116d709e15535c7bac939dd6b99f1ea329a98b764", func := "loop.example/buildscheduler/laws.FnValidStartsRow", spec := "fnValidStartsRow", apart := false }
def FnValidStartsRowSaid : Prop := fnValidStartsRowRow.holds Try.pinned (OpenSpec.ofChange fnValidStartsRowSpec)

/-- ITS FALSE NEIGHBOUR: 'it returns false'. Refute it at one input. -/
def fnValidStartsRowWrong : ChangeSpec := { name := "fnValidStartsRow", fn := fun _ => fun
  | [d] => { results := [.lit (.bool false)], args := [d] }
  | _ => none }
def FnValidStartsRowWrongFalsely : Prop := fnValidStartsRowRow.holds Try.pinned (OpenSpec.ofChange fnValidStartsRowWrong)

/-- 'laws.FnPlanStartsFirst': WHATEVER THE INPUT: true; the input reads as it did. -/
def fnPlanStartsFirstSpec : ChangeSpec := { name := "fnPlanStartsFirst", fn := fun _ => fun
  | [d] => { results := [.lit (.bool true)], args := [d] }
  | _ => none }
def fnPlanStartsFirstRow : OpenClaim := { program := "ytnbgekbfccejdab", sum := "6fcc8db84b0e76ad5264346116d709e15535c7bac939dd6b99f1ea329a98b764", func := "loop.example/buildscheduler/laws.FnPlanStartsFirst", spec := "fnPlanStartsFirst", apart := false }
def FnPlanStartsFirstSaid : Prop := fnPlanStartsFirstRow.holds Try.pinned (OpenSpec.ofChange fnPlanStartsFirstSpec)

/-- ITS FALSE NEIGHBOUR: 'it returns false'. Refute it at one input. -/
def fnPlanStartsFirstWrong : ChangeSpec := { name := "fnPlanStartsFirst", fn := fun _ => fun
  | [d] => { results := [.lit (.bool false)], args := [d] }
  | _ => none }
def FnPlanStartsFirstWrongFalsely : Prop := fnPlanStartsFirstRow.holds Try.pinned (OpenSpec.ofChange fnPlanStartsFirstWrong)

/- THE SECOND FORM. 'bulk': how many values and letters a reading holds, each counted each time it is reached (what is shared counts as often as it is met; a slice's spare places count too). A statement '..UptoSaid' is the law's where the arguments, and the package variables that the reading takes, are together of bulk at most 1048576: NARROWER than '..Said'. Prove '..Said' where nothing that the law and all that it calls make is longer than what came in: it says more and counts as full. Else prove '..UptoSaid'. A law counts once. -/
mutual
def uptoBulk {H : Type} : DataW H → Nat
  | .lit (.string bytes) => bytes.length + 1
  | .lit _ => 1
  | .nil => 1
  | .ptr d => uptoBulk d + 1
  | .slice elems spare => uptoBulkAll elems + uptoBulkAll spare + 1
  | .agg parts => uptoBulkAll parts + 1
  | .iface _ d => uptoBulk d + 1
  | .map entries => uptoBulkEntries entries + 1
  | .held _ => 1
def uptoBulkAll {H : Type} : List (DataW H) → Nat
  | [] => 0
  | d :: r => uptoBulk d + uptoBulkAll r
def uptoBulkEntries {H : Type} : List (Lit × DataW H) → Nat
  | [] => 0
  | x :: r => uptoBulkEntry x + uptoBulkEntries r
def uptoBulkEntry {H : Type} : Lit × DataW H → Nat
  | (.string bytes, d) => bytes.length + uptoBulk d + 1
  | (_, d) => uptoBulk d + 1
 end
def uptoSmall : (H : Type) → List (DataW H) → Bool := fun _ ds => decide (uptoBulkAll ds ≤ 1048576)
def OpenSpec.upto (s : _root_.Go.ChangeSpec) : _root_.Go.OpenSpec := { _root_.Go.OpenSpec.ofChange s with cond := some uptoSmall }

/-- 'laws.FnOrderStarts', WHERE WHAT IT READS IS OF BULK AT MOST 1048576: true; the input reads as it did. -/
def fnOrderStartsUptoRow : OpenClaim := { program := "ytnbgekbfccejdab", sum := "6fcc8db84b0e76ad5264346116d709e15535c7bac939dd6b99f1ea329a98b764", func := "loop.example/buildscheduler/laws.FnOrderStarts", spec := "fnOrderStarts", apart := false, narrowed := true }
def FnOrderStartsUptoSaid : Prop := fnOrderStartsUptoRow.holds Try.pinned (OpenSpec.upto fnOrderStartsSpec)

/-- 'laws.FnOrderStartsFirst', WHERE WHAT IT READS IS OF BULK AT MOST 1048576: true; the input reads as it did. -/
def fnOrderStartsFirstUptoRow : OpenClaim := { program := "ytnbgekbfccejdab", sum := "6fcc8db84b0e76ad5264346116d709e15535c7bac939dd6b99f1ea329a98b764", func := "loop.example/buildscheduler/laws.FnOrderStartsFirst", spec := "fnOrderStartsFirst", apart := false, narrowed := true }
def FnOrderStartsFirstUptoSaid : Prop := fnOrderStartsFirstUptoRow.holds Try.pinned (OpenSpec.upto fnOrderStartsFirstSpec)

/-- 'laws.FnBestOrder', WHERE WHAT IT READS IS OF BULK AT MOST 1048576: true; the input reads as it did. -/
def fnBestOrderUptoRow : OpenClaim := { program := "ytnbgekbfccejdab", sum := "6fcc8db84b0e76ad5264346116d709e15535c7bac939dd6b99f1ea329a98b764", func := "loop.example/buildscheduler/laws.FnBestOrder", spec := "fnBestOrder", recurses := true, apart := false, narrowed := true }
def FnBestOrderUptoSaid : Prop := fnBestOrderUptoRow.holds Try.pinned (OpenSpec.upto fnBestOrderSpec)

/-- 'laws.FnBestTime', WHERE WHAT IT READS IS OF BULK AT MOST 1048576: true; the input reads as it did. -/
def fnBestTimeUptoRow : OpenClaim := { program := "ytnbgekbfccejdab", sum := "6fcc8db84b0e76ad5264346116d709e15535c7bac939dd6b99f1ea329a98b764", func := "loop.example/buildscheduler/laws.FnBestTime", spec := "fnBestTime", recurses := true, apart := false, narrowed := true }
def FnBestTimeUptoSaid : Prop := fnBestTimeUptoRow.holds Try.pinned (OpenSpec.upto fnBestTimeSpec)

/-- 'laws.FnBestTimeOrder', WHERE WHAT IT READS IS OF BULK AT MOST 1048576: true; the input reads as it did. -/
def fnBestTimeOrderUptoRow : OpenClaim := { program := "ytnbgekbfccejdab", sum := "6fcc8db84b0e76ad5264346116d709e15535c7bac939dd6b99f1ea329a98b764", func := "loop.example/buildscheduler/laws.FnBestTimeOrder", spec := "fnBestTimeOrder", recurses := true, apart := false, narrowed := true }
def FnBestTimeOrderUptoSaid : Prop := fnBestTimeOrderUptoRow.holds Try.pinned (OpenSpec.upto fnBestTimeOrderSpec)

/-- 'laws.FnBestTimeMore', WHERE WHAT IT READS IS OF BULK AT MOST 1048576: true; the input reads as it did. -/
def fnBestTimeMoreUptoRow : OpenClaim := { program := "ytnbgekbfccejdab", sum := "6fcc8db84b0e76ad5264346116d709e15535c7bac939dd6b99f1ea329a98b764", func := "loop.example/buildscheduler/laws.FnBestTimeMore", spec := "fnBestTimeMore", recurses := true, apart := false, narrowed := true }
def FnBestTimeMoreUptoSaid : Prop := fnBestTimeMoreUptoRow.holds Try.pinned (OpenSpec.upto fnBestTimeMoreSpec)

/-- 'laws.FnCountOrders', WHERE WHAT IT READS IS OF BULK AT MOST 1048576: true; the input reads as it did. -/
def fnCountOrdersUptoRow : OpenClaim := { program := "ytnbgekbfccejdab", sum := "6fcc8db84b0e76ad5264346116d709e15535c7bac939dd6b99f1ea329a98b764", func := "loop.example/buildscheduler/laws.FnCountOrders", spec := "fnCountOrders", recurses := true, apart := false, narrowed := true }
def FnCountOrdersUptoSaid : Prop := fnCountOrdersUptoRow.holds Try.pinned (OpenSpec.upto fnCountOrdersSpec)

/-- 'laws.FnCountOrdersChain', WHERE WHAT IT READS IS OF BULK AT MOST 1048576: true; the input reads as it did. -/
def fnCountOrdersChainUptoRow : OpenClaim := { program := "ytnbgekbfccejdab", sum := "6fcc8db84b0e76ad5264346116d709e15535c7bac939dd6b99f1ea329a98b764", func := "loop.example/buildscheduler/laws.FnCountOrdersChain", spec := "fnCountOrdersChain", recurses := true, apart := false, narrowed := true }
def FnCountOrdersChainUptoSaid : Prop := fnCountOrdersChainUptoRow.holds Try.pinned (OpenSpec.upto fnCountOrdersChainSpec)

/-- 'laws.FnHeadTimesMany', WHERE WHAT IT READS IS OF BULK AT MOST 1048576: true; the input reads as it did. -/
def fnHeadTimesManyUptoRow : OpenClaim := { program := "ytnbgekbfccejdab", sum := "6fcc8db84b0e76ad5264346116d709e15535c7bac939dd6b99f1ea329a98b764", func := "loop.example/buildscheduler/laws.FnHeadTimesMany", spec := "fnHeadTimesMany", apart := false, narrowed := true }
def FnHeadTimesManyUptoSaid : Prop := fnHeadTimesManyUptoRow.holds Try.pinned (OpenSpec.upto fnHeadTimesManySpec)

/-- 'laws.FnValidStartsHead', WHERE WHAT IT READS IS OF BULK AT MOST 1048576: true; the input reads as it did. -/
def fnValidStartsHeadUptoRow : OpenClaim := { program := "ytnbgekbfccejdab", sum := "6fcc8db84b0e76ad5264346116d709e15535c7bac939dd6b99f1ea329a98b764", func := "loop.example/buildscheduler/laws.FnValidStartsHead", spec := "fnValidStartsHead", apart := false, narrowed := true }
def FnValidStartsHeadUptoSaid : Prop := fnValidStartsHeadUptoRow.holds Try.pinned (OpenSpec.upto fnValidStartsHeadSpec)

/-- 'laws.FnValidStartsRow', WHERE WHAT IT READS IS OF BULK AT MOST 1048576: true; the input reads as it did. -/
def fnValidStartsRowUptoRow : OpenClaim := { program := "ytnbgekbfccejdab", sum := "6fcc8db84b0e76ad5264346116d709e15535c7bac939dd6b99f1ea329a98b764", func := "loop.example/buildscheduler/laws.FnValidStartsRow", spec := "fnValidStartsRow", apart := false, narrowed := true }
def FnValidStartsRowUptoSaid : Prop := fnValidStartsRowUptoRow.holds Try.pinned (OpenSpec.upto fnValidStartsRowSpec)

/-- 'laws.FnPlanStartsFirst', WHERE WHAT IT READS IS OF BULK AT MOST 1048576: true; the input reads as it did. -/
def fnPlanStartsFirstUptoRow : OpenClaim := { program := "ytnbgekbfccejdab", sum := "6fcc8db84b0e76ad5264346116d709e15535c7bac939dd6b99f1ea329a98b764", func := "loop.example/buildscheduler/laws.FnPlanStartsFirst", spec := "fnPlanStartsFirst", apart := false, narrowed := true }
def FnPlanStartsFirstUptoSaid : Prop := fnPlanStartsFirstUptoRow.holds Try.pinned (OpenSpec.upto fnPlanStartsFirstSpec)

end Rows
end Go.Proofs.Ytnbgekbfccejdab
