/-
  No cell of these rows narrows 'for every input' (looked for: loops, veiled, ifaces, maps, wideKeys, modest, calm, conditions, laid).
  DERIVED. THE GIVEN ROWS OF THIS SEAT. 6 by the template 'for every input the law returns true; each argument reads behind the call as it read before'; 0 by the template 'total and deterministic' (their statements: YtbmfhnijbdmjbaaTotals.lean).
  GIVEN WITH THE SEED: the statements are not yours to turn. If you find one false, say at which input.
  Laid BY PROGRAM, IN A SANDBOX (cutbox-rows.mjs): the forced cells as the released guide's own fill.sh prints them over the translation 6359d57af33ccf52… (all of the seat's roots in one cut). By AI agents, Wed Nov 11 2026. No macro, syntax, notation, axiom, sorry.
-/
import Derived.Test.YtbmfhnijbdmjbaaChecked
import GoSem.Claim
import GoSem.ClaimJoined
import GoSem.ClaimMapViews
import Derived.JoinedTies
import Derived.KernelRfl
namespace Go.Proofs.Ytbmfhnijbdmjbaa
/- THE CELL 'sum', in the pinned program and in every row, IS THE sha256 OF THE DUMP (.gsa) THAT YtbmfhnijbdmjbaaProg.lean LOADS. Nothing in Lean hashes anything: it is a label: what it is worth is what the hold of that sum in a sandbox is worth. -/
noncomputable def Try.pinned : Pinned := { name := "ytbmfhnijbdmjbaa", sum := "6359d57af33ccf52e5897d78093d296939c45cbccd0e17cc2b37a8daa8dbf563", checked := Try.checked }
namespace Rows
def none {H : Type} : Left H := { results := [], args := [] }

/-- 'laws.FnExactValidUsers': WHATEVER THE INPUT: true; the input reads as it did. -/
def fnExactValidUsersSpec : ChangeSpec := { name := "fnExactValidUsers", fn := fun _ => fun
  | [d] => { results := [.lit (.bool true)], args := [d] }
  | _ => none }
def fnExactValidUsersRow : OpenClaim := { program := "ytbmfhnijbdmjbaa", sum := "6359d57af33ccf52e5897d78093d296939c45cbccd0e17cc2b37a8daa8dbf563", func := "loop.example/buildscheduler/laws.FnExactValidUsers", spec := "fnExactValidUsers", apart := false }
def FnExactValidUsersSaid : Prop := fnExactValidUsersRow.holds Try.pinned (OpenSpec.ofChange fnExactValidUsersSpec)

/-- ITS FALSE NEIGHBOUR: 'it returns false'. Refute it at one input. -/
def fnExactValidUsersWrong : ChangeSpec := { name := "fnExactValidUsers", fn := fun _ => fun
  | [d] => { results := [.lit (.bool false)], args := [d] }
  | _ => none }
def FnExactValidUsersWrongFalsely : Prop := fnExactValidUsersRow.holds Try.pinned (OpenSpec.ofChange fnExactValidUsersWrong)

/-- 'laws.FnExactNextUser': WHATEVER THE INPUT: true; the input reads as it did. -/
def fnExactNextUserSpec : ChangeSpec := { name := "fnExactNextUser", fn := fun _ => fun
  | [d] => { results := [.lit (.bool true)], args := [d] }
  | _ => none }
def fnExactNextUserRow : OpenClaim := { program := "ytbmfhnijbdmjbaa", sum := "6359d57af33ccf52e5897d78093d296939c45cbccd0e17cc2b37a8daa8dbf563", func := "loop.example/buildscheduler/laws.FnExactNextUser", spec := "fnExactNextUser", recurses := true, apart := false }
def FnExactNextUserSaid : Prop := fnExactNextUserRow.holds Try.pinned (OpenSpec.ofChange fnExactNextUserSpec)

/-- ITS FALSE NEIGHBOUR: 'it returns false'. Refute it at one input. -/
def fnExactNextUserWrong : ChangeSpec := { name := "fnExactNextUser", fn := fun _ => fun
  | [d] => { results := [.lit (.bool false)], args := [d] }
  | _ => none }
def FnExactNextUserWrongFalsely : Prop := fnExactNextUserRow.holds Try.pinned (OpenSpec.ofChange fnExactNextUserWrong)

/-- 'laws.FnExactServeUser': WHATEVER THE INPUT: true; the input reads as it did. -/
def fnExactServeUserSpec : ChangeSpec := { name := "fnExactServeUser", fn := fun _ => fun
  | [d1, d2] => { results := [.lit (.bool true)], args := [d1, d2] }
  | _ => none }
def fnExactServeUserRow : OpenClaim := { program := "ytbmfhnijbdmjbaa", sum := "6359d57af33ccf52e5897d78093d296939c45cbccd0e17cc2b37a8daa8dbf563", func := "loop.example/buildscheduler/laws.FnExactServeUser", spec := "fnExactServeUser", recurses := true, apart := false }
def FnExactServeUserSaid : Prop := fnExactServeUserRow.holds Try.pinned (OpenSpec.ofChange fnExactServeUserSpec)

/-- ITS FALSE NEIGHBOUR: 'it returns false'. Refute it at one input. -/
def fnExactServeUserWrong : ChangeSpec := { name := "fnExactServeUser", fn := fun _ => fun
  | [d1, d2] => { results := [.lit (.bool false)], args := [d1, d2] }
  | _ => none }
def FnExactServeUserWrongFalsely : Prop := fnExactServeUserRow.holds Try.pinned (OpenSpec.ofChange fnExactServeUserWrong)

/-- 'laws.FnExactServeAll': WHATEVER THE INPUT: true; the input reads as it did. -/
def fnExactServeAllSpec : ChangeSpec := { name := "fnExactServeAll", fn := fun _ => fun
  | [d1, d2] => { results := [.lit (.bool true)], args := [d1, d2] }
  | _ => none }
def fnExactServeAllRow : OpenClaim := { program := "ytbmfhnijbdmjbaa", sum := "6359d57af33ccf52e5897d78093d296939c45cbccd0e17cc2b37a8daa8dbf563", func := "loop.example/buildscheduler/laws.FnExactServeAll", spec := "fnExactServeAll", recurses := true, apart := false }
def FnExactServeAllSaid : Prop := fnExactServeAllRow.holds Try.pinned (OpenSpec.ofChange fnExactServeAllSpec)

/-- ITS FALSE NEIGHBOUR: 'it returns false'. Refute it at one input. -/
def fnExactServeAllWrong : ChangeSpec := { name := "fnExactServeAll", fn := fun _ => fun
  | [d1, d2] => { results := [.lit (.bool false)], args := [d1, d2] }
  | _ => none }
def FnExactServeAllWrongFalsely : Prop := fnExactServeAllRow.holds Try.pinned (OpenSpec.ofChange fnExactServeAllWrong)

/-- 'laws.FnExactFairParts': WHATEVER THE INPUT: true; the input reads as it did. -/
def fnExactFairPartsSpec : ChangeSpec := { name := "fnExactFairParts", fn := fun _ => fun
  | [d1, d2] => { results := [.lit (.bool true)], args := [d1, d2] }
  | _ => none }
def fnExactFairPartsRow : OpenClaim := { program := "ytbmfhnijbdmjbaa", sum := "6359d57af33ccf52e5897d78093d296939c45cbccd0e17cc2b37a8daa8dbf563", func := "loop.example/buildscheduler/laws.FnExactFairParts", spec := "fnExactFairParts", apart := false }
def FnExactFairPartsSaid : Prop := fnExactFairPartsRow.holds Try.pinned (OpenSpec.ofChange fnExactFairPartsSpec)

/-- ITS FALSE NEIGHBOUR: 'it returns false'. Refute it at one input. -/
def fnExactFairPartsWrong : ChangeSpec := { name := "fnExactFairParts", fn := fun _ => fun
  | [d1, d2] => { results := [.lit (.bool false)], args := [d1, d2] }
  | _ => none }
def FnExactFairPartsWrongFalsely : Prop := fnExactFairPartsRow.holds Try.pinned (OpenSpec.ofChange fnExactFairPartsWrong)

/-- 'laws.FnExactValidGraph': WHATEVER THE INPUT: true; the input reads as it did. -/
def fnExactValidGraphSpec : ChangeSpec := { name := "fnExactValidGraph", fn := fun _ => fun
  | [d] => { results := [.lit (.bool true)], args := [d] }
  | _ => none }
def fnExactValidGraphRow : OpenClaim := { program := "ytbmfhnijbdmjbaa", sum := "6359d57af33ccf52e5897d78093d296939c45cbccd0e17cc2b37a8daa8dbf563", func := "loop.example/buildscheduler/laws.FnExactValidGraph", spec := "fnExactValidGraph", apart := false }
def FnExactValidGraphSaid : Prop := fnExactValidGraphRow.holds Try.pinned (OpenSpec.ofChange fnExactValidGraphSpec)

/-- ITS FALSE NEIGHBOUR: 'it returns false'. Refute it at one input. -/
def fnExactValidGraphWrong : ChangeSpec := { name := "fnExactValidGraph", fn := fun _ => fun
  | [d] => { results := [.lit (.bool false)], args := [d] }
  | _ => none }
def FnExactValidGraphWrongFalsely : Prop := fnExactValidGraphRow.holds Try.pinned (OpenSpec.ofChange fnExactValidGraphWrong)

/- THE SECOND FORM. 'bulk': how many values and letters a reading holds, each counted each time it is reached (what is shared counts as often as it is met; a slice's spare places count too). A statement '..UptoSaid' is the law's where the arguments, and the package variables that the reading takes, are together of bulk at most 1048576: NARROWER than '..Said'. Prove '..Said' where nothing that the law and all that it calls make is longer than what came in: it says more and counts as full. Else prove '..UptoSaid'. A law counts once. -/
mutual
def uptoBulk {H : Type} : DataW H → Nat
  | .lit (.string bytes) => bytes.length + 1
  | .lit _ => 1
  | .nil => 1
  | .ptr d => uptoBulk d + 1
  | .slice elems spare => uptoBulkAll elems + uptoBulkAll spare + 1
  | .agg parts => uptoBulkAll parts + 1
  | .iface _ d => uptoBulk d + 1
  | .map entries => uptoBulkEntries entries + 1
  | .held _ => 1
def uptoBulkAll {H : Type} : List (DataW H) → Nat
  | [] => 0
  | d :: r => uptoBulk d + uptoBulkAll r
def uptoBulkEntries {H : Type} : List (Lit × DataW H) → Nat
  | [] => 0
  | x :: r => uptoBulkEntry x + uptoBulkEntries r
def uptoBulkEntry {H : Type} : Lit × DataW H → Nat
  | (.string bytes, d) => bytes.length + uptoBulk d + 1
  | (_, d) => uptoBulk d + 1
 end
def uptoSmall : (H : Type) → List (DataW H) → Bool := fun _ ds => decide (uptoBulkAll ds ≤ 1048576)
def OpenSpec.upto (s : _root_.Go.ChangeSpec) : _root_.Go.OpenSpec := { _root_.Go.OpenSpec.ofChange s with cond := some uptoSmall }

/-- 'laws.FnExactValidUsers', WHERE WHAT IT READS IS OF BULK AT MOST 1048576: true; the input reads as it did. -/
def fnExactValidUsersUptoRow : OpenClaim := { program := "ytbmfhnijbdmjbaa", sum := "6359d57af33ccf52e5897d78093d296939c45cbccd0e17cc2b37a8daa8dbf563", func := "loop.example/buildscheduler/laws.FnExactValidUsers", spec := "fnExactValidUsers", apart := false, narrowed := true }
def FnExactValidUsersUptoSaid : Prop := fnExactValidUsersUptoRow.holds Try.pinned (OpenSpec.upto fnExactValidUsersSpec)

/-- 'laws.FnExactNextUser', WHERE WHAT IT READS IS OF BULK AT MOST 1048576: true; the input reads as it did. -/
def fnExactNextUserUptoRow : OpenClaim := { program := "ytbmfhnijbdmjbaa", sum := "6359d57af33ccf52e5897d78093d296939c45cbccd0e17cc2b37a8daa8dbf563", func := "loop.example/buildscheduler/laws.FnExactNextUser", spec := "fnExactNextUser", recurses := true, apart := false, narrowed := true }
def FnExactNextUserUptoSaid : Prop := fnExactNextUserUptoRow.holds Try.pinned (OpenSpec.upto fnExactNextUserSpec)

/-- 'laws.FnExactServeUser', WHERE WHAT IT READS IS OF BULK AT MOST 1048576: true; the input reads as it did. -/
def fnExactServeUserUptoRow : OpenClaim := { program := "ytbmfhnijbdmjbaa", sum := "6359d57af33ccf52e5897d78093d296939c45cbccd0e17cc2b37a8daa8dbf563", func := "loop.example/buildscheduler/laws.FnExactServeUser", spec := "fnExactServeUser", recurses := true, apart := false, narrowed := true }
def FnExactServeUserUptoSaid : Prop := fnExactServeUserUptoRow.holds Try.pinned (OpenSpec.upto fnExactServeUserSpec)

/-- 'laws.FnExactServeAll', WHERE WHAT IT READS IS OF BULK AT MOST 1048576: true; the input reads as it did. -/
def fnExactServeAllUptoRow : OpenClaim := { program := "ytbmfhnijbdmjbaa", sum := "6359d57af33ccf52e5897d78093d296939c45cbccd0e17cc2b37a8daa8dbf563", func := "loop.example/buildscheduler/laws.FnExactServeAll", spec := "fnExactServeAll", recurses := true, apart := false, narrowed := true }
def FnExactServeAllUptoSaid : Prop := fnExactServeAllUptoRow.holds Try.pinned (OpenSpec.upto fnExactServeAllSpec)

/-- 'laws.FnExactFairParts', WHERE WHAT IT READS IS OF BULK AT MOST 1048576: true; the input reads as it did. -/
def fnExactFairPartsUptoRow : OpenClaim := { program := "ytbmfhnijbdmjbaa", sum := "6359d57af33ccf52e5897d78093d296939c45cbccd0e17cc2b37a8daa8dbf563", func := "loop.example/buildscheduler/laws.FnExactFairParts", spec := "fnExactFairParts", apart := false, narrowed := true }
def FnExactFairPartsUptoSaid : Prop := fnExactFairPartsUptoRow.holds Try.pinned (OpenSpec.upto fnExactFairPartsSpec)

/-- 'laws.FnExactValidGraph', WHERE WHAT IT READS IS OF BULK AT MOST 1048576: true; the input reads as it did. -/
def fnExactValidGraphUptoRow : OpenClaim := { program := "ytbmfhnijbdmjbaa", sum := "6359d57af33ccf52e5897d78093d296939c45cbccd0e17cc2b37a8daa8dbf563", func := "loop.example/buildscheduler/laws.FnExactValidGraph", spec := "fnExactValidGraph", apart := false, narrowed := true }
def FnExactValidGraphUptoSaid : Prop := fnExactValidGraphUptoRow.holds Try.pinned (OpenSpec.upto fnExactValidGraphSpec)

end Rows
end Go.Proofs.Ytbmfhnijbdmjbaa
