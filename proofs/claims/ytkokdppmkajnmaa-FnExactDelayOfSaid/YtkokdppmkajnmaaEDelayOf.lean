/-
  THE WALK OF laws.FnExactDelayOf.
-/
import Derived.Test.YtkokdppmkajnmaaW70
import Derived.Test.YtkokdppmkajnmaaR40
namespace Go.Proofs.Ytkokdppmkajnmaa
open Go.RowKit
theorem fnExactDelayOf_walk (z0 : Int) (w : World) (_hz0 : (Lit.int .i64 z0).wf = true) :
    Calls Try.prog 6 #[.int .i64 z0] w fun e w' => e = .returned (.bool true) ∧ Below w.heap.size w w' := by
  have CS := Lib.hid (fun W => DelayOfS_any z0 W)
  have CI := Lib.hid (fun W => DelayOf_any z0 W)
  generalize Bs.delayL z0 = V at *
  go_enter Try.func6, Try.ntmps6
  go_wp2_with fail
  with_reducible refine (CS.out _).mono ?_
  rintro e w1 ⟨rfl, rfl⟩
  go_wp2_with fail
  with_reducible refine (CI.out _).mono ?_
  rintro e w2 ⟨rfl, hb⟩
  go_wp2
  go_ret
  exact ⟨rfl, hb⟩
end Go.Proofs.Ytkokdppmkajnmaa
