/-
  WALKS: what is admitted, of the model.
-/
import Derived.Test.YtmdmemompjpmkaaK4
import Derived.Test.YtmdmemompjpmkaaCp
import Derived.Test.YtmdmemompjpmkaaMem4
import Derived.Test.YtmdmemompjpmkaaK27
namespace Go.Proofs.Ytmdmemompjpmkaa
open Go.RowKit
theorem OI.blk_ge {w : World} {B : Nat} {A : Option Addr} {c : Nat} {l : List Int} (h : OI w B A c l) {a : Addr} (ha : A = some a) : B ≤ a.block := by
  subst ha
  rcases h.2 with ⟨hv, hn⟩ | ⟨b, cap, cur, hv, hb, hg, _⟩
  · cases hv
  · injection hv with hA _ _
    injection hA with hA
    rw [hA]
    exact hb
end Go.Proofs.Ytmdmemompjpmkaa
