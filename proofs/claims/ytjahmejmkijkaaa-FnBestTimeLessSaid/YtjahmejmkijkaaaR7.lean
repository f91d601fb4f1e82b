/-
  WALKS: what is admitted, of the model.
-/
import Derived.Test.YtjahmejmkijkaaaK4
import Derived.Test.YtjahmejmkijkaaaCp
import Derived.Test.YtjahmejmkijkaaaMem4
import Derived.Test.YtjahmejmkijkaaaK27
namespace Go.Proofs.Ytjahmejmkijkaaa
open Go.RowKit
theorem OI.blk_ge {w : World} {B : Nat} {A : Option Addr} {c : Nat} {l : List Int} (h : OI w B A c l) {a : Addr} (ha : A = some a) : B ≤ a.block := by
  subst ha
  rcases h.2 with ⟨hv, hn⟩ | ⟨b, cap, cur, hv, hb, hg, _⟩
  · cases hv
  · injection hv with hA _ _
    injection hA with hA
    rw [hA]
    exact hb
theorem used_quiet0 (A : Option Addr) (c : Nat) (g : List Bs.T) (A' : Option Addr) (c' : Nat) (r : List Int) (p : Int) (lo hi lo' hi' : Nat) (w : World) (h : RG w lo hi A g) (h' : RI w lo' hi' A' r) (hF : Bs.fine g = true) (hr : ∀ x ∈ r, 0 ≤ x ∧ x < g.length) (hl : r.length ≤ 1000000) (n : Nat) :
    Calls Try.prog 93 #[.slice A g.length c, .slice A' r.length c', .int .i64 p] (w.drewN n) fun e w' => e = .returned (.int .i64 (Bs.usedC g r p)) ∧ ∃ k, w' = w.drewN k :=
  (used_any A c g A' c' r p lo hi lo' hi' (w.drewN n) h h' hF hr hl).mono fun _ _ ⟨h1, h2⟩ => ⟨h1, n, h2.symm⟩
end Go.Proofs.Ytjahmejmkijkaaa
