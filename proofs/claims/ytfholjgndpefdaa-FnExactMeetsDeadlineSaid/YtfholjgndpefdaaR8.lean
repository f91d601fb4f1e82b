/-
  WALKS: what is admitted, of the model: the whole function.
-/
import Derived.Test.YtfholjgndpefdaaR7
namespace Go.Proofs.Ytfholjgndpefdaa
open Go.RowKit
theorem RI.takeS {w : World} {lo hi : Nat} {A : Option Addr} {l : List Int} (h : RI w lo hi A l) (k : Nat) : RI w lo hi A (l.take k) := by
  intro j hj
  rw [List.length_take] at hj
  obtain ⟨b, o, e, h1, h2, hc⟩ := h j (by omega)
  exact ⟨b, o, e, h1, h2, by rw [hc, List.getElem_take]⟩
theorem isIn_q (A : Option Addr) (c : Nat) (l : List Int) (k : Nat) (n : Int) (lo hi : Nat) (w : World) (h : RI w lo hi A l) (hl : l.length ≤ 9223372036854775807) (hk : l.length = k) (i j : Nat) :
    Calls Try.prog 78 #[.slice A k c, .int .i64 n] (w.drewN (i + j)) fun e w' => e = .returned (.bool (l.contains n)) ∧ ∃ m, w' = w.drewN (i + m) := by
  subst hk
  exact (isIn_any A c l n lo hi (w.drewN (i + j)) h hl).mono fun _ _ ⟨h1, h2⟩ => ⟨h1, j, h2.symm⟩
end Go.Proofs.Ytfholjgndpefdaa
