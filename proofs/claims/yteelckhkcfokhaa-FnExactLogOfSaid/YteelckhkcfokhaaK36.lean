/-
  MERGED TEXTS: R7 R8.
-/
import Derived.Test.YteelckhkcfokhaaK4
import Derived.Test.YteelckhkcfokhaaCp
import Derived.Test.YteelckhkcfokhaaMem4
import Derived.Test.YteelckhkcfokhaaK27
namespace Go.Proofs.Yteelckhkcfokhaa
open Go.RowKit
theorem OI.blk_ge {w : World} {B : Nat} {A : Option Addr} {c : Nat} {l : List Int} (h : OI w B A c l) {a : Addr} (ha : A = some a) : B ≤ a.block := by
  subst ha
  rcases h.2 with ⟨hv, hn⟩ | ⟨b, cap, cur, hv, hb, hg, _⟩
  · cases hv
  · injection hv with hA _ _
    injection hA with hA
    rw [hA]
    exact hb
theorem used_quiet0 (A : Option Addr) (c : Nat) (g : List Bs.T) (A' : Option Addr) (c' : Nat) (r : List Int) (p : Int) (lo hi lo' hi' : Nat) (w : World) (h : RG w lo hi A g) (h' : RI w lo' hi' A' r) (hF : Bs.fine g = true) (hr : ∀ x ∈ r, 0 ≤ x ∧ x < g.length) (hl : r.length ≤ 1000000) (n : Nat) :
    Calls Try.prog 129 #[.slice A g.length c, .slice A' r.length c', .int .i64 p] (w.drewN n) fun e w' => e = .returned (.int .i64 (Bs.usedC g r p)) ∧ ∃ k, w' = w.drewN k :=
  (used_any A c g A' c' r p lo hi lo' hi' (w.drewN n) h h' hF hr hl).mono fun _ _ ⟨h1, h2⟩ => ⟨h1, n, h2.symm⟩
end Go.Proofs.Yteelckhkcfokhaa
namespace Go.Proofs.Yteelckhkcfokhaa
open Go.RowKit
theorem RI.takeS {w : World} {lo hi : Nat} {A : Option Addr} {l : List Int} (h : RI w lo hi A l) (k : Nat) : RI w lo hi A (l.take k) := by
  intro j hj
  rw [List.length_take] at hj
  obtain ⟨b, o, e, h1, h2, hc⟩ := h j (by omega)
  exact ⟨b, o, e, h1, h2, by rw [hc, List.getElem_take]⟩
theorem isIn_q (A : Option Addr) (c : Nat) (l : List Int) (k : Nat) (n : Int) (lo hi : Nat) (w : World) (h : RI w lo hi A l) (hl : l.length ≤ 9223372036854775807) (hk : l.length = k) (i j : Nat) :
    Calls Try.prog 98 #[.slice A k c, .int .i64 n] (w.drewN (i + j)) fun e w' => e = .returned (.bool (l.contains n)) ∧ ∃ m, w' = w.drewN (i + m) := by
  subst hk
  exact (isIn_any A c l n lo hi (w.drewN (i + j)) h hl).mono fun _ _ ⟨h1, h2⟩ => ⟨h1, j, h2.symm⟩
end Go.Proofs.Yteelckhkcfokhaa
