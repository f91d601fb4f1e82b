/-
  WALKS: the draws of chapter 8.
-/
import Derived.Test.YtggekdohcancbaaK17
namespace Go.Proofs.Ytggekdohcancbaa
open Go.RowKit
theorem RB.moreX {w : World} {lo hi hi' : Nat} {A : Option Addr} {l : List Int} (h : RB w lo hi A l) (hh : hi ≤ hi') : RB w lo hi' A l := by
  intro k hk
  obtain ⟨b, o, e, h1, h2, hc⟩ := h k hk
  exact ⟨b, o, e, h1, by omega, hc⟩
theorem one6 (a0 a1 a2 a3 a4 a5 : Int) : ∀ k, k < 6 → ∃ x, (#[Value.int .i64 a0, .int .i64 a1, .int .i64 a2, .int .i64 a3, .int .i64 a4, .int .i64 a5] : Array Value)[k]? = some (.int .i64 x) := by
  intro k hk
  match k, hk with
  | 0, _ => exact ⟨_, rfl⟩
  | 1, _ => exact ⟨_, rfl⟩
  | 2, _ => exact ⟨_, rfl⟩
  | 3, _ => exact ⟨_, rfl⟩
  | 4, _ => exact ⟨_, rfl⟩
  | 5, _ => exact ⟨_, rfl⟩
/-- a graph, a list and two numbers -/
def DrawGDAA (w : World) (e : Ending) (w' : World) : Prop := (∃ A c g A2 c2 l x y, e = .returned (.tuple #[.slice A (List.length g) c, .slice A2 (List.length l) c2, .int .i64 x, .int .i64 y]) ∧ RG w' w.heap.size w'.heap.size A g ∧ g.length ≤ 16 ∧ g.length ≤ c ∧ c ≤ maxLen ∧
  RI w' w.heap.size w'.heap.size A2 l ∧ l.length ≤ 100 ∧ l.length ≤ c2 ∧ c2 ≤ maxLen) ∧ Below w.heap.size w w'
end Go.Proofs.Ytggekdohcancbaa
