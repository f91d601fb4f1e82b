/-
  WALKS: what is admitted, of the program: the whole function.
-/
import Derived.Test.YtlanlcdbcblfjaaW39
namespace Go.Proofs.Ytlanlcdbcblfjaa
open Go.RowKit
theorem OI.far {w : World} {B : Nat} {A : Option Addr} {c : Nat} {l : List Int} (h : OI w B A c l) {p : Addr} (hp : p.block < B) (u : Value) : OI (w.setCell p u) B A c l := by
  refine ⟨h.1, ?_⟩
  rcases h.2 with hn | ⟨g, cap, cur, hv, h1, hg, rest⟩
  · exact .inl hn
  · exact .inr ⟨g, cap, cur, hv, h1, by rw [heap_setCell_other w p g u (by omega)]; exact hg, rest⟩
theorem adm_in {g : List Bs.T} {m r l : List Int} {wk : Int} (hr : ∀ x ∈ r, 0 ≤ x ∧ x < g.length) (hl : ∀ x ∈ l, 0 ≤ x ∧ x < g.length) (k : Nat) (hk : k ≤ l.length) : ∀ x ∈ r ++ Bs.admK g m r wk l k, 0 ≤ x ∧ x < g.length := by
  intro x hx
  rw [List.mem_append] at hx
  rcases hx with h | h
  · exact hr x h
  · exact hl x (List.mem_of_mem_take (Bs.adm_mem k hk x h))
theorem adm_units {g : List Bs.T} {m r l : List Int} {wk : Int} (hF : Bs.fine g = true) (hr : ∀ x ∈ r, 0 ≤ x ∧ x < g.length) (hl : ∀ x ∈ l, 0 ≤ x ∧ x < g.length) (hrl : r.length ≤ 8) (hll : l.length ≤ 8) (p : Int) (k : Nat) (hk : k ≤ l.length) : 0 ≤ Bs.usedC g (r ++ Bs.admK g m r wk l k) p ∧ Bs.usedC g (r ++ Bs.admK g m r wk l k) p ≤ 64 := by
  have h1 := used_bound hF (adm_in (m := m) (wk := wk) hr hl k hk) p _ (Nat.le_refl _)
  rw [List.take_length] at h1
  have h2 := Bs.admK_len g m r wk l k hk
  rw [List.length_append] at h1
  omega
theorem adm_next {g : List Bs.T} {r o : List Int} {v : Nat} (hv : v < g.length) (p : Int) : addIf g[v].pool p g[v].units (Bs.usedC g (r ++ o) p) = Bs.usedC g (r ++ (o ++ [(v : Int)])) p := by
  rw [unit_add hv, ← List.append_assoc, Bs.usedC_append g (r ++ o), Bs.usedC_one]
end Go.Proofs.Ytlanlcdbcblfjaa
