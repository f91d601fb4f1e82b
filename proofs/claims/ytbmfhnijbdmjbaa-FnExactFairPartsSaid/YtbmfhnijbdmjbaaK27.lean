/-
  MERGED TEXTS: W34 W35 W36 W37 W38 W39 W40.
-/
import Derived.Test.YtbmfhnijbdmjbaaK7
import Derived.Test.YtbmfhnijbdmjbaaK4
import Derived.Deep.RegionLaw
import Derived.Test.YtbmfhnijbdmjbaaK11
namespace Go.Proofs.Ytbmfhnijbdmjbaa
open Go.RowKit
/-- a counter as a value -/
def pcV (a b c n : Int) : Value := .agg #[.int .i64 a, .int .i64 b, .int .i64 c, .int .i64 n]
theorem Blk.far {w : World} {g : Nat} {t : TypeId} {cs : Array Value} (h : Blk w g t cs) {p : Addr} (hp : g ≠ p.block) (u : Value) : Blk (w.setCell p u) g t cs := (heap_setCell_other w p g u hp).trans h
theorem Blk.drew {w : World} {g : Nat} {t : TypeId} {cs : Array Value} (h : Blk w g t cs) : Blk w.drew g t cs := h
def addIf (p k u a : Int) : Int := a + (if p == k then u else 0)
end Go.Proofs.Ytbmfhnijbdmjbaa
namespace Go.Proofs.Ytbmfhnijbdmjbaa
open Go.RowKit
theorem usedC_take (g : List Bs.T) (r : List Int) (p : Int) (k : Nat) (hk : k < r.length) : Bs.usedC g (r.take (k + 1)) p = Bs.usedC g (r.take k) p + Bs.unitF g p r[k] := Bs.sumZ_take r (Bs.unitF g p) k hk
theorem used_bound {g : List Bs.T} {r : List Int} (hF : Bs.fine g = true) (hr : ∀ x ∈ r, 0 ≤ x ∧ x < g.length) (p : Int) : ∀ k, k ≤ r.length → 0 ≤ Bs.usedC g (r.take k) p ∧ Bs.usedC g (r.take k) p ≤ 4 * k := by
  intro k
  induction k with
  | zero => intro _; simp [Bs.usedC, Bs.sumZ]
  | succ k ih =>
    intro hk
    have h1 := ih (by omega)
    have hx := hr _ (List.getElem_mem (show k < r.length by omega))
    rw [usedC_take g r p k (by omega)]
    have ht := Bs.fine_task hF (i := r[k].toNat) (by omega)
    have : 0 ≤ Bs.unitF g p r[k] ∧ Bs.unitF g p r[k] ≤ 4 := by
      unfold Bs.unitF
      rw [Bs.units_at (by omega)]
      split <;> omega
    omega
theorem unit_add {g : List Bs.T} {v : Nat} (hv : v < g.length) (k a : Int) : addIf g[v].pool k g[v].units a = a + Bs.unitF g k (v : Int) := by
  unfold addIf Bs.unitF
  rw [Int.toNat_natCast, Bs.pool_at hv, Bs.units_at hv]
end Go.Proofs.Ytbmfhnijbdmjbaa
namespace Go.Proofs.Ytbmfhnijbdmjbaa
open Go.RowKit
def fit3 (x0 x1 x2 : Int) (m : List Int) : Bool := decide (x0 ≤ Bs.giZ m 0) && decide (x1 ≤ Bs.giZ m 1) && decide (x2 ≤ Bs.giZ m 2)
theorem fits_eq (g : List Bs.T) (m r : List Int) : Bs.fitsC g m r = fit3 (Bs.usedC g r 0) (Bs.usedC g r 1) (Bs.usedC g r 2) m := by
  unfold Bs.fitsC fit3
  simp [List.range_succ, Bool.and_assoc]
end Go.Proofs.Ytbmfhnijbdmjbaa
namespace Go.Proofs.Ytbmfhnijbdmjbaa
open Go.RowKit
theorem used_list (g : List Bs.T) (r : List Int) (h : Bs.valid g = true) (h2 : Bs.inG g r = true) : Bs.usedL g r = [Bs.usedC g r 0, Bs.usedC g r 1, Bs.usedC g r 2] := by
  unfold Bs.usedL
  rw [h, h2]
  simp [List.range_succ]
end Go.Proofs.Ytbmfhnijbdmjbaa
namespace Go.Proofs.Ytbmfhnijbdmjbaa
open Go.RowKit
end Go.Proofs.Ytbmfhnijbdmjbaa
namespace Go.Proofs.Ytbmfhnijbdmjbaa
open Go.RowKit
theorem and_bits (a b : Bool) : (a && b) = (b && a) := Bool.and_comm a b
end Go.Proofs.Ytbmfhnijbdmjbaa
namespace Go.Proofs.Ytbmfhnijbdmjbaa
open Go.RowKit
theorem OI.far {w : World} {B : Nat} {A : Option Addr} {c : Nat} {l : List Int} (h : OI w B A c l) {p : Addr} (hp : p.block < B) (u : Value) : OI (w.setCell p u) B A c l := by
  refine ⟨h.1, ?_⟩
  rcases h.2 with hn | ⟨g, cap, cur, hv, h1, hg, rest⟩
  · exact .inl hn
  · exact .inr ⟨g, cap, cur, hv, h1, by rw [heap_setCell_other w p g u (by omega)]; exact hg, rest⟩
theorem adm_in {g : List Bs.T} {m r l : List Int} {wk : Int} (hr : ∀ x ∈ r, 0 ≤ x ∧ x < g.length) (hl : ∀ x ∈ l, 0 ≤ x ∧ x < g.length) (k : Nat) (hk : k ≤ l.length) : ∀ x ∈ r ++ Bs.admK g m r wk l k, 0 ≤ x ∧ x < g.length := by
  intro x hx
  rw [List.mem_append] at hx
  rcases hx with h | h
  · exact hr x h
  · exact hl x (List.mem_of_mem_take (Bs.adm_mem k hk x h))
theorem adm_units {g : List Bs.T} {m r l : List Int} {wk : Int} (hF : Bs.fine g = true) (hr : ∀ x ∈ r, 0 ≤ x ∧ x < g.length) (hl : ∀ x ∈ l, 0 ≤ x ∧ x < g.length) (hrl : r.length ≤ 8) (hll : l.length ≤ 8) (p : Int) (k : Nat) (hk : k ≤ l.length) : 0 ≤ Bs.usedC g (r ++ Bs.admK g m r wk l k) p ∧ Bs.usedC g (r ++ Bs.admK g m r wk l k) p ≤ 64 := by
  have h1 := used_bound hF (adm_in (m := m) (wk := wk) hr hl k hk) p _ (Nat.le_refl _)
  rw [List.take_length] at h1
  have h2 := Bs.admK_len g m r wk l k hk
  rw [List.length_append] at h1
  omega
theorem adm_next {g : List Bs.T} {r o : List Int} {v : Nat} (hv : v < g.length) (p : Int) : addIf g[v].pool p g[v].units (Bs.usedC g (r ++ o) p) = Bs.usedC g (r ++ (o ++ [(v : Int)])) p := by
  rw [unit_add hv, ← List.append_assoc, Bs.usedC_append g (r ++ o), Bs.usedC_one]
end Go.Proofs.Ytbmfhnijbdmjbaa
