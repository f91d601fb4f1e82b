/-
  MERGED TEXTS: R20 R21 R23 R24.
-/
import Derived.Test.YtmdmemompjpmkaaR8
import Derived.Test.YtmdmemompjpmkaaK16
import Derived.Test.YtmdmemompjpmkaaR9
import Derived.Test.YtmdmemompjpmkaaMem4
import Derived.Deep.RegionHeld
namespace Go.Proofs.Ytmdmemompjpmkaa
open Go.RowKit
end Go.Proofs.Ytmdmemompjpmkaa
namespace Go.Proofs.Ytmdmemompjpmkaa
open Go.RowKit
theorem need_no {g : List Bs.T} {S : List Int} {k : Nat} (hk : k < g.length) {x : Int} (hx : x ∈ g[k].needs) (h : ¬ Bs.giZ S x.toNat + Bs.timeOf g x.toNat ≤ Bs.giZ S k) : Bs.needOkB g S k = false := by
  unfold Bs.needOkB
  rw [need_at hk, List.all_eq_false]
  exact ⟨x, hx, by rw [decide_eq_true_eq]; exact h⟩
theorem need_yes {g : List Bs.T} {S : List Int} {k : Nat} (hk : k < g.length) (h : ∀ j (hj : j < g[k].needs.length), Bs.giZ S g[k].needs[j].toNat + Bs.timeOf g g[k].needs[j].toNat ≤ Bs.giZ S k) : Bs.needOkB g S k = true := by
  unfold Bs.needOkB
  rw [need_at hk, List.all_eq_true]
  intro x hx
  obtain ⟨j, hj, rfl⟩ := List.mem_iff_getElem.1 hx
  rw [decide_eq_true_eq]
  exact h j hj
theorem stV_no3 {g : List Bs.T} {m S : List Int} {wk : Int} (h : Bs.stK g m wk S g.length = false) : Bs.stV g m wk S = false := by unfold Bs.stV; rw [h]; simp
theorem runL_k (g : List Bs.T) (m : List Int) (wk : Int) (S : List Int) (now : Int) : (Bs.runL g m wk S now).length ≤ 1000 := by
  cases hv : Bs.stV g m wk S
  · rw [Bs.runL_no hv]; simp
  · rw [Bs.runL_yes hv]
    have h1 := Bs.runAt_len g S now
    have h2 := Bs.fine_len (valid_fine (Bs.canV_iff.1 (Bs.stV_iff.1 hv).1).1)
    omega
end Go.Proofs.Ytmdmemompjpmkaa
namespace Go.Proofs.Ytmdmemompjpmkaa
open Go.RowKit
theorem gi_giZ (l : List Int) (i : Nat) : Bs.gi l i = Bs.giZ l i := by
  unfold Bs.gi Bs.giZ
  rw [List.getD_eq_getElem?_getD]
  cases l[i]? <;> rfl
theorem Arr.at_ {w : World} {b : Nat} {l : List Int} (h : Arr w b l) {i : Nat} (hi : i < l.length) : w.cell? ⟨b, i, none⟩ = some (.int .i64 (Bs.giZ l i)) := by rw [← gi_giZ]; exact h.cell hi
theorem Arr.alloc {w : World} {b : Nat} {l : List Int} (h : Arr w b l) (o : Obj) : Arr (w.alloc o) b l := Blk.alloc h o
theorem Arr.ri {w : World} {b : Nat} {l : List Int} (h : Arr w b l) (hl : l.length ≤ 1000000) : RI w b w.heap.size (some ⟨b, 0, none⟩) l := (h.oi (Nat.le_refl _) hl).ri
def fillS (n k : Nat) : List Int := List.replicate k 200 ++ List.replicate (n - k) 0
theorem fillS_len {n k : Nat} (h : k ≤ n) : (fillS n k).length = n := by unfold fillS; simp; omega
theorem fillS_succ {n k : Nat} (h : k < n) : (fillS n k).set k 200 = fillS n (k + 1) := by
  unfold fillS
  obtain ⟨d, hd⟩ : ∃ d, n - k = d + 1 := ⟨n - k - 1, by omega⟩
  rw [List.set_append_right _ _ (by simp), hd, show n - (k + 1) = d from by omega, List.replicate_succ' (n := k)]
  simp [List.replicate_succ]
theorem filter_takeP {q : Int → Bool} {l : List Int} {k : Nat} (hk : k < l.length) : (l.take (k + 1)).filter q = (l.take k).filter q ++ (if q l[k] then [l[k]] else []) := by
  rw [List.take_succ_eq_append_getElem hk, List.filter_append]
  by_cases h : q l[k] <;> simp [h]
end Go.Proofs.Ytmdmemompjpmkaa
namespace Go.Proofs.Ytmdmemompjpmkaa
open Go.RowKit
end Go.Proofs.Ytmdmemompjpmkaa
