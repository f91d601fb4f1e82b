/-
  MERGED TEXTS: R1 R2 R3 R4 R5 R6.
-/
import Derived.Test.YtoaakidapgbhhaaK1
import Derived.Test.YtoaakidapgbhhaaK2
namespace Go.Proofs.Ytoaakidapgbhhaa
open Go.RowKit
end Go.Proofs.Ytoaakidapgbhhaa
namespace Go.Proofs.Ytoaakidapgbhhaa
open Go.RowKit
theorem readyL_no {g : List Bs.T} {d : List Int} (h : Bs.vdone g d = false) : Bs.readyL g d = [] := by unfold Bs.readyL; rw [h]; rfl
theorem readyL_yes {g : List Bs.T} {d : List Int} (h : Bs.vdone g d = true) : Bs.readyL g d = Bs.readyC g d := by unfold Bs.readyL; rw [h]; rfl
/-- a list and a bool -/
def RetIB (w : World) (L : List Int) (b : Bool) (e : Ending) (w' : World) : Prop := (∃ A c, e = .returned (.tuple #[.slice A L.length c, .bool b]) ∧ OI w' w.heap.size A c L) ∧ Below w.heap.size w w'
theorem RetIB.nil {w w' : World} {L : List Int} {b : Bool} (hb : Below w.heap.size w w') (h : L = []) (hf : b = false) : RetIB w L b (.returned (.tuple #[.slice none 0 0, .bool false])) w' := by
  subst h
  subst hf
  exact ⟨⟨none, 0, rfl, OI.nil _ _⟩, hb⟩
theorem finL_no {g : List Bs.T} {d : List Int} {a : Int} (h : Bs.finOk g d a = false) : Bs.finL g d a = [] := by unfold Bs.finL; rw [h]; rfl
theorem finL_yes {g : List Bs.T} {d : List Int} {a : Int} (h : Bs.finOk g d a = true) : Bs.finL g d a = Bs.finC g d a := by unfold Bs.finL; rw [h]; rfl
end Go.Proofs.Ytoaakidapgbhhaa
namespace Go.Proofs.Ytoaakidapgbhhaa
open Go.RowKit
theorem usedL_no1 {g : List Bs.T} {r : List Int} (h : Bs.valid g = false) : Bs.usedL g r = [] := by unfold Bs.usedL; rw [h]; rfl
theorem usedL_no2 {g : List Bs.T} {r : List Int} (h : Bs.inG g r = false) : Bs.usedL g r = [] := by unfold Bs.usedL; rw [h]; simp
theorem usedL_yes {g : List Bs.T} {r : List Int} (hv : Bs.valid g = true) (h : Bs.inG g r = true) : Bs.usedL g r = (List.range 3).map (fun p => Bs.usedC g r ((p : Nat) : Int)) := by unfold Bs.usedL; rw [hv, h]; rfl
end Go.Proofs.Ytoaakidapgbhhaa
namespace Go.Proofs.Ytoaakidapgbhhaa
open Go.RowKit
theorem runOk_no1 {g : List Bs.T} {m r : List Int} (h : Bs.valid g = false) : Bs.runOk g m r = false := by unfold Bs.runOk; rw [h]; rfl
theorem runOk_no2 {g : List Bs.T} {m r : List Int} (h : Bs.roomOk m = false) : Bs.runOk g m r = false := by unfold Bs.runOk; rw [h]; simp
theorem runOk_no3 {g : List Bs.T} {m r : List Int} (h : Bs.inG g r = false) : Bs.runOk g m r = false := by unfold Bs.runOk; rw [h]; simp
theorem runOk_at {g : List Bs.T} {m r : List Int} (h1 : Bs.valid g = true) (h2 : Bs.roomOk m = true) (h3 : Bs.inG g r = true) : Bs.runOk g m r = Bs.fitsC g m r := by unfold Bs.runOk; rw [h1, h2, h3]; rfl
end Go.Proofs.Ytoaakidapgbhhaa
namespace Go.Proofs.Ytoaakidapgbhhaa
open Go.RowKit
theorem waitsL_no1 {g : List Bs.T} {d : List Int} {a : Int} (h : Bs.vdone g d = false) : Bs.waitsL g d a = [] := by unfold Bs.waitsL; rw [h]; rfl
theorem waitsL_no2 {g : List Bs.T} {d : List Int} {a : Int} (h : decide (0 ≤ a ∧ a ≤ (g.length : Int) - 1) = false) : Bs.waitsL g d a = [] := by unfold Bs.waitsL; rw [h]; simp
theorem waitsL_yes {g : List Bs.T} {d : List Int} {a : Int} (h : Bs.vdone g d = true) (h2 : decide (0 ≤ a ∧ a ≤ (g.length : Int) - 1) = true) : Bs.waitsL g d a = Bs.waitsC g d a := by unfold Bs.waitsL; rw [h, h2]; rfl
theorem filter_take {l : List Int} (p : Int → Bool) (k : Nat) (hk : k < l.length) : (l.take (k + 1)).filter p = (l.take k).filter p ++ (if p l[k] then [l[k]] else []) := by
  rw [List.take_succ_eq_append_getElem hk, List.filter_append]
  congr 1
  cases hp : p l[k] <;> simp [hp]
end Go.Proofs.Ytoaakidapgbhhaa
namespace Go.Proofs.Ytoaakidapgbhhaa
open Go.RowKit
end Go.Proofs.Ytoaakidapgbhhaa
