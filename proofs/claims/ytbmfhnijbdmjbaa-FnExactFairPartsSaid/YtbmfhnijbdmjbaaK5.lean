/-
  MERGED TEXTS: W10 W11 W12 W13 Len2.
-/
import Derived.Test.YtbmfhnijbdmjbaaK1
import Derived.Test.YtbmfhnijbdmjbaaK2
namespace Go.Proofs.Ytbmfhnijbdmjbaa
open Go.RowKit
theorem stuckL_no {g : List Bs.T} (h : Bs.fine g = false) : Bs.stuckL g = [] := by unfold Bs.stuckL; rw [h]; rfl
theorem stuckL_yes {g : List Bs.T} (h : Bs.fine g = true) : Bs.stuckL g = Bs.pick g.length (fun i => !(Bs.top g).contains (i : Int)) := by unfold Bs.stuckL; rw [h]; rfl
end Go.Proofs.Ytbmfhnijbdmjbaa
namespace Go.Proofs.Ytbmfhnijbdmjbaa
open Go.RowKit
theorem OI.one (w : World) (B : Nat) (q : Int) (hB : B ≤ w.heap.size) : OI (w.alloc (.cells #[.int .i64 q] 3)) B (some ⟨w.heap.size, 0, none⟩) 1 [q] :=
  ⟨rfl, .inr ⟨w.heap.size, 1, _, rfl, hB, heap_alloc_new w _, by simp, by unfold maxLen; omega, rfl, rfl⟩⟩
end Go.Proofs.Ytbmfhnijbdmjbaa
namespace Go.Proofs.Ytbmfhnijbdmjbaa
open Go.RowKit
theorem needsA_no {g : List Bs.T} {z : Int} (h : Bs.valid g = false ∨ ¬ (0 ≤ z ∧ z < g.length)) : Bs.needsA g z = [] := by
  unfold Bs.needsA
  rw [if_neg]
  rintro ⟨h1, h2⟩
  rcases h with h | h
  · rw [h] at h1; cases h1
  · exact h h2
theorem needsA_yes {g : List Bs.T} {z : Nat} (h : Bs.valid g = true) (hz : z < g.length) : Bs.needsA g z = Bs.needs2 g z := by
  unfold Bs.needsA
  rw [if_pos ⟨h, by omega, by omega⟩, Int.toNat_natCast]
end Go.Proofs.Ytbmfhnijbdmjbaa
namespace Go.Proofs.Ytbmfhnijbdmjbaa
open Go.RowKit
theorem Try.infoSet : (Try.prog.info? 72).map (fun i => (i.zero, i.size, i.bytes)) = some (some (.int .u64 0), 1, 8) := by kernel_rfl
def setsA (ss : List Nat) : Array Value := (ss.map fun s : Nat => Value.int .u64 (s : Int)).toArray
theorem setsA_size (ss : List Nat) : (setsA ss).size = ss.length := by simp [setsA]
theorem setsA_set (ss : List Nat) (a v : Nat) : (setsA ss).setIfInBounds a (.int .u64 (v : Int)) = setsA (ss.set a v) := by
  unfold setsA
  rw [List.map_set, List.setIfInBounds_toArray]
theorem setsA_get {ss : List Nat} {a : Nat} (h : a < ss.length) : (setsA ss)[a]? = some (.int .u64 ((ss.getD a 0 : Nat) : Int)) := by
  simp [setsA, h]
theorem setsA_zero (n : Nat) : setsA (List.replicate n 0) = madeCells #[.int .u64 0] n := by
  apply Array.ext
  · simp [setsA, madeCells]
  · intro i h1 h2
    simp [setsA, madeCells]
    have : i % 1 = 0 := by omega
    rw [this]
    rfl
theorem usersA_no {g : List Bs.T} {z : Int} (h : Bs.valid g = false ∨ ¬ (0 ≤ z ∧ z < g.length)) : Bs.usersA g z = [] := by
  unfold Bs.usersA
  rw [if_neg]
  rintro ⟨h1, h2⟩
  rcases h with h | h
  · rw [h] at h1; cases h1
  · exact h h2
theorem usersA_yes {g : List Bs.T} {z : Nat} (h : Bs.valid g = true) (hz : z < g.length) : Bs.usersA g z = Bs.pick g.length (fun j => Bs.reachB g j z) := by
  unfold Bs.usersA
  rw [if_pos ⟨h, by omega, by omega⟩, Int.toNat_natCast]
  rfl
end Go.Proofs.Ytbmfhnijbdmjbaa
namespace Go.Proofs.Ytbmfhnijbdmjbaa
theorem AllNeeds_len (g : List Bs.T) (z : Int) : (Bs.needsA g z).length ≤ 1000 := by
  unfold Bs.needsA
  split
  · rename_i h
    have h1 := Bs.fine_len (valid_fine h.1)
    have h2 := Bs.needs2_len g z.toNat
    omega
  · simp
theorem AllUsers_len (g : List Bs.T) (z : Int) : (Bs.usersA g z).length ≤ 1000 := by
  unfold Bs.usersA
  split
  · rename_i h
    have h1 := Bs.fine_len (valid_fine h.1)
    have h2 := Bs.users2_len g z.toNat
    omega
  · simp
end Go.Proofs.Ytbmfhnijbdmjbaa
