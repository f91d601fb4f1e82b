/-
  MERGED TEXTS: W14 W16 W17 W18.
-/
import Derived.Test.YteelckhkcfokhaaK5
import Derived.Test.YteelckhkcfokhaaK2
import Derived.StillTailTactics
namespace Go.Proofs.Yteelckhkcfokhaa
open Go.RowKit
def intsA (l : List Int) : Array Value := (l.map (Value.int .i64)).toArray
theorem intsA_size (l : List Int) : (intsA l).size = l.length := by simp [intsA]
theorem intsA_set (l : List Int) (a : Nat) (v : Int) : (intsA l).setIfInBounds a (.int .i64 v) = intsA (l.set a v) := by
  unfold intsA
  rw [List.map_set, List.setIfInBounds_toArray]
theorem intsA_get {l : List Int} {a : Nat} (h : a < l.length) : (intsA l)[a]? = some (.int .i64 (Bs.gi l a)) := by
  simp [intsA, Bs.gi, h]
theorem intsA_zero (n : Nat) : intsA (List.replicate n 0) = madeCells #[.int .i64 0] n := by
  apply Array.ext
  · simp [intsA, madeCells]
  · intro i h1 h2
    simp [intsA, madeCells]
    have : i % 1 = 0 := by omega
    rw [this]
    rfl
/-- a block of integers of the call's own -/
def Arr (w : World) (b : Nat) (l : List Int) : Prop := Blk w b 3 (intsA l)
theorem Arr.cell {w : World} {b : Nat} {l : List Int} (h : Arr w b l) {i : Nat} (hi : i < l.length) : w.cell? ⟨b, i, none⟩ = some (.int .i64 (Bs.gi l i)) := (Blk.cell h i).trans (intsA_get hi)
theorem Arr.frozen {w : World} {b : Nat} {l : List Int} (h : Arr w b l) (i : Nat) : w.frozen? ⟨b, i, none⟩ = false := Blk.frozen h i
theorem Arr.set_ {w : World} {b : Nat} {l : List Int} (h : Arr w b l) (i : Nat) (v : Int) : Arr (w.setCell ⟨b, i, none⟩ (.int .i64 v)) b (l.set i v) := by
  unfold Arr
  rw [← intsA_set]
  exact Blk.set_ h i _
theorem Arr.below {w w' : World} {b B : Nat} {l : List Int} (h : Arr w b l) (hb : Below B w w') (hg : b < B) : Arr w' b l := Blk.below h hb hg
theorem Arr.lt {w : World} {b : Nat} {l : List Int} (h : Arr w b l) : b < w.heap.size := Blk.lt h
theorem Arr.drewN {w : World} {b : Nat} {l : List Int} (h : Arr w b l) (n : Nat) : Arr (w.drewN n) b l := h
theorem Arr.oi {w : World} {b B : Nat} {l : List Int} (h : Arr w b l) (hB : B ≤ b) (hl : l.length ≤ 1000000) : OI w B (some ⟨b, 0, none⟩) l.length l :=
  ⟨by simp, .inr ⟨b, l.length, intsA l, rfl, hB, h, Nat.le_refl _, by unfold maxLen; omega, by rw [intsA_size]; omega, by simp only [intsA, Nat.mul_one]; exact List.take_of_length_le (by simp)⟩⟩
theorem make_ints (n : Nat) (hn : n ≤ 1048576) (u : World) : (Instr.makeSlice 38 (.int .i64 (n : Int)) (.int .i64 (n : Int))).run Try.prog u =
      .ok (.slice (some ⟨u.heap.size, 0, none⟩) n n) (u.alloc (.cells (intsA (List.replicate n 0)) 3)) := by
  obtain ⟨i0, hi0, hz0, hz1, hz2⟩ := info_parts Try.info3
  have h := run_make (P := Try.prog) u 38 3 i0 (.int .i64 0) Try.underlying38 hi0 hz0 .i64 .i64 (n : Int) (n : Int) (by omega) (Int.le_refl _) (by rw [hz2]; omega) (by omega)
  rw [intsA_zero]
  simpa [hz1, Value.cells] using h

end Go.Proofs.Yteelckhkcfokhaa
namespace Go.Proofs.Yteelckhkcfokhaa
open Go.RowKit
end Go.Proofs.Yteelckhkcfokhaa
namespace Go.Proofs.Yteelckhkcfokhaa
open Go.RowKit
theorem tails_len {g : List Bs.T} (hf : Bs.valid g = true) : (Bs.tailsC g).length = g.length := (Bs.tailsC_spec (valid_fine hf) (valid_full hf)).len
theorem TailTimes_len (g : List Bs.T) : (if Bs.valid g then Bs.tailsC g else []).length ≤ 1000 := by
  split
  · rename_i h
    have h1 := Bs.fine_len (valid_fine h)
    have h2 := tails_len h
    omega
  · simp
end Go.Proofs.Yteelckhkcfokhaa
namespace Go.Proofs.Yteelckhkcfokhaa
open Go.RowKit
def longC (g : List Bs.T) : Int := Bs.maxL (Bs.tailsC g)
def longL (g : List Bs.T) : Int := if Bs.valid g then longC g else -1
theorem maxL_take (l : List Int) (k : Nat) (hk : k < l.length) : Bs.maxL (l.take (k + 1)) = max (Bs.maxL (l.take k)) l[k] := by
  rw [show l.take (k + 1) = l.take k ++ [l[k]] from List.take_succ_eq_append_getElem hk, Bs.maxL_snoc]
theorem longL_no {g : List Bs.T} (h : Bs.valid g = false) : longL g = -1 := by unfold longL; rw [h]; rfl
theorem longL_yes {g : List Bs.T} (h : Bs.valid g = true) : longL g = longC g := by unfold longL; rw [h]; rfl
end Go.Proofs.Yteelckhkcfokhaa
