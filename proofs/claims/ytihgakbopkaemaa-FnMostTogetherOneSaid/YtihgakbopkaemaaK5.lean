/-
  MERGED TEXTS: W10 W11 W12 W13 Len2.
-/
import Derived.Test.YtihgakbopkaemaaK1
import Derived.Test.YtihgakbopkaemaaK2
namespace Go.Proofs.Ytihgakbopkaemaa
open Go.RowKit
theorem stuckL_no {g : List Bs.T} (h : Bs.fine g = false) : Bs.stuckL g = [] := by unfold Bs.stuckL; rw [h]; rfl
theorem stuckL_yes {g : List Bs.T} (h : Bs.fine g = true) : Bs.stuckL g = Bs.pick g.length (fun i => !(Bs.top g).contains (i : Int)) := by unfold Bs.stuckL; rw [h]; rfl
end Go.Proofs.Ytihgakbopkaemaa
namespace Go.Proofs.Ytihgakbopkaemaa
open Go.RowKit
theorem OI.one (w : World) (B : Nat) (q : Int) (hB : B ≤ w.heap.size) : OI (w.alloc (.cells #[.int .i64 q] 3)) B (some ⟨w.heap.size, 0, none⟩) 1 [q] :=
  ⟨rfl, .inr ⟨w.heap.size, 1, _, rfl, hB, heap_alloc_new w _, by simp, by unfold maxLen; omega, rfl, rfl⟩⟩
end Go.Proofs.Ytihgakbopkaemaa
namespace Go.Proofs.Ytihgakbopkaemaa
open Go.RowKit
theorem needsA_no {g : List Bs.T} {z : Int} (h : Bs.valid g = false ∨ ¬ (0 ≤ z ∧ z < g.length)) : Bs.needsA g z = [] := by
  unfold Bs.needsA
  rw [if_neg]
  rintro ⟨h1, h2⟩
  rcases h with h | h
  · rw [h] at h1; cases h1
  · exact h h2
theorem needsA_yes {g : List Bs.T} {z : Nat} (h : Bs.valid g = true) (hz : z < g.length) : Bs.needsA g z = Bs.needs2 g z := by
  unfold Bs.needsA
  rw [if_pos ⟨h, by omega, by omega⟩, Int.toNat_natCast]
theorem listOf_any (s : Nat) (w : World) (hs : s < 256) :
    Calls Try.prog 44 #[.int .u64 s] w (RetI w (Bs.pick 8 (fun j => s.testBit j))) := by
  have o0 := Lib.hid (OI.new w w.heap.size (Nat.le_refl _))
  have hb0 : Below w.heap.size w (w.alloc (.cells #[] 3)) := (Below.refl _ _).alloc (Nat.le_refl _) _
  go_enter Try.func44, Try.ntmps44
  go_wp2
  go_loopw [3, 4] (fun v i wr => ∃ (k : Nat) (A' : Option Addr) (c' : Nat), k ≤ 8 ∧ i = .int .i64 k ∧ v = .slice A' (Bs.pick k (fun j => s.testBit j)).length c' ∧ OI wr w.heap.size A' c' (Bs.pick k (fun j => s.testBit j)) ∧ Below w.heap.size w wr) (fun _ i _ => 8 - (intOf i).toNat)
  case atStart => exact ⟨0, _, _, Nat.zero_le _, rfl, rfl, o0.out, hb0⟩
  case round =>
    obtain ⟨k, A', c', hk, rfl, rfl, ho, hb⟩ := hrel
    have sr := hb.size
    by_cases hlt : k < 8
    · have c3 := hasTask_any s k wr hs hlt
      have hpl := Bs.pick_len k (fun j => s.testBit j)
      cases hv : s.testBit k
      · rw [hv] at c3
        have C3 := Lib.hid c3
        have HP := Lib.hid (Bs.pick_skip k (fun j => s.testBit j) hv)
        clear c3 hv
        generalize hL : Bs.pick k (fun j => s.testBit j) = L at *
        have HL := Lib.hid hL
        clear hL
        go_wp2_with (go_at_call 80; refine (C3.out).mono ?_; rintro e w' ⟨rfl, rfl⟩)
        go_roundw
        case rel => exact ⟨k + 1, A', c', by omega, by go_num, by rw [HP.out], by rw [HP.out]; exact ho, hb⟩
        case measure => simp [intOf]; omega
      · rw [hv] at c3
        have C3 := Lib.hid c3
        have HP := Lib.hid (Bs.pick_snoc k (fun j => s.testBit j) hv)
        clear c3 hv
        generalize hL : Bs.pick k (fun j => s.testBit j) = L at *
        have HL := Lib.hid hL
        clear hL
        go_wp2_with (first | (go_at_call 80; refine (C3.out).mono ?_; rintro e w' ⟨rfl, rfl⟩) | (at_builtin; refine push_int rfl _ _ rfl w.heap.size A' c' L (k : Int) rfl (ho.alloc _) (World.heap _).size 1 rfl (by simp [go_sem]) (by omega) (by simp; omega) ?_; intro A3 c3 w3 ho3 hb3 _))
        go_roundw
        case rel => exact ⟨k + 1, A3, c3, by omega, by go_num, by rw [HP.out, List.length_append]; rfl, by rw [HP.out]; exact ho3, (hb.alloc sr _).trans hb3⟩
        case measure => simp [intOf]; omega
    · obtain rfl : k = 8 := by omega
      go_wp2
      go_ret
      exact ⟨⟨A', c', rfl, ho⟩, hb⟩
end Go.Proofs.Ytihgakbopkaemaa
namespace Go.Proofs.Ytihgakbopkaemaa
open Go.RowKit
theorem Try.infoSet : (Try.prog.info? 55).map (fun i => (i.zero, i.size, i.bytes)) = some (some (.int .u64 0), 1, 8) := by kernel_rfl
def setsA (ss : List Nat) : Array Value := (ss.map fun s : Nat => Value.int .u64 (s : Int)).toArray
theorem setsA_size (ss : List Nat) : (setsA ss).size = ss.length := by simp [setsA]
theorem setsA_set (ss : List Nat) (a v : Nat) : (setsA ss).setIfInBounds a (.int .u64 (v : Int)) = setsA (ss.set a v) := by
  unfold setsA
  rw [List.map_set, List.setIfInBounds_toArray]
theorem setsA_get {ss : List Nat} {a : Nat} (h : a < ss.length) : (setsA ss)[a]? = some (.int .u64 ((ss.getD a 0 : Nat) : Int)) := by
  simp [setsA, h]
theorem setsA_zero (n : Nat) : setsA (List.replicate n 0) = madeCells #[.int .u64 0] n := by
  apply Array.ext
  · simp [setsA, madeCells]
  · intro i h1 h2
    simp [setsA, madeCells]
    have : i % 1 = 0 := by omega
    rw [this]
    rfl
theorem usersA_no {g : List Bs.T} {z : Int} (h : Bs.valid g = false ∨ ¬ (0 ≤ z ∧ z < g.length)) : Bs.usersA g z = [] := by
  unfold Bs.usersA
  rw [if_neg]
  rintro ⟨h1, h2⟩
  rcases h with h | h
  · rw [h] at h1; cases h1
  · exact h h2
theorem usersA_yes {g : List Bs.T} {z : Nat} (h : Bs.valid g = true) (hz : z < g.length) : Bs.usersA g z = Bs.pick g.length (fun j => Bs.reachB g j z) := by
  unfold Bs.usersA
  rw [if_pos ⟨h, by omega, by omega⟩, Int.toNat_natCast]
  rfl
end Go.Proofs.Ytihgakbopkaemaa
namespace Go.Proofs.Ytihgakbopkaemaa
theorem AllNeeds_len (g : List Bs.T) (z : Int) : (Bs.needsA g z).length ≤ 1000 := by
  unfold Bs.needsA
  split
  · rename_i h
    have h1 := Bs.fine_len (valid_fine h.1)
    have h2 := Bs.needs2_len g z.toNat
    omega
  · simp
theorem AllUsers_len (g : List Bs.T) (z : Int) : (Bs.usersA g z).length ≤ 1000 := by
  unfold Bs.usersA
  split
  · rename_i h
    have h1 := Bs.fine_len (valid_fine h.1)
    have h2 := Bs.users2_len g z.toNat
    omega
  · simp
end Go.Proofs.Ytihgakbopkaemaa
