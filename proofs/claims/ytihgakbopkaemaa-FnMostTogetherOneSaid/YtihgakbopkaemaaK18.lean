/-
  MERGED TEXTS: W61 W62.
-/
import Derived.Test.YtihgakbopkaemaaK14
import Derived.Test.YtihgakbopkaemaaW60
import Derived.Test.YtihgakbopkaemaaK38
import Derived.Test.YtihgakbopkaemaaW56
namespace Go.Proofs.Ytihgakbopkaemaa
open Go.RowKit
def NxB (g : List Bs.T) (f : Nat → Int) (b : Nat) (time : Int) (k : Nat) (nx : Int) : Prop := (nx = time ∧ ∀ i, i < k → b.testBit i = true → f i + Bs.timeOf g i ≤ time) ∨ (time < nx ∧ nx ≤ 200000 ∧ ∀ i, i < k → b.testBit i = true → time < f i + Bs.timeOf g i → nx ≤ f i + Bs.timeOf g i)
end Go.Proofs.Ytihgakbopkaemaa
namespace Go.Proofs.Ytihgakbopkaemaa
open Go.RowKit
set_option maxHeartbeats 800000 in
theorem bgList_any (f : Nat → Int) (b : Nat) (A : Option Addr) (c : Nat) (g : List Bs.T) (w : World) (hg : g.length ≤ 8) :
    Calls Try.prog 67 #[.agg (bgA f b), .slice A g.length c] w (RetI w ((List.range g.length).map f)) := by
  have b1 := BG.new w f b
  have hbl : Below w.heap.size w (w.alloc (.cells (bgA f b) 57)) := (Below.refl _ _).alloc (Nat.le_refl _) _
  have hmk := make_ints g.length (by omega) (w.alloc (.cells (bgA f b) 57))
  have hsz : (w.alloc (.cells (bgA f b) 57)).heap.size = w.heap.size + 1 := by simp
  have a1 : Arr ((w.alloc (.cells (bgA f b) 57)).alloc (.cells (intsA (List.replicate g.length 0)) 3)) (w.heap.size + 1) (Bs.listK f g.length 0) := by
    rw [← hsz, Bs.listK_zero]
    exact Blk.new _ 3 _
  rw [hsz] at hmk
  have HB1 := Lib.hid (b1.alloc (.cells (intsA (List.replicate g.length 0)) 3))
  have HA1 := Lib.hid a1
  have HBL := Lib.hid (hbl.alloc (by omega) (.cells (intsA (List.replicate g.length 0)) 3))
  have hbs := bgA_size f b
  clear b1 hbl a1
  generalize (.cells (intsA (List.replicate g.length 0)) 3 : Obj) = ob at *
  go_enter Try.func67, Try.ntmps67
  go_wp2
  go_loopw [12] (fun i wr => ∃ (k : Nat), k ≤ g.length ∧ i = .int .i64 k ∧ BG wr w.heap.size f b ∧ Arr wr (w.heap.size + 1) (Bs.listK f g.length k) ∧ Below w.heap.size w wr) (fun i _ => g.length - (intOf i).toNat)
  case atStart => exact ⟨0, Nat.zero_le _, rfl, HB1.out, HA1.out, HBL.out⟩
  case round =>
    clear HB1 HA1 HBL hmk
    obtain ⟨k, hk, rfl, hB, hA, hb⟩ := hrel
    by_cases hlt : k < g.length
    · have hll := Bs.listK_len (f := f) (n := g.length) (k := k) (by omega)
      have kv := hB.at_ (i := k) (by omega)
      have kc := hA.cell (i := k) (by omega)
      have kf := hA.frozen k
      have hs := hA.set_ k (f k)
      rw [Bs.listK_succ hlt] at hs
      have HS := Lib.hid hs
      have HB := Lib.hid hB
      have HBb := Lib.hid hb
      have i0 : (0 : Int) ≤ (k : Int) := by omega
      have i1 : (k : Int) < (g.length : Int) := by omega
      have i2 : (k : Int) < 8 := by omega
      clear hs hA hB hb hll
      go_wp2
      go_roundw
      case rel => exact ⟨k + 1, by omega, by go_num, HB.out.far (by simp) _, HS.out, HBb.out.setCell (by simp) _⟩
      case measure => simp [intOf]; omega
    · obtain rfl : k = g.length := by omega
      have hO := hA.oi (B := w.heap.size) (by omega) (by rw [Bs.listK_len (Nat.le_refl _)]; omega)
      rw [Bs.listK_len (Nat.le_refl _), Bs.listK_all] at hO
      have hll : ((List.range g.length).map f).length = g.length := by simp
      have HO := Lib.hid hO
      have HB := Lib.hid hb
      clear hA hO hB hb
      go_wp2
      go_ret
      refine ⟨⟨_, _, ?_, HO.out⟩, HB.out⟩
      rw [hll]
      rfl
end Go.Proofs.Ytihgakbopkaemaa
