/-
  WALKS: the heap of ready tasks, of the program: which is taken before, which place lies below.
-/
import Derived.Test.YtfholjgndpefdaaK27
import Derived.Test.YtfholjgndpefdaaMem6
import Derived.Test.YtfholjgndpefdaaMath29
import Derived.Deep.RegionHeld3
namespace Go.Proofs.Ytfholjgndpefdaa
open Go.RowKit
/-- a heap as cells -/
def hpA (f : Nat → Int × Int) (n : Int) : Array Value := #[.int .i64 (f 0).1, .int .i64 (f 0).2, .int .i64 (f 1).1, .int .i64 (f 1).2, .int .i64 (f 2).1, .int .i64 (f 2).2, .int .i64 (f 3).1, .int .i64 (f 3).2, .int .i64 (f 4).1, .int .i64 (f 4).2, .int .i64 (f 5).1, .int .i64 (f 5).2, .int .i64 (f 6).1, .int .i64 (f 6).2, .int .i64 (f 7).1, .int .i64 (f 7).2, .int .i64 n]
theorem hpA_size (f : Nat → Int × Int) (n : Int) : (hpA f n).size = 17 := rfl
theorem hpA_n (f : Nat → Int × Int) (n : Int) : (hpA f n)[16]? = some (.int .i64 n) := rfl
theorem hpA_at (f : Nat → Int × Int) (n : Int) {i : Nat} (h : i < 8) : (hpA f n)[i * 2]? = some (.int .i64 (f i).1) ∧ (hpA f n)[i * 2 + 1]? = some (.int .i64 (f i).2) := by
  rcases eight h with rfl | rfl | rfl | rfl | rfl | rfl | rfl | rfl <;> exact ⟨rfl, rfl⟩
theorem hpA_size_set (f : Nat → Int × Int) (n m : Int) : (hpA f n).setIfInBounds 16 (.int .i64 m) = hpA f m := rfl
theorem hpA_set (f : Nat → Int × Int) (n : Int) {i : Nat} (h : i < 8) (x : Int × Int) : ((hpA f n).setIfInBounds (i * 2) (.int .i64 x.1)).setIfInBounds (i * 2 + 1) (.int .i64 x.2) = hpA (Bs.upd f i x) n := by
  rcases eight h with rfl | rfl | rfl | rfl | rfl | rfl | rfl | rfl <;> rfl
/-- a heap in memory -/
def HB (w : World) (b : Nat) (f : Nat → Int × Int) (n : Int) : Prop := Blk w b 109 (hpA f n)
theorem HB.n {w : World} {b : Nat} {f : Nat → Int × Int} {n : Int} (h : HB w b f n) : w.cell? ⟨b, 16, none⟩ = some (.int .i64 n) := (Blk.cell h 16).trans rfl
theorem HB.fst {w : World} {b : Nat} {f : Nat → Int × Int} {n : Int} (h : HB w b f n) {i : Nat} (hi : i < 8) : w.cell? ⟨b, i * 2, none⟩ = some (.int .i64 (f i).1) := (Blk.cell h _).trans (hpA_at f n hi).1
theorem HB.snd {w : World} {b : Nat} {f : Nat → Int × Int} {n : Int} (h : HB w b f n) {i : Nat} (hi : i < 8) : w.cell? ⟨b, i * 2 + 1, none⟩ = some (.int .i64 (f i).2) := (Blk.cell h _).trans (hpA_at f n hi).2
theorem HB.frozen {w : World} {b : Nat} {f : Nat → Int × Int} {n : Int} (h : HB w b f n) (i : Nat) : w.frozen? ⟨b, i, none⟩ = false := Blk.frozen h i
theorem HB.setN {w : World} {b : Nat} {f : Nat → Int × Int} {n : Int} (h : HB w b f n) (m : Int) : HB (w.setCell ⟨b, 16, none⟩ (.int .i64 m)) b f m := by
  unfold HB
  rw [← hpA_size_set f n m]
  exact Blk.set_ h 16 _
theorem HB.setP {w : World} {b : Nat} {f : Nat → Int × Int} {n : Int} (h : HB w b f n) {i : Nat} (hi : i < 8) (x : Int × Int) : HB ((w.setCell ⟨b, i * 2, none⟩ (.int .i64 x.1)).setCell ⟨b, i * 2 + 1, none⟩ (.int .i64 x.2)) b (Bs.upd f i x) n := by
  unfold HB
  rw [← hpA_set f n hi x]
  exact Blk.set_ (Blk.set_ h _ _) _ _
theorem HB.below {w w' : World} {b B : Nat} {f : Nat → Int × Int} {n : Int} (h : HB w b f n) (hb : Below B w w') (hg : b < B) : HB w' b f n := Blk.below h hb hg
theorem HB.lt {w : World} {b : Nat} {f : Nat → Int × Int} {n : Int} (h : HB w b f n) : b < w.heap.size := Blk.lt h
theorem HB.far {w : World} {b : Nat} {f : Nat → Int × Int} {n : Int} (h : HB w b f n) {p : Addr} (hp : b ≠ p.block) (u : Value) : HB (w.setCell p u) b f n := Blk.far h hp u
theorem HB.alloc {w : World} {b : Nat} {f : Nat → Int × Int} {n : Int} (h : HB w b f n) (o : Obj) : HB (w.alloc o) b f n := Blk.alloc h o
theorem HB.new (w : World) (f : Nat → Int × Int) (n : Int) : HB (w.alloc (.cells (hpA f n) 109)) w.heap.size f n := Blk.new w _ _
theorem HB.drewN {w : World} {b : Nat} {f : Nat → Int × Int} {n : Int} (h : HB w b f n) (k : Nat) : HB (w.drewN k) b f n := h
theorem before_bool {a b : Int × Int} (ha : 0 ≤ a.1 ∧ a.1 < 8) (hb : 0 ≤ b.1 ∧ b.1 < 8) : decide (Bs.keyP a < Bs.keyP b) = if a.2 = b.2 then decide (a.1 < b.1) else decide (b.2 < a.2) := by
  rw [Bool.eq_iff_iff, decide_eq_true_eq, Bs.keyP_lt ha hb]
  split <;> simp_all
theorem takenBefore_any (a b : Int × Int) (ha : 0 ≤ a.1 ∧ a.1 < 8) (hb : 0 ≤ b.1 ∧ b.1 < 8) (w : World) :
    Calls Try.prog 125 #[.agg #[.int .i64 a.1, .int .i64 a.2], .agg #[.int .i64 b.1, .int .i64 b.2]] w fun e w' => e = .returned (.bool (decide (Bs.keyP a < Bs.keyP b))) ∧ Below w.heap.size w w' := by
  rw [before_bool ha hb]
  obtain ⟨a1, a2⟩ := a
  obtain ⟨b1, b2⟩ := b
  simp only at ha hb ⊢
  by_cases h : a2 = b2
  · have hq : (a2 == b2) = true := by simp [h]
    rw [if_pos h]
    clear h
    go_enter Try.func125, Try.ntmps125
    go_wp2
    go_ret
    exact ⟨rfl, ((Below.refl _ _).alloc (Nat.le_refl _) _).alloc (by simp) _⟩
  · have hq : (a2 == b2) = false := by simp [h]
    rw [if_neg h]
    clear h
    go_enter Try.func125, Try.ntmps125
    go_wp2
    go_ret
    exact ⟨rfl, ((Below.refl _ _).alloc (Nat.le_refl _) _).alloc (by simp) _⟩
set_option maxHeartbeats 400000 in
theorem below_any (f : Nat → Int × Int) (n p : Nat) (hf : ∀ i, i < 8 → 0 ≤ (f i).1 ∧ (f i).1 < 8) (hn : n ≤ 8) (hp : p ≤ 8) (w : World) :
    Calls Try.prog 126 #[.agg (hpA f n), .int .i64 (p : Int)] w fun e w' => e = .returned (.int .i64 (Bs.bel f n p : Nat)) ∧ Below w.heap.size w w' := by
  have hb := HB.new w f n
  have hal : Below w.heap.size w (w.alloc (.cells (hpA f n) 109)) := (Below.refl _ _).alloc (Nat.le_refl _) _
  have hsz := hpA_size f n
  have k16 := hb.n
  obtain ⟨l, hl⟩ : ∃ l : Nat, l = 2 * p + 1 := ⟨_, rfl⟩
  obtain ⟨r, hr⟩ : ∃ r : Nat, r = 2 * p + 2 := ⟨_, rfl⟩
  have e1 : 2 * (p : Int) + 1 = (l : Int) := by omega
  have e2 : (l : Int) + 1 = (r : Int) := by omega
  have HV := Lib.hid (show Bs.bel f n p = if r < n ∧ Bs.keyP (f r) < Bs.keyP (f l) then r else l from by rw [hl, hr]; rfl)
  by_cases hrn : r < n
  · have hr8 : r < 8 := by omega
    have hl8 : l < 8 := by omega
    have kr0 := hb.fst hr8
    have kr1 := hb.snd hr8
    have kl0 := hb.fst hl8
    have kl1 := hb.snd hl8
    have c1 := fun W => takenBefore_any (f r) (f l) (hf r hr8) (hf l hl8) W
    have j0 : (0 : Int) ≤ (r : Int) := by omega
    have j1 : (0 : Int) ≤ (l : Int) := by omega
    have j2 : (r : Int) < 8 := by omega
    have j3 : (l : Int) < 8 := by omega
    have hrn1 : (r : Int) < (n : Int) := by omega
    have HAL := Lib.hid hal
    clear hb hal hl hr hf
    cases hk : decide (Bs.keyP (f r) < Bs.keyP (f l))
    all_goals
      rw [hk] at c1
      have C1 := Lib.hid c1
      have HK := Lib.hid hk
      clear c1 hk
      go_enter Try.func126, Try.ntmps126
      go_wp2_with fail
      have kb : w.heap.size < (w.alloc (.cells (hpA f n) 109)).heap.size := by simp
      generalize w.alloc (.cells (hpA f n) 109) = W1 at *
      go_region_held3 (fun w' => w'.cell? ⟨w.heap.size, 16, none⟩ = some (.int .i64 (n : Int)) ∧ w'.cell? ⟨w.heap.size, r * 2, none⟩ = some (.int .i64 (f r).1) ∧ w'.cell? ⟨w.heap.size, r * 2 + 1, none⟩ = some (.int .i64 (f r).2) ∧ w'.cell? ⟨w.heap.size, l * 2, none⟩ = some (.int .i64 (f l).1) ∧ w'.cell? ⟨w.heap.size, l * 2 + 1, none⟩ = some (.int .i64 (f l).2))
        (first | go_keep | (go_split_ands; refine ⟨?_, ?_, ?_, ?_, ?_⟩; (exact (hb5.cell (p := ⟨w.heap.size, 16, none⟩) kb).trans k16); (exact (hb5.cell (p := ⟨w.heap.size, r * 2, none⟩) kb).trans kr0); (exact (hb5.cell (p := ⟨w.heap.size, r * 2 + 1, none⟩) kb).trans kr1); (exact (hb5.cell (p := ⟨w.heap.size, l * 2, none⟩) kb).trans kl0); (exact (hb5.cell (p := ⟨w.heap.size, l * 2 + 1, none⟩) kb).trans kl1)))
        (first | (go_at_call 125; (with_reducible refine (C1.out _).mono ?_); rintro e w5 ⟨rfl, hb5⟩))
      go_wp2
      go_ret
      refine ⟨?_, HAL.out.trans ((((Below.refl _ W1).drewN 1).trans hb5).mono HAL.out.size)⟩
      rw [HV.out]
      have hk := HK.out
      simp only [decide_eq_true_eq, decide_eq_false_iff_not] at hk
      simp [hrn, hk]
  · have e3 : decide ((r : Int) < (n : Int)) = false := by simp; omega
    have HAL := Lib.hid hal
    clear hb hal hl hr hf
    go_enter Try.func126, Try.ntmps126
    go_wp2_with fail
    generalize w.alloc (.cells (hpA f n) 109) = W1 at *
    go_quiet (fail)
    go_wp2
    go_ret
    exact ⟨by rw [HV.out, if_neg (fun h => hrn h.1)]; rfl, HAL.out.drewN _⟩
end Go.Proofs.Ytfholjgndpefdaa
