/-
  WALKS: the draws: a graph in reverse order.
-/
import Derived.Test.YtoggbndpjcfmiaaD4
namespace Go.Proofs.Ytoggbndpjcfmiaa
open Go.RowKit
theorem Keeps.blk {t t' : TypeId} {w w' : World} {g : Nat} {cs : Array Value} (h : Keeps t w w') (hb : Blk w g t' cs) (ht : t' ≠ t) : Blk w' g t' cs := h g t' cs ht hb
/-- what one needs of a slice that is collected -/
def Acc (lo rb P : Nat) (t : TypeId) (s : Nat) (W w : World) (A : Option Addr) (l c : Nat) : Prop := SL w lo t s (.slice A l c) l ∧ St lo rb P w ∧ Fwd lo W w
theorem Acc.one {lo rb P : Nat} {W w : World} {A : Option Addr} {l c : Nat} (h : Acc lo rb P 3 1 W w A l c) (q : Int) :
    Acc lo rb P 3 1 W (w.alloc (.cells #[.int .i64 q] 3)) A l c ∧ SL (w.alloc (.cells #[.int .i64 q] 3)) lo 3 1 (.slice (some ⟨w.heap.size, 0, none⟩) 1 1) 1 := by
  obtain ⟨s1, f1⟩ := h.2.1.allocI #[.int .i64 q] (by simp [IsI])
  exact ⟨⟨h.1.ext tI f1.2, s1, h.2.2.trans f1⟩, SL.fresh h.2.1.le #[.int .i64 q] (by simp) (by decide)⟩
theorem Acc.task {lo rb P : Nat} {W w : World} {A : Option Addr} {l c : Nat} (h : Acc lo rb P 42 4 W w A l c) (t : Int) (N : Option Addr) (m cN : Nat) (p u : Int) (hm : m ≤ P) (hN : SL w lo 3 1 (.slice N m cN) m) {g : Nat} (hg : w.heap.size = g) :
    Acc lo rb P 42 4 W (w.alloc (.cells #[.int .i64 t, .slice N m cN, .int .i64 p, .int .i64 u] 42)) A l c ∧ SL (w.alloc (.cells #[.int .i64 t, .slice N m cN, .int .i64 p, .int .i64 u] 42)) lo 42 4 (.slice (some ⟨g, 0, none⟩) 1 1) 1 := by
  subst hg
  obtain ⟨s1, f1⟩ := h.2.1.allocT t N m cN p u hm hN
  exact ⟨⟨h.1.ext tT f1.2, s1, h.2.2.trans f1⟩, SL.fresh h.2.1.le #[.int .i64 t, .slice N m cN, .int .i64 p, .int .i64 u] (by simp) (by decide)⟩
theorem Blk.row {w : World} {g : Nat} {t : TypeId} {cs : Array Value} (h : Blk w g t cs) {lo m : Nat} (hl : lo ≤ g) (hm : m ≤ cs.size) : Row w lo g t m := ⟨hl, cs, h, hm⟩
set_option maxHeartbeats 3200000 in
theorem turned_any (v : Value) (n lo rb P : Nat) (w : World) (hs : St lo rb P w) (hP : P ≤ 1000000) (hv : SL w lo 42 4 v n) (hn : n ≤ 1000000) :
    Calls Try.prog 64 #[v] w (SlR lo rb P n 42 4 w) := by
  obtain ⟨A, c, rfl, hnc, hcm, hv⟩ := hv.form
  have HV := Lib.hid hv
  have HS := Lib.hid hs
  clear hs hv
  obtain ⟨WO, rfl⟩ : ∃ WO, WO = w := ⟨_, rfl⟩
  go_enter Try.func64, Try.ntmps64
  go_wp2
  obtain ⟨s0, f0⟩ := HS.out.alloc 42 #[] (by decide) (by simp)
  have hA0 := Lib.hid (show Acc lo rb P 42 4 WO (WO.alloc (.cells #[] 42)) (some ⟨WO.heap.size, 0, none⟩) 0 0 from ⟨SL.fresh HS.out.le #[] (by simp) (Nat.zero_le _), s0, f0⟩)
  clear s0 f0
  go_loopw [3, 5] (fun v i wr => ∃ (z : Int) (l : Nat) (A' : Option Addr) (c' : Nat), v = .slice A' l c' ∧ i = .int .i64 z ∧ -1 ≤ z ∧ (l : Int) + z + 1 = n ∧ l ≤ c' ∧ c' ≤ maxLen ∧ Hid (Acc lo rb P 42 4 WO wr A' l c')) (fun _ i _ => (intOf i + 1).toNat)
  case atStart => exact ⟨(n : Int) - 1, 0, _, 0, rfl, rfl, by omega, by omega, Nat.le_refl _, Nat.zero_le _, hA0⟩
  case round =>
    obtain ⟨z, l, A', c', rfl, rfl, hz, hlk, hnc', hcm', hh⟩ := hrel
    by_cases hk0 : z < 0
    · obtain rfl : z = -1 := by omega
      obtain rfl : l = n := by omega
      go_wp2
      go_ret
      exact ⟨⟨_, rfl, hh.out.1⟩, hh.out.2⟩
    · obtain ⟨i, rfl⟩ : ∃ i : Nat, z = (i : Int) := ⟨z.toNat, by omega⟩
      clear hk0 hz
      obtain ⟨b, o, t, N, m, cN, p, u, rfl, hT, hlb, hrow, ho⟩ := (HV.out.ext tT hh.out.2.2.2).task hh.out.2.1 (show i < n by omega)
      obtain ⟨q0, q1, q2, q3, g0, g1, g2, g3, hmc, hcmN, hmP, hsl⟩ := hT
      obtain ⟨s1, f1⟩ := hh.out.2.1.allocT t N m cN p u hmP hsl
      obtain ⟨s2, f2⟩ := s1.allocI #[] (by simp)
      have HSL := Lib.hid ((hsl.ext tI f1.2).ext tI f2.2)
      have HF := Lib.hid (hh.out.2.2.trans (f1.trans f2))
      have HO := Lib.hid ((hh.out.1.ext tT f1.2).ext tT f2.2)
      have hA := Lib.hid (show Acc lo rb P 3 1 ((wr.alloc (.cells #[.int .i64 t, .slice N m cN, .int .i64 p, .int .i64 u] 42)).alloc (.cells #[] 3)) ((wr.alloc (.cells #[.int .i64 t, .slice N m cN, .int .i64 p, .int .i64 u] 42)).alloc (.cells #[] 3)) (some ⟨wr.heap.size + 1, 0, none⟩) 0 0 from
        ⟨by have := SL.fresh (w := wr.alloc (.cells #[.int .i64 t, .slice N m cN, .int .i64 p, .int .i64 u] 42)) (t := 3) (s := 1) s1.le #[] (n := 0) (by simp) (Nat.zero_le _); simpa using this, s2, Fwd.refl _ _⟩)
      have hB := Lib.hid (show Blk ((wr.alloc (.cells #[.int .i64 t, .slice N m cN, .int .i64 p, .int .i64 u] 42)).alloc (.cells #[] 3)) wr.heap.size 42 #[.int .i64 t, .slice N m cN, .int .i64 p, .int .i64 u] from (Blk.new wr _ _).alloc _)
      have hlw := Nat.le_trans hh.out.2.1.le (Nat.le_refl _)
      clear s1 f1 s2 f2 hsl hrow
      go_wp2
      obtain ⟨W1, rfl⟩ : ∃ W1, W1 = wr := ⟨_, rfl⟩
      generalize hW2 : ((W1.alloc (.cells #[.int .i64 t, .slice N m cN, .int .i64 p, .int .i64 u] 42)).alloc (.cells #[] 3)) = W2 at *
      clear hW2
      go_loopw [7, 8] (fun v i wr => ∃ (j y : Nat) (A2 : Option Addr) (c2 : Nat), v = .slice A2 y c2 ∧ i = .int .i64 ((j : Int) - 1) ∧ y + j = m ∧ y ≤ c2 ∧ c2 ≤ maxLen ∧ Hid (Acc lo rb P 3 1 W2 wr A2 y c2) ∧ Hid (Blk wr W1.heap.size 42 #[.int .i64 t, .slice N m cN, .int .i64 p, .int .i64 u])) (fun _ i _ => (intOf i + 1).toNat)
      case atStart => exact ⟨m, 0, _, 0, rfl, rfl, Nat.zero_add _, Nat.le_refl _, Nat.zero_le _, hA, hB⟩
      case round =>
        obtain ⟨j, y, A2, c2, rfl, rfl, hyj, hyc, hc2, hh2, hB2⟩ := hrel
        have k0 : wr.cell? ⟨W1.heap.size, 0, none⟩ = some (.int .i64 t) := by rw [hB2.out.cell]; rfl
        have k1 : wr.cell? ⟨W1.heap.size, 1, none⟩ = some (.slice N m cN) := by rw [hB2.out.cell]; rfl
        have k2 : wr.cell? ⟨W1.heap.size, 2, none⟩ = some (.int .i64 p) := by rw [hB2.out.cell]; rfl
        have k3 : wr.cell? ⟨W1.heap.size, 3, none⟩ = some (.int .i64 u) := by rw [hB2.out.cell]; rfl
        have kf := hB2.out.frozen 1
        by_cases hj0 : j = 0
        · subst hj0
          obtain rfl : y = m := by omega
          obtain ⟨s3, f3⟩ := hh2.out.2.1.set_ (u := .slice A2 y c2) (i := 1) (hB2.out.row (m := 4) hlw (by simp)) tT (TY.sl hmP hh2.out.1 (by decide))
          have hA3 : Acc lo rb P 42 4 WO (wr.setCell ⟨W1.heap.size, 1, none⟩ (.slice A2 y c2)) A' l c' := ⟨(HO.out.ext tT hh2.out.2.2.2).ext tT f3.2, s3, HF.out.trans (hh2.out.2.2.trans f3)⟩
          have HA4 := Lib.hid (hA3.task t A2 y c2 p u hmP (hh2.out.1.ext tI f3.2) (g := wr.heap.size) (by simp [World.setCell]))
          clear s3 f3 hA3
          go_wp2_with (at_builtin; refine push_tt rfl _ _ rfl HA4.out.1.2.1 HA4.out.1.1 HA4.out.2 (by omega) ?_; intro A5 c5 w5 hnc5 hcm5 hv5 hs5 hf5)
          have HA5 := Lib.hid (show Acc lo rb P 42 4 WO w5 A5 (l + 1) c5 from ⟨hv5, hs5, HA4.out.1.2.2.trans hf5⟩)
          clear hv5 hs5 hf5
          go_wp2
          go_roundw
          case rel => exact ⟨(i : Int) - 1, l + 1, A5, c5, rfl, by go_num, by omega, by omega, hnc5, hcm5, HA5⟩
          case measure => simp [intOf]
        · obtain ⟨j, rfl⟩ : ∃ i, j = i + 1 := ⟨j - 1, by omega⟩
          obtain ⟨b2, o2, x, rfl, hx, _, _, _⟩ := (HSL.out.ext tI hh2.out.2.2.2).cell hh2.out.2.1 (show j < m by omega)
          have HA3 := fun q => Lib.hid (hh2.out.one q)
          go_wp2_with (at_builtin; refine push_ti rfl _ _ rfl (HA3 _).out.1.2.1 (HA3 _).out.1.1 (HA3 _).out.2 (by omega) ?_; intro A5 c5 w5 hnc5 hcm5 hv5 hs5 hf5 hk5)
          have HB5 := Lib.hid (hk5.blk (hB2.out.alloc _) (by decide))
          have HA5 := Lib.hid (show Acc lo rb P 3 1 W2 w5 A5 (y + 1) c5 from ⟨hv5, hs5, (HA3 _).out.1.2.2.trans hf5⟩)
          clear hv5 hs5 hf5 hk5
          go_wp2
          go_roundw
          case rel => exact ⟨j, y + 1, A5, c5, rfl, by go_num, by omega, hnc5, hcm5, HA5, HB5⟩
          case measure => simp [intOf]
end Go.Proofs.Ytoggbndpjcfmiaa
