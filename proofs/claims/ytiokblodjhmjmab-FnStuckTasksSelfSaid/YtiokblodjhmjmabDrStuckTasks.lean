/-
  WALKS: the draw of StuckTasks.
-/
import Derived.Test.YtiokblodjhmjmabD8
namespace Go.Proofs.Ytiokblodjhmjmab
open Go.RowKit
set_option maxHeartbeats 3200000 in
theorem DrawStuckTasks_any (A : Option Addr) (c : Nat) (l : List Int) (w : World) (hb : RB w 0 w.heap.size A l) (hl : l.length ≤ c) (hc : c ≤ maxLen) :
    Calls Try.prog 31 #[.slice A l.length c] w (DrawG w) := by
  have C1 := Lib.hid (newReader_any A c l w hb hl hc)
  clear hb
  go_enter Try.func31, Try.ntmps31
  go_wp2_with fail
  refine (C1.out).mono ?_
  rintro e w1 ⟨rb, rfl, hs1, hf1⟩
  have C2 := Lib.hid (anyGraph_any w.heap.size rb 0 w1 hs1 (by omega))
  have HF := Lib.hid hf1
  clear hs1 hf1 C1
  go_wp2_with fail
  refine (C2.out).mono ?_
  rintro e w2 ⟨⟨v, n, hn, rfl, hv⟩, hs2, hf2⟩
  obtain ⟨A2, c2, rfl, hnc, hcm, hv⟩ := hv.form
  have HA := Lib.hid (show Acc w.heap.size rb 1000 30 4 w w2 A2 n c2 from ⟨hv, hs2.more (by omega), HF.out.trans hf2⟩)
  clear hv hs2 hf2 C2 HF
  have fin : ∀ w' P, Acc w.heap.size rb P 30 4 w w' A2 n c2 → DrawG w (.returned (.slice A2 n c2)) w' := by
    intro w' P h
    have h' : GrR w.heap.size rb P 16 w' (.returned (.slice A2 n c2)) w' := ⟨⟨_, n, hn, rfl, h.1⟩, h.2.1, Fwd.refl _ _⟩
    exact h'.draw h.2.2
  have FIN := Lib.hid fin
  clear fin
  by_cases hn0 : n = 0
  · have HA0 := Lib.hid (FIN.out _ _ HA.out)
    rw [hn0] at HA0
    go_wp2
    go_ret
    exact HA0.out
  · have C3 := Lib.hid (pick_any 3 w.heap.size rb 1000 w2 HA.out.2.1 (by omega) (by omega))
    go_wp2_with fail
    refine (C3.out).mono ?_
    rintro e w3 ⟨⟨q, rfl, _, _⟩, hs3, hf3, _⟩
    have HA := Lib.hid (HA.out.pick hs3 hf3)
    clear hs3 hf3 C3
    by_cases hq : q = 0
    · subst hq
      go_wp2
      go_ret
      exact FIN.out _ _ HA.out
    · have C4 := Lib.hid (pick_any n w.heap.size rb 1001 w3 HA.out.2.1 (by omega) (by omega))
      go_wp2_with fail
      refine (C4.out).mono ?_
      rintro e w4 ⟨⟨k, rfl, hk, _⟩, hs4, hf4, _⟩
      have hk := hk (by omega)
      have HA := Lib.hid (HA.out.pick hs4 hf4)
      clear hs4 hf4 C4
      obtain ⟨b, o, t, N, m, cN, p, u, rfl, hT, hlb, hrow, ho⟩ := HA.out.1.task HA.out.2.1 hk
      obtain ⟨k0, k1, k2, k3, f0, f1, f2, f3, hmc, hcmN, hmP, hsl⟩ := hT
      have HR := Lib.hid hrow
      clear hrow k0 k2 k3 f0 f2 f3 hsl
      by_cases hm : m = 0
      · subst hm
        have C5 := Lib.hid (pick_any n w.heap.size rb 1002 w4 HA.out.2.1 (by omega) (by omega))
        go_wp2_with fail
        refine (C5.out).mono ?_
        rintro e w5 ⟨⟨x, rfl, _, _⟩, hs5, hf5, _⟩
        have HA := Lib.hid (HA.out.pick hs5 hf5)
        have HR5 := Lib.hid (hf5.2 _ _ _ _ tT HR.out)
        clear hs5 hf5 C5
        obtain ⟨s6, f6⟩ := HA.out.2.1.allocI #[.int .i64 x] (by simp [IsI])
        have hr6 := f6.2 _ _ _ _ tT HR5.out
        obtain ⟨v1, h1, _, g1⟩ := hr6.at_ s6.wt tT (i := o + k * 4 + 1) (by omega)
        obtain ⟨s7, f7⟩ := s6.set_ (u := .slice (some ⟨w5.heap.size, 0, none⟩) 1 1) (i := o + k * 4 + 1) hr6 tT (TY.sl (by omega) (SL.fresh HA.out.2.1.le #[.int .i64 x] (by simp) (by decide)) (by omega))
        have HA7 := Lib.hid (FIN.out _ _ (HA.out.pick s7 (f6.trans f7)))
        obtain ⟨v5, h5, _, g5⟩ := HR5.out.at_ HA.out.2.1.wt tT (i := o + k * 4 + 1) (by omega)
        clear s6 f6 s7 f7 hr6
        go_wp2
        go_ret
        exact HA7.out
      · go_wp2
        go_ret
        exact FIN.out _ _ HA.out
end Go.Proofs.Ytiokblodjhmjmab
