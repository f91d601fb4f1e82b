/-
  WALKS: the draws: some valid graph.
-/
import Derived.Test.YtoggbndpjcfmiaaD3
import Derived.Test.YtoggbndpjcfmiaaD5
namespace Go.Proofs.Ytoggbndpjcfmiaa
open Go.RowKit
/-- a graph of at most m tasks that is handed back -/
def GrR (lo rb P m : Nat) (w : World) (e : Ending) (w' : World) : Prop := (∃ v n, n ≤ m ∧ e = .returned v ∧ SL w' lo 42 4 v n) ∧ St lo rb P w' ∧ Fwd lo w w'
theorem Row.task0 {w : World} {lo rb P b : Nat} (r : Row w lo b 42 4) (hs : St lo rb P w) : ∃ t N m c p u, TC w lo P b 0 t N m c p u := by
  have := Row.task (k := 0) r hs
  simpa using this
/-- the state of the loop over needs -/
def InN (lo rb P b : Nat) (W w : World) : Prop := St lo rb P w ∧ Fwd lo W w ∧ Row w lo b 42 4
theorem InN.one {lo rb P b : Nat} {W w : World} (h : InN lo rb P b W w) (q : Int) {N : Option Addr} {m c : Nat} (hN : SL w lo 3 1 (.slice N m c) m) :
    InN lo rb P b W (w.alloc (.cells #[.int .i64 q] 3)) ∧ SL (w.alloc (.cells #[.int .i64 q] 3)) lo 3 1 (.slice (some ⟨w.heap.size, 0, none⟩) 1 1) 1 ∧ SL (w.alloc (.cells #[.int .i64 q] 3)) lo 3 1 (.slice N m c) m := by
  obtain ⟨s1, f1⟩ := h.1.allocI #[.int .i64 q] (by simp [IsI])
  exact ⟨⟨s1, h.2.1.trans f1, f1.2 _ _ _ _ tT h.2.2⟩, SL.fresh h.1.le #[.int .i64 q] (by simp) (by decide), hN.ext tI f1.2⟩
theorem InN.next {lo rb P b : Nat} {W w w8 : World} {N : Option Addr} {m c : Nat} (h : InN lo rb P b W w) (hv : SL w8 lo 3 1 (.slice N m c) m) (hs : St lo rb P w8) (hf : Fwd lo w w8) (hm : m ≤ P) :
    (∃ v, w8.cell? ⟨b, 1, none⟩ = some v ∧ w8.frozen? ⟨b, 1, none⟩ = false) ∧ Hid (InN lo rb P b W (w8.setCell ⟨b, 1, none⟩ (.slice N m c))) := by
  have hr := hf.2 _ _ _ _ tT h.2.2
  obtain ⟨v, h1, _, h3⟩ := hr.at_ hs.wt tT (i := 1) (by omega)
  obtain ⟨s9, f9⟩ := hs.set_ (u := .slice N m c) (i := 1) hr tT (TY.sl hm hv (by decide))
  exact ⟨⟨v, h1, h3⟩, s9, h.2.1.trans (hf.trans f9), f9.2 _ _ _ _ tT hr⟩
set_option maxHeartbeats 6400000 in
theorem someGraph_any (most lo rb P : Nat) (w : World) (hs : St lo rb P w) (hP : P ≤ 800000) (hm : most ≤ 8) :
    Calls Try.prog 51 #[.pointer (some ⟨rb, 0, none⟩), .int .i64 most] w (GrR lo rb (P + 300) most w) := by
  obtain ⟨s0, f0⟩ := hs.alloc 42 #[] (by decide) (by simp)
  have HS0 := Lib.hid (show Acc lo rb P 42 4 w (w.alloc (.cells #[] 42)) (some ⟨w.heap.size, 0, none⟩) 0 0 from ⟨SL.fresh hs.le #[] (by simp) (Nat.zero_le _), s0, f0⟩)
  have C1 := Lib.hid (one_new #[.int .i64 4, .int .i64 5, .int .i64 3, .int .i64 6, .int .i64 2, .int .i64 1, .int .i64 0, .int .i64 8] 8 lo rb P _ s0 (by omega) (by simp [IsI]) rfl (by omega) (by omega) (g := w.heap.size + 1) (by simp))
  clear hs s0 f0
  obtain ⟨WO, rfl⟩ : ∃ WO, WO = w := ⟨_, rfl⟩
  go_enter Try.func51, Try.ntmps51
  go_wp2_with fail
  refine (C1.out).mono ?_
  rintro e w1 ⟨⟨x, rfl⟩, hs1, hf1, _⟩
  have HA := Lib.hid (show Acc lo rb (P + 1) 42 4 WO w1 (some ⟨WO.heap.size, 0, none⟩) 0 0 from ⟨HS0.out.1.ext tT hf1.2, hs1, HS0.out.2.2.trans hf1⟩)
  clear HS0 C1 hs1 hf1
  go_wp2
  all_goals
    go_loopw [5, 6] (fun v nn wr => ∃ (z : Int) (l : Nat) (A' : Option Addr) (c' : Nat), v = .slice A' l c' ∧ nn = .int .i64 z ∧ (l : Int) + z ≤ most ∧ l ≤ most ∧ l ≤ c' ∧ c' ≤ maxLen ∧ Hid (Acc lo rb (P + 1 + l * 30) 42 4 WO wr A' l c')) (fun _ nn _ => (intOf nn).toNat)
    case atStart => exact ⟨_, 0, _, 0, rfl, rfl, by omega, Nat.zero_le _, Nat.zero_le _, Nat.zero_le _, HA⟩
    case round =>
      clear HA
      obtain ⟨z, l, A', c', rfl, rfl, hz, hlm, hlc, hcm, hh⟩ := hrel
      by_cases hz0 : z ≤ 0
      · by_cases hl1 : 1 < l
        · have C1 := Lib.hid (pick_any 4 lo rb (P + 1 + l * 30) wr hh.out.2.1 (by omega) (by omega))
          go_wp2_with fail
          refine (C1.out).mono ?_
          rintro e w6 ⟨⟨k, rfl, _, _⟩, hs6, hf6, _⟩
          have hA6 : Acc lo rb (P + 300) 42 4 WO w6 A' l c' := ⟨hh.out.1.ext tT hf6.2, hs6.more (by omega), hh.out.2.2.trans hf6⟩
          clear hs6 hf6 C1
          have C2 := Lib.hid (turned_any _ l lo rb (P + 300) w6 hA6.2.1 (by omega) hA6.1 (by omega))
          have HA6 := Lib.hid hA6
          clear hA6
          by_cases hk0 : k = 0
          · subst hk0
            go_wp2_with fail
            refine (C2.out).mono ?_
            rintro e w7 ⟨⟨v7, rfl, hv7⟩, hs7, hf7⟩
            go_wp2
            go_ret
            exact ⟨⟨_, l, hlm, rfl, hv7⟩, hs7, HA6.out.2.2.trans hf7⟩
          · go_wp2
            go_ret
            exact ⟨⟨_, l, hlm, rfl, HA6.out.1⟩, HA6.out.2.1, HA6.out.2.2⟩
        · go_wp2
          go_ret
          exact ⟨⟨_, l, hlm, rfl, hh.out.1⟩, hh.out.2.1.more (by omega), hh.out.2.2⟩
      · obtain ⟨W0, rfl⟩ : ∃ W0, W0 = wr := ⟨_, rfl⟩
        have C1 := Lib.hid (one_new #[.int .i64 1, .int .i64 3, .int .i64 5, .int .i64 2, .int .i64 7, .int .i64 20] 6 lo rb (P + 1 + l * 30) W0 hh.out.2.1 (by omega) (by simp [IsI]) rfl (by omega) (by omega) rfl)
        go_wp2_with fail
        refine (C1.out).mono ?_
        rintro e w1 ⟨⟨t, rfl⟩, hs1, hf1, _⟩
        have C2 := Lib.hid (pick_any 3 lo rb (P + 1 + l * 30 + 1) w1 hs1 (by omega) (by omega))
        go_wp2_with fail
        refine (C2.out).mono ?_
        rintro e w2 ⟨⟨p, rfl, hp, _⟩, hs2, hf2, _⟩
        have C3 := Lib.hid (pick_any 4 lo rb (P + 1 + l * 30 + 2) w2 hs2 (by omega) (by omega))
        go_wp2_with fail
        refine (C3.out).mono ?_
        rintro e w3 ⟨⟨u, rfl, hu, _⟩, hs3, hf3, _⟩
        obtain ⟨s4, f4⟩ := hs3.allocI #[] (by simp)
        have hu := hu (by omega)
        obtain ⟨s5, f5⟩ := s4.allocT t (some ⟨w3.heap.size, 0, none⟩) 0 0 p (1 + u) (Nat.zero_le _) (SL.fresh hs3.le #[] (by simp) (Nat.zero_le _))
        have hF := hf1.trans (hf2.trans (hf3.trans (f4.trans f5)))
        have HA1 := Lib.hid (show Acc lo rb (P + 1 + l * 30 + 3) 42 4 WO _ A' l c' from ⟨hh.out.1.ext tT hF.2, s5, hh.out.2.2.trans hF⟩)
        have hB := Blk.new (w3.alloc (.cells #[] 3)) 42 #[.int .i64 t, .slice (some ⟨w3.heap.size, 0, none⟩) 0 0, .int .i64 p, .int .i64 (1 + u)]
        rw [World.size_alloc] at hB
        have hR := Lib.hid (hB.row (lo := lo) (m := 4) (by have := s4.le; simpa using this) (by simp))
        clear hB
        clear hF C1 C2 C3 hs1 hf1 hs2 hf2 hs3 hf3 s4 f4 s5 f5
        go_wp2
        generalize hW5 : ((w3.alloc (.cells #[] 3)).alloc (.cells #[.int .i64 t, .slice (some ⟨w3.heap.size, 0, none⟩) 0 0, .int .i64 p, .int .i64 (1 + u)] 42)) = W5 at *
        generalize w3.heap.size + 1 = b7 at *
        clear hW5
        have hI := Lib.hid (show InN lo rb (P + 1 + l * 30 + 3 + 2 * 0) b7 W5 W5 from ⟨HA1.out.2.1, Fwd.refl _ _, hR.out⟩)
        go_loopw [8] (fun i wr => ∃ j : Nat, i = .int .i64 j ∧ j ≤ l ∧ Hid (InN lo rb (P + 1 + l * 30 + 3 + 2 * j) b7 W5 wr)) (fun i _ => l - (intOf i).toNat)
        case atStart => exact ⟨0, rfl, Nat.zero_le _, hI⟩
        case round =>
          clear hI
          obtain ⟨j, rfl, hj, hi⟩ := hrel
          by_cases hjl : j < l
          · have C1 := Lib.hid (pick_any 3 lo rb (P + 1 + l * 30 + 3 + 2 * j) wr hi.out.1 (by omega) (by omega))
            go_wp2_with fail
            refine (C1.out).mono ?_
            rintro e w6 ⟨⟨k, rfl, _, _⟩, hs6, hf6, _⟩
            have hI6 := Lib.hid (show InN lo rb (P + 1 + l * 30 + 3 + 2 * (j + 1)) b7 W5 w6 from ⟨hs6.more (by omega), hi.out.2.1.trans hf6, hf6.2 _ _ _ _ tT hi.out.2.2⟩)
            obtain ⟨t2, N2, m2, c2, p2, u2, hT⟩ := hI6.out.2.2.task0 hs6
            obtain ⟨q0, q1, q2, q3, g0, g1, g2, g3, hmc, hcmN, hmP, hsl⟩ := hT
            replace q1 : w6.cell? ⟨b7, 1, none⟩ = some (.slice N2 m2 c2) := q1
            replace g1 : w6.frozen? ⟨b7, 1, none⟩ = false := g1
            clear hs6 hf6 C1 q0 q2 q3 g0 g2 g3
            by_cases hk0 : k = 0
            · subst hk0
              have HI7 := Lib.hid (hI6.out.one (j : Int) hsl)
              clear hsl
              go_wp2_with (at_builtin; refine push_ti rfl _ _ rfl HI7.out.1.1 HI7.out.2.2 HI7.out.2.1 (by omega) ?_; intro A8 c8 w8 hnc8 hcm8 hv8 hs8 hf8 _; obtain ⟨⟨v8, q8, g8⟩, HI9⟩ := InN.next HI7.out.1 hv8 hs8 hf8 (by omega); clear hv8 hs8 hf8)
              go_roundw
              case rel => exact ⟨j + 1, by go_num, by omega, HI9⟩
              case measure => simp [intOf]; omega
            · go_wp2
              go_roundw
              case rel => exact ⟨j + 1, by go_num, by omega, hI6⟩
              case measure => simp [intOf]; omega
          · have hT0 := hi.out.2.2.task0 hi.out.1
            obtain ⟨t2, N2, m2, c2, p2, u2, hT⟩ := hT0
            obtain ⟨q0, q1, q2, q3, g0, g1, g2, g3, hmc, hcmN, hmP, hsl⟩ := hT
            replace q1 : wr.cell? ⟨b7, 1, none⟩ = some (.slice N2 m2 c2) := q1
            replace q2 : wr.cell? ⟨b7, 2, none⟩ = some (.int .i64 p2) := q2
            replace q3 : wr.cell? ⟨b7, 3, none⟩ = some (.int .i64 u2) := q3
            have hA7 : Acc lo rb (P + 1 + l * 30 + 3 + 2 * j) 42 4 WO wr A' l c' := ⟨HA1.out.1.ext tT hi.out.2.1.2, hi.out.1, HA1.out.2.2.trans hi.out.2.1⟩
            have HA8 := Lib.hid (hA7.task t2 N2 m2 c2 p2 u2 hmP hsl rfl)
            clear hA7 hsl g0 g1 g2 g3
            go_wp2_with (at_builtin; refine push_tt rfl _ _ rfl HA8.out.1.2.1 HA8.out.1.1 HA8.out.2 (by omega) ?_; intro A9 c9 w9 hnc9 hcm9 hv9 hs9 hf9)
            have HA9 := Lib.hid (show Acc lo rb (P + 1 + (l + 1) * 30) 42 4 WO w9 A9 (l + 1) c9 from ⟨hv9, hs9.more (by omega), HA8.out.1.2.2.trans hf9⟩)
            clear hv9 hs9 hf9
            go_wp2
            refine ⟨⟨z - 1, l + 1, A9, c9, rfl, rfl, by omega, by omega, hnc9, hcm9, HA9⟩, ?_⟩
            show (z - 1).toNat < z.toNat
            omega
end Go.Proofs.Ytoggbndpjcfmiaa
