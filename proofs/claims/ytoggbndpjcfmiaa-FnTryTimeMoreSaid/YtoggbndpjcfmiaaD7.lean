/-
  WALKS: the draws: any graph.
-/
import Derived.Test.YtoggbndpjcfmiaaD6
import Derived.Deep.RegionLaw
import Derived.Deep.AppendLies
namespace Go.Proofs.Ytoggbndpjcfmiaa
open Go.RowKit
theorem step_push_ti {ops : Array Oper} {o : Oper} {a : Act} {w : World} {K : Act → World → Prop} {Q : Exit → Act → World → Prop} {E : Prop} (hgd : o.guard = none) (s x : Operand)
    (ho : o.op = .call { callee := .builtin .append, args := #[s, x], argTypes := #[36, 36] }) {lo rb P n m : Nat} (hs : St lo rb P w) (hv : SL w lo 3 1 (a.eval s) n) (hx : SL w lo 3 1 (a.eval x) m) (hm : n + m ≤ 1000000000)
    (h : ∀ A c w', n + m ≤ c → c ≤ maxLen → SL w' lo 3 1 (.slice A (n + m) c) (n + m) → St lo rb P w' → Fwd lo w w' → Keeps 3 w w' → K (a.put o.dst (.slice A (n + m) c)) w') :
    if Region.wanted o (yielded ops a.tmps) = true then Oper.wp Try.prog o a w K Q else E := by
  have hw : Region.wanted o (yielded ops a.tmps) = true := by simp [Region.wanted, hgd]
  rw [if_pos hw]
  obtain ⟨v', w', hr, h1, h2, h3, h4⟩ := run_push_ints (ty := o.type) hs hv hx hm
  obtain ⟨A, c, rfl, hnc, hcm, h1⟩ := h1.form
  unfold Oper.wp
  simp [execOp, ho, resolve, invoke, builtin, hr, Result.andThen]
  exact h A c w' hnc hcm h1 h2 h3 h4
/-- the state in which a graph lies -/
theorem Acc.pick {lo rb P P' : Nat} {W w w' : World} {A : Option Addr} {l c : Nat} (h : Acc lo rb P 42 4 W w A l c) (hs : St lo rb P' w') (hf : Fwd lo w w') : Acc lo rb P' 42 4 W w' A l c :=
  ⟨h.1.ext tT hf.2, hs, h.2.2.trans hf⟩
theorem hold_of {w w' : World} {lo b m i : Nat} {v : Value} (h : KT w w') (r : Row w lo b 42 m) (hc : w.cell? ⟨b, i, none⟩ = some v) : w'.cell? ⟨b, i, none⟩ = some v ∧ w'.frozen? ⟨b, i, none⟩ = false :=
  ⟨(h.cell r).1.trans hc, (h.cell r).2⟩
theorem one_more {lo rb P m c : Nat} {N : Option Addr} {w : World} (hs : St lo rb P w) (hN : SL w lo 3 1 (.slice N m c) m) (q : Int) :
    St lo rb P (w.alloc (.cells #[.int .i64 q] 3)) ∧ Fwd lo w (w.alloc (.cells #[.int .i64 q] 3)) ∧ SL (w.alloc (.cells #[.int .i64 q] 3)) lo 3 1 (.slice N m c) m ∧ SL (w.alloc (.cells #[.int .i64 q] 3)) lo 3 1 (.slice (some ⟨w.heap.size, 0, none⟩) 1 1) 1 := by
  obtain ⟨s1, f1⟩ := hs.allocI #[.int .i64 q] (by simp [IsI])
  exact ⟨s1, f1, hN.ext tI f1.2, SL.fresh hs.le #[.int .i64 q] (by simp) (by decide)⟩
set_option maxRecDepth 20000 in
set_option maxHeartbeats 6400000 in
theorem anyGraph_any (lo rb P : Nat) (w : World) (hs : St lo rb P w) (hP : P ≤ 700000) :
    Calls Try.prog 41 #[.pointer (some ⟨rb, 0, none⟩)] w (GrR lo rb (P + 1000) 16 w) := by
  have C1 := Lib.hid (someGraph_any 8 lo rb P w hs (by omega) (by omega))
  clear hs
  obtain ⟨WO, rfl⟩ : ∃ WO, WO = w := ⟨_, rfl⟩
  go_enter Try.func41, Try.ntmps41
  go_wp2_with fail
  refine (C1.out).mono ?_
  rintro e w1 ⟨⟨v1, n, hn, rfl, hv1⟩, hs1, hf1⟩
  obtain ⟨A, c, rfl, hnc, hcm, hv1⟩ := hv1.form
  have HA := Lib.hid (show Acc lo rb (P + 300) 42 4 WO w1 A n c from ⟨hv1, hs1, hf1⟩)
  clear C1 hv1 hs1 hf1
  by_cases hn0 : n = 0
  · have HA := Lib.hid (show Acc lo rb (P + 300) 42 4 WO w1 A 0 c from hn0 ▸ HA.out)
    go_wp2
    go_ret
    exact ⟨⟨_, _, Nat.zero_le _, rfl, HA.out.1⟩, HA.out.2.1.more (by omega), HA.out.2.2⟩
  · have C1 := Lib.hid (pick_any n lo rb (P + 300) w1 HA.out.2.1 (by omega) (by omega))
    go_wp2_with fail
    refine (C1.out).mono ?_
    rintro e w2 ⟨⟨k, rfl, hk, _⟩, hs2, hf2, _⟩
    have hk := hk (by omega)
    have HA := Lib.hid (HA.out.pick hs2 hf2)
    clear C1 hs2 hf2
    have C1 := Lib.hid (pick_any 24 lo rb (P + 300 + 1) w2 HA.out.2.1 (by omega) (by omega))
    go_wp2_with fail
    refine (C1.out).mono ?_
    rintro e w3 ⟨⟨q, rfl, _, _⟩, hs3, hf3, _⟩
    have HA := Lib.hid (HA.out.pick hs3 hf3)
    clear C1 hs3 hf3
    by_cases q0 : q = 0
    · subst q0
      have C1 := Lib.hid (one_new #[.int .i64 0, .int .i64 21, .int .i64 20] 3 lo rb (P + 302) w3 HA.out.2.1 (by omega) (by simp [IsI]) rfl (by omega) (by omega) rfl)
      go_wp2_with fail
      refine (C1.out).mono ?_
      rintro e w4 ⟨⟨x, rfl⟩, hs4, hf4, _⟩
      have hA := HA.out.pick hs4 hf4
      obtain ⟨b, o, t, N, m, cN, p, u, rfl, hT, hlb, hrow, ho⟩ := hA.1.task hs4 hk
      obtain ⟨k0, k1, k2, k3, f0, f1, f2, f3, _, _, _, _⟩ := hT
      obtain ⟨s5, f5⟩ := hs4.set_ (u := .int .i64 x) (i := o + k * 4) hrow tT (TY.num _ _ _ _ ⟨x, rfl⟩ (by omega))
      have HA := Lib.hid (hA.pick s5 f5)
      clear hs4 hf4 hA s5 f5 hrow C1
      go_wp2
      go_ret
      exact ⟨⟨_, n, by omega, rfl, HA.out.1⟩, HA.out.2.1.more (by omega), HA.out.2.2⟩
    · by_cases q1 : q = 1
      · subst q1
        obtain ⟨b, o, t, N, m, cN, p, u, rfl, hT, hlb, hrow, ho⟩ := HA.out.1.task HA.out.2.1 hk
        obtain ⟨k0, k1, k2, k3, f0, f1, f2, f3, hmc, hcmN, hmP, hsl⟩ := hT
        have HR := Lib.hid hrow
        have HSL := Lib.hid hsl
        clear hrow hsl k0 k2 k3 f0 f2 f3
        have C1 := fun i => Lib.hid (pick_any n lo rb (P + 302) (w3.drewN i) (HA.out.2.1.drewN i).1 (by omega) (by omega))
        go_wp2
        go_region_law
          (first | (go_simp; go_at_call 30; refine (C1 1).out.mono ?_; rintro e w4 ⟨⟨q, rfl, _, _⟩, hs4, hf4, ht4⟩; have c4 := hold_of ((KT.drewN w3 1).trans ht4) HR.out k1; have c4a := fun ob => hold_of (((KT.drewN w3 1).trans ht4).trans (KT.alloc w4 ob)) HR.out k1; have HF4 := Lib.hid ((HA.out.2.1.drewN 1).2.trans hf4); have HK4 := Lib.hid ((KT.drewN w3 1).trans ht4); have H5 := Lib.hid (one_more hs4 (HSL.out.ext tI ((HA.out.2.1.drewN 1).2.trans hf4).2) (q : Int)); clear hs4 hf4 ht4) | (refine step_push_ti rfl _ _ rfl H5.out.1 H5.out.2.2.1 H5.out.2.2.2 (by omega) ?_; intro A5 c5 w5 hnc5 hcm5 hv5 hs5 hf5 hk5; have c5 := hold_of (HK4.out.trans ((KT.alloc w4 _).trans (hk5.kt (by decide)))) HR.out k1; have HK5 := Lib.hid (HK4.out.trans ((KT.alloc w4 _).trans (hk5.kt (by decide)))); have HF5 := Lib.hid (HF4.out.trans (H5.out.2.1.trans hf5)); have C2 := Lib.hid (spoil_any _ (m + 1) lo rb (P + 303) 8 w5 hs5 (by omega) hv5 (by omega)); clear hk5 hf5 hs5 hv5) | (go_simp; go_at_call 52; refine C2.out.mono ?_; rintro e w6 ⟨⟨v6, n6, hn6, rfl, hv6⟩, hs6, hf6, ht6⟩; have c6 := hold_of (HK5.out.trans ht6) HR.out k1; have HF6 := Lib.hid (HF5.out.trans hf6); have HS6 := Lib.hid hs6; obtain ⟨A6, c6', rfl, hnc6, hcm6, hv6⟩ := hv6.form; have HV6 := Lib.hid hv6; clear hs6 hf6 ht6 hv6))
        all_goals
          have hr6 := HF6.out.2 _ _ _ _ tT HR.out
          obtain ⟨s7, f7⟩ := HS6.out.set_ (u := .slice A6 n6 c6') (i := o + k * 4 + 1) hr6 tT (TY.sl (by omega) HV6.out (by omega))
          have HA7 := Lib.hid (HA.out.pick s7 (HF6.out.trans f7))
          clear s7 f7 hr6
          go_wp2
          go_ret
          exact ⟨⟨_, n, by omega, rfl, HA7.out.1⟩, HA7.out.2.1.more (by omega), HA7.out.2.2⟩
      · by_cases q2 : q = 2
        · subst q2
          have C1 := Lib.hid (one_new #[.int .i64 (-1), .int .i64 3] 2 lo rb (P + 302) w3 HA.out.2.1 (by omega) (by simp [IsI]) rfl (by omega) (by omega) rfl)
          go_wp2_with fail
          refine (C1.out).mono ?_
          rintro e w4 ⟨⟨x, rfl⟩, hs4, hf4, _⟩
          have hA := HA.out.pick hs4 hf4
          obtain ⟨b, o, t, N, m, cN, p, u, rfl, hT, hlb, hrow, ho⟩ := hA.1.task hs4 hk
          obtain ⟨k0, k1, k2, k3, f0, f1, f2, f3, _, _, _, _⟩ := hT
          obtain ⟨s5, f5⟩ := hs4.set_ (u := .int .i64 x) (i := o + k * 4 + 2) hrow tT (TY.num _ _ _ _ ⟨x, rfl⟩ (by omega))
          have HA := Lib.hid (hA.pick s5 f5)
          clear hs4 hf4 hA s5 f5 hrow C1
          go_wp2
          go_ret
          exact ⟨⟨_, n, by omega, rfl, HA.out.1⟩, HA.out.2.1.more (by omega), HA.out.2.2⟩
        · by_cases q3 : q = 3
          · subst q3
            have C1 := Lib.hid (one_new #[.int .i64 0, .int .i64 5] 2 lo rb (P + 302) w3 HA.out.2.1 (by omega) (by simp [IsI]) rfl (by omega) (by omega) rfl)
            go_wp2_with fail
            refine (C1.out).mono ?_
            rintro e w4 ⟨⟨x, rfl⟩, hs4, hf4, _⟩
            have hA := HA.out.pick hs4 hf4
            obtain ⟨b, o, t, N, m, cN, p, u, rfl, hT, hlb, hrow, ho⟩ := hA.1.task hs4 hk
            obtain ⟨k0, k1, k2, k3, f0, f1, f2, f3, _, _, _, _⟩ := hT
            obtain ⟨s5, f5⟩ := hs4.set_ (u := .int .i64 x) (i := o + k * 4 + 3) hrow tT (TY.num _ _ _ _ ⟨x, rfl⟩ (by omega))
            have HA := Lib.hid (hA.pick s5 f5)
            clear hs4 hf4 hA s5 f5 hrow C1
            go_wp2
            go_ret
            exact ⟨⟨_, n, by omega, rfl, HA.out.1⟩, HA.out.2.1.more (by omega), HA.out.2.2⟩
          · by_cases q4 : q = 4
            · subst q4
              have C1 := Lib.hid (someGraph_any 8 lo rb (P + 302) w3 HA.out.2.1 (by omega) (by omega))
              go_wp2_with fail
              refine (C1.out).mono ?_
              rintro e w4 ⟨⟨v4, n4, hn4, rfl, hv4⟩, hs4, hf4⟩
              have HA := Lib.hid (HA.out.pick hs4 hf4)
              obtain ⟨A4, c4, rfl, _, _, hv4⟩ := hv4.form
              have HV4 := Lib.hid hv4
              clear hs4 hf4 hv4 C1
              go_wp2_with (at_builtin; refine push_tt rfl _ _ rfl HA.out.2.1 HA.out.1 HV4.out (by omega) ?_; intro A5 c5 w5 hnc5 hcm5 hv5 hs5 hf5)
              have HV5 := Lib.hid hv5
              have HF5 := Lib.hid hf5
              have HS5 := Lib.hid hs5
              clear hv5 hf5 hs5
              go_wp2
              go_ret
              exact ⟨⟨_, n + n4, by omega, rfl, HV5.out⟩, HS5.out.more (by omega), HA.out.2.2.trans HF5.out⟩
            · go_wp2
              go_ret
              exact ⟨⟨_, n, by omega, rfl, HA.out.1⟩, HA.out.2.1.more (by omega), HA.out.2.2⟩
end Go.Proofs.Ytoggbndpjcfmiaa
