/-
  THE WALK OF laws.FnNextUser.
-/
import Derived.Test.YtcoipkogfgcdeaaX14
import Derived.Test.YtcoipkogfgcdeaaMath83
import Derived.Test.YtcoipkogfgcdeaaR60
import Derived.Test.YtcoipkogfgcdeaaW104
namespace Go.Proofs.Ytcoipkogfgcdeaa
open Go.RowKit
set_option maxRecDepth 20000 in
set_option maxHeartbeats 6400000 in
theorem fnNextUser_walk (A : Option Addr) (c : Nat) (l : List Int) (w : World) (hb : RB w 0 w.heap.size A l) (hlc : l.length ≤ c ∧ c ≤ maxLen) :
    Calls Try.prog 4 #[.slice A l.length c] w fun e w' => e = .returned (.bool true) ∧ Below w.heap.size w w' := by
  have hl63 : l.length ≤ 9223372036854775807 := by have := hlc.2; unfold maxLen at this; omega
  by_cases hbig : 1048576 < l.length
  · go_enter Try.func4, Try.ntmps4
    go_wp2
    go_ret
    exact ⟨rfl, Below.refl _ _⟩
  · have C1 := Lib.hid (DrawNextUser_any A c l w hb hlc.1 hlc.2)
    clear hb
    go_enter Try.func4, Try.ntmps4
    go_wp2_with fail
    refine (C1.out).mono ?_
    rintro e w1 ⟨⟨A1, c1, g, rfl, hg, hg6, hgc, hcm⟩, hb1⟩
    have HG := Lib.hid hg
    have HB1 := Lib.hid hb1
    have s1 := hb1.size
    have hl9 : g.length ≤ 9223372036854775807 := by omega
    obtain ⟨N, hN⟩ : ∃ N, N = Bs.nextL g := ⟨_, rfl⟩
    have c2 := fun W (hb : Below w1.heap.size w1 W) => NextUser_any A1 c1 g w.heap.size w1.heap.size W (HG.out.below hb (Nat.le_refl _)) hb.size hl9
    have cs := fun W (hb : Below w1.heap.size w1 W) => NextUserS_any A1 c1 g w.heap.size w1.heap.size W (HG.out.below hb (Nat.le_refl _)) hb.size hl9
    rw [← hN] at c2 cs
    have C2 := Lib.hid (c2 w1 (Below.refl _ _))
    have CS := Lib.hid cs
    have HN := Lib.hid hN
    clear C1 hg hb1 c2 cs hN
    go_wp2_with fail
    refine (C2.out).mono ?_
    rintro e w2 ⟨rfl, hb2⟩
    have s2 := hb2.size
    have C3 := Lib.hid (CS.out w2 hb2)
    have HB2 := Lib.hid hb2
    clear hb2 C2
    go_wp2_with fail
    refine (C3.out).mono ?_
    rintro e w3 ⟨rfl, hb3⟩
    have hb13 := HB2.out.trans (hb3.mono s2)
    clear hb3
    have s13 := hb13.size
    have HX := Lib.hid hb13
    have HG3 := Lib.hid (HG.out.below hb13 (Nat.le_refl _))
    have HB3 := Lib.hid (HB1.out.trans (hb13.mono s1))
    have hne : (N != N) = false := by simp
    have heq : (N == N) = true := by simp
    clear hb13 C3 HB2 HB1
    by_cases h0 : N < 0
    · have C4 := Lib.hid (CS.out w3 HX.out)
      clear CS HX HN
      go_wp2_with fail
      refine (C4.out).mono ?_
      rintro e w4 ⟨rfl, hb4⟩
      have HB4 := Lib.hid (HB3.out.trans (hb4.mono HB3.out.size))
      clear hb4 C4
      go_wp2
      go_ret
      exact ⟨by first | rfl | simp, HB4.out⟩
    · have hn := HN.out
      rw [hn] at h0
      obtain ⟨hu, m, e, hm, hwm, hall⟩ := next_law h0
      obtain rfl : N = (m : Int) := hn.trans e
      have HA := Lib.hid hall
      have d1 : ¬ (m : Int) < 0 := by omega
      have d2 : ¬ (g.length : Int) ≤ (m : Int) := by omega
      obtain ⟨b, o, rfl, _, _, r0, r1, r2⟩ := HG3.out.at_ hm
      have j0 : (0 : Int) ≤ (m : Int) := by omega
      have j1 : (m : Int) < (g.length : Int) := by omega
      clear CS HX HN hn h0 hall e
      go_wp2
      go_loopw [5, 6, 7] (fun i _ _ wr => ∃ k : Nat, k ≤ g.length ∧ i = .int .i64 (k : Int) ∧ ∃ q, wr = w3.drewN q) (fun i _ _ _ => g.length + 1 - (intOf i).toNat)
      case atStart => exact ⟨0, Nat.zero_le _, rfl, 0, rfl⟩
      case round =>
        obtain ⟨k, hk, rfl, q, rfl⟩ := hrel
        by_cases hlt : k < g.length
        · obtain ⟨b', o', e', _, _, q0, q1, q2⟩ := HG3.out.at_ hlt
          cases e'
          obtain ⟨p1, p2, p3⟩ := HA.out k hlt
          have i0 : (0 : Int) ≤ (k : Int) := by omega
          have i1 : (k : Int) < (g.length : Int) := by omega
          clear HA
          generalize (Bs.gu g k).used = uk at *
          generalize (Bs.gu g m).used = um at *
          generalize (Bs.gu g k).share = sk at *
          generalize (Bs.gu g m).share = sm at *
          generalize (Bs.gu g k).waits = wk at *
          generalize (Bs.gu g m).waits = wm at *
          have hw1 : IntKind.i64.wrap (uk * sm) = uk * sm := IntWalk.i64_in _ ⟨by omega, by omega⟩
          have hw2 : IntKind.i64.wrap (um * sk) = um * sk := IntWalk.i64_in _ ⟨by omega, by omega⟩
          by_cases hk0 : 0 < wk
          · obtain ⟨p4, p5⟩ := p3 hk0
            by_cases he : uk * sm = um * sk
            · have hkm : decide ((k : Int) < (m : Int)) = false := by have := p5 he; simp; omega
              have hkm2 : decide (k < m) = false := by have := p5 he; simp; omega
              have e1 : (uk * sm == um * sk) = true := by rw [beq_iff_eq]; exact he
              have e2 : decide (uk * sm < um * sk) = false := by simp; omega
              have e3 : decide (0 < wk) = true := by simp [hk0]
              clear p1 p2 p3 p4 p5 he hk0
              go_wp2
              go_quiet (fail)
              go_wp2
              go_quiet (fail)
              go_wp2
              go_roundw
              case rel => exact ⟨k + 1, by omega, by go_num, _, by first | rfl | rw [World.drewN_drewN] | rw [World.drewN_drewN, World.drewN_drewN]⟩
              case measure => simp [intOf]; omega
            · have e1 : (uk * sm == um * sk) = false := by rw [beq_eq_false_iff_ne]; exact he
              have e2 : decide (uk * sm < um * sk) = false := by simp; omega
              have e3 : decide (0 < wk) = true := by simp [hk0]
              clear p1 p2 p3 p4 p5 he hk0
              go_wp2
              go_quiet (fail)
              go_wp2
              go_quiet (fail)
              go_wp2
              go_roundw
              case rel => exact ⟨k + 1, by omega, by go_num, _, by first | rfl | rw [World.drewN_drewN] | rw [World.drewN_drewN, World.drewN_drewN]⟩
              case measure => simp [intOf]; omega
          · have e3 : decide (0 < wk) = false := by simp; omega
            clear p1 p2 p3 hk0
            go_wp2
            go_quiet (fail)
            go_wp2
            go_quiet (fail)
            go_wp2
            go_roundw
            case rel => exact ⟨k + 1, by omega, by go_num, _, by first | rfl | rw [World.drewN_drewN] | rw [World.drewN_drewN, World.drewN_drewN]⟩
            case measure => simp [intOf]; omega
        · clear HA
          generalize (Bs.gu g m).waits = wm at *
          have d3 : decide (0 < wm) = true := by simp [hwm]
          go_wp2
          go_ret
          exact ⟨by first | rfl | simp [hwm], HB3.out.drewN _⟩
end Go.Proofs.Ytcoipkogfgcdeaa
