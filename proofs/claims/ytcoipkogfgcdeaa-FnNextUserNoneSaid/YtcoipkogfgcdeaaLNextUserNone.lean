/-
  THE WALK OF laws.FnNextUserNone.
-/
import Derived.Test.YtcoipkogfgcdeaaX14
import Derived.Test.YtcoipkogfgcdeaaMath83
import Derived.Test.YtcoipkogfgcdeaaR60
import Derived.Test.YtcoipkogfgcdeaaW104
namespace Go.Proofs.Ytcoipkogfgcdeaa
open Go.RowKit
set_option maxRecDepth 20000 in
set_option maxHeartbeats 6400000 in
theorem fnNextUserNone_walk (A : Option Addr) (c : Nat) (l : List Int) (w : World) (hb : RB w 0 w.heap.size A l) (hlc : l.length ≤ c ∧ c ≤ maxLen) :
    Calls Try.prog 5 #[.slice A l.length c] w fun e w' => e = .returned (.bool true) ∧ Below w.heap.size w w' := by
  have hl63 : l.length ≤ 9223372036854775807 := by have := hlc.2; unfold maxLen at this; omega
  by_cases hbig : 1048576 < l.length
  · go_enter Try.func5, Try.ntmps5
    go_wp2
    go_ret
    exact ⟨rfl, Below.refl _ _⟩
  · have C1 := Lib.hid (DrawNextUser_any A c l w hb hlc.1 hlc.2)
    clear hb
    go_enter Try.func5, Try.ntmps5
    go_wp2_with fail
    refine (C1.out).mono ?_
    rintro e w1 ⟨⟨A1, c1, g, rfl, hg, hg6, hgc, hcm⟩, hb1⟩
    have HG := Lib.hid hg
    have HB1 := Lib.hid hb1
    have s1 := hb1.size
    have hl9 : g.length ≤ 9223372036854775807 := by omega
    obtain ⟨N, hN⟩ : ∃ N, N = Bs.nextL g := ⟨_, rfl⟩
    have c2 := fun W (hb : Below w1.heap.size w1 W) => NextUser_any A1 c1 g w.heap.size w1.heap.size W (HG.out.below hb (Nat.le_refl _)) hb.size hl9
    have cs := fun W (hb : Below w1.heap.size w1 W) => NextUserS_any A1 c1 g w.heap.size w1.heap.size W (HG.out.below hb (Nat.le_refl _)) hb.size hl9
    rw [← hN] at c2 cs
    have C2 := Lib.hid (c2 w1 (Below.refl _ _))
    have CS := Lib.hid cs
    have HN := Lib.hid hN
    clear C1 hg hb1 c2 cs hN
    go_wp2_with fail
    refine (C2.out).mono ?_
    rintro e w2 ⟨rfl, hb2⟩
    have s2 := hb2.size
    have C3 := Lib.hid (CS.out w2 hb2)
    have HB2 := Lib.hid hb2
    clear hb2 C2
    go_wp2_with fail
    refine (C3.out).mono ?_
    rintro e w3 ⟨rfl, hb3⟩
    have hb13 := HB2.out.trans (hb3.mono s2)
    clear hb3
    have s13 := hb13.size
    have HX := Lib.hid hb13
    have HG3 := Lib.hid (HG.out.below hb13 (Nat.le_refl _))
    have HB3 := Lib.hid (HB1.out.trans (hb13.mono s1))
    have hne : (N != N) = false := by simp
    have heq : (N == N) = true := by simp
    clear hb13 C3 HB2 HB1
    have cv := ValidUsers_any A1 c1 g w.heap.size w1.heap.size w3 HG3.out s13 hl9
    have HNN := Lib.hid (fun h => none_next (g := g) h)
    have HAZ := Lib.hid (show anyW g 0 = false from rfl)
    have HAS := Lib.hid (fun k => show anyW g (k + 1) = (anyW g k || decide (0 < (Bs.gu g k).waits)) from rfl)
    obtain ⟨V, hV⟩ : ∃ V, V = Bs.usersOk g := ⟨_, rfl⟩
    rw [← hV] at cv
    have CV := Lib.hid cv
    cases V
    · clear cv hV HNN HAZ HAS
      go_wp2_with fail
      with_reducible refine (CV.out).mono ?_
      rintro e w4 ⟨rfl, hb4⟩
      have s4 := hb4.size
      have hb14 := HX.out.trans (hb4.mono s13)
      have C4 := Lib.hid (CS.out w4 hb14)
      have HB4 := Lib.hid (HB3.out.trans (hb4.mono HB3.out.size))
      clear hb4 hb14 CV CS HX HN
      go_wp2_with fail
      refine (C4.out).mono ?_
      rintro e w5 ⟨rfl, hb5⟩
      have HB5 := Lib.hid (HB4.out.trans (hb5.mono HB4.out.size))
      clear hb5 C4
      go_wp2
      go_ret
      exact ⟨by first | rfl | simp, HB5.out⟩
    · have hnn := HNN.out hV.symm
      rw [← HN.out] at hnn
      have HNX := Lib.hid hnn
      have HG4 := Lib.hid (fun W (hb : Below w3.heap.size w3 W) => HG3.out.below hb s13)
      clear cv hV HNN hnn CS HX HN
      go_wp2_with fail
      with_reducible refine (CV.out).mono ?_
      rintro e w4 ⟨rfl, hb4⟩
      have HG5 := Lib.hid (HG4.out w4 hb4)
      have HB4 := Lib.hid (HB3.out.trans (hb4.mono HB3.out.size))
      clear hb4 CV HG4
      generalize anyW g = aw at *
      go_wp2
      go_loop [5, 6] (fun v i => ∃ (k : Nat) (bb : Bool), k ≤ g.length ∧ i = .int .i64 k ∧ v = .bool bb ∧ bb = aw k) (fun _ i => g.length - (intOf i).toNat)
      case atStart => exact ⟨0, false, Nat.zero_le _, rfl, rfl, HAZ.out.symm⟩
      case round =>
        obtain ⟨k, bb, hk, rfl, rfl, hbb⟩ := hrel
        by_cases hlt : k < g.length
        · obtain ⟨b, o, rfl, _, _, q0, q1, q2⟩ := HG5.out.at_ hlt
          have has := HAS.out k
          rw [← hbb] at has
          have HS := Lib.hid has
          clear has hbb HAS HAZ HNX
          generalize (Bs.gu g k).waits = wk at *
          cases bb
          · go_wp2
            go_round
            case rel => exact ⟨k + 1, decide (0 < wk), by omega, by go_num, by first | rfl | simp, by rw [HS.out]; simp⟩
            case measure => simp [intOf]; omega
          · go_wp2
            go_round
            case rel => exact ⟨k + 1, true, by omega, by go_num, rfl, by rw [HS.out]; simp⟩
            case measure => simp [intOf]; omega
        · obtain rfl : k = g.length := by omega
          have hx := HNX.out
          rw [← hbb] at hx
          have hx2 : ((N == -1) == !bb) = true := by rw [hx]; simp
          clear hx hbb HAS HAZ HNX
          go_wp2
          go_ret
          exact ⟨by first | rfl | simp_all, HB4.out⟩
end Go.Proofs.Ytcoipkogfgcdeaa
