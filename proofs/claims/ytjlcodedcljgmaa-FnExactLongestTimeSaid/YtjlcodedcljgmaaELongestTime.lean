/-
  THE WALK OF laws.FnExactLongestTime.
-/
import Derived.Test.YtjlcodedcljgmaaW9
import Derived.Test.YtjlcodedcljgmaaW18
namespace Go.Proofs.Ytjlcodedcljgmaa
open Go.RowKit
theorem fnExactLongestTime_walk (A : Option Addr) (c : Nat) (g : List Bs.T) (w : World) (h : RG w 0 w.heap.size A g) (hl : g.length ≤ 9223372036854775807) :
    Calls Try.prog 10 #[.slice A g.length c] w fun e w' => e = .returned (.bool true) ∧ Below w.heap.size w w' := by
  have c1 := szTaskS_any A c g 1048576 0 w.heap.size w h (Nat.le_refl _) hl (by omega) (by omega)
  have C1 := Lib.hid c1
  clear c1
  go_enter Try.func10, Try.ntmps10
  go_wp2_with fail
  refine (C1.out).mono ?_; rintro e w1 ⟨⟨r, rfl, hr⟩, hb1⟩
  by_cases hr0 : r < 0
  · go_wp2
    go_ret
    exact ⟨rfl, by exact hb1⟩
  · obtain ⟨hg, hn⟩ : g.length ≤ 1048576 ∧ ∀ t ∈ g, t.needs.length ≤ 1048576 := by rcases hr with hr | hr; (· omega); exact hr
    have C2 := Lib.hid (fun W (hb : Below w.heap.size w W) => toTaskS_any A c g 0 w.heap.size W (h.below hb (Nat.le_refl _)) hb.size hg hn)
    clear hn hr
    go_wp2_with fail
    refine (C2.out _ hb1).mono ?_; rintro e w2 ⟨⟨rfl, hr2⟩, hb2, _⟩
    have hb02 := hb1.trans (hb2.mono hb1.size)
    have C3 := Lib.hid (LongestTimeS_any _ g.length g _ _ w2 hr2 (Nat.le_refl _) hl)
    go_wp2_with fail
    refine (C3.out).mono ?_; rintro e w3 ⟨rfl, hb3⟩
    have hb03 := hb02.trans (hb3.mono hb02.size)
    go_wp2_with fail
    refine (C2.out _ hb03).mono ?_; rintro e w4 ⟨⟨rfl, hr4⟩, hb4, _⟩
    have hb04 := hb03.trans (hb4.mono hb03.size)
    have C5 := Lib.hid (LongestTime_any _ g.length g _ _ w4 hr4 (Nat.le_refl _) hl)
    go_wp2_with fail
    refine (C5.out).mono ?_; rintro e w5 ⟨rfl, hb5⟩
    have hb05 := hb04.trans (hb5.mono hb04.size)
    have hr5 := hr4.below hb5 (Nat.le_refl _)
    have hs5 := hb5.size
    go_wp2_with fail
    refine (C2.out _ hb05).mono ?_; rintro e w6 ⟨⟨rfl, hr6⟩, hb6, _⟩
    have hb06 := hb05.trans (hb6.mono hb05.size)
    have C7 := Lib.hid (eqTaskS_any _ g.length _ g.length g _ _ _ _ w6 (hr5.below hb6 hs5) (below_size hb6 hs5) hr6 (Nat.le_refl _) hl)
    go_wp2_with fail
    refine (C7.out).mono ?_; rintro e w7 ⟨rfl, hb7⟩
    have hb07 := hb06.trans (hb7.mono hb06.size)
    go_wp2
    go_ret
    exact ⟨rfl, by exact hb07⟩
end Go.Proofs.Ytjlcodedcljgmaa
