/-
  THE WALK OF laws.FnValidUsers.
-/
import Derived.Test.YtcoipkogfgcdeaaX14
import Derived.Test.YtcoipkogfgcdeaaMath83
import Derived.Test.YtcoipkogfgcdeaaR60
namespace Go.Proofs.Ytcoipkogfgcdeaa
open Go.RowKit
set_option maxRecDepth 20000 in
set_option maxHeartbeats 6400000 in
theorem fnValidUsers_walk (A : Option Addr) (c : Nat) (l : List Int) (w : World) (hb : RB w 0 w.heap.size A l) (hlc : l.length ≤ c ∧ c ≤ maxLen) :
    Calls Try.prog 3 #[.slice A l.length c] w fun e w' => e = .returned (.bool true) ∧ Below w.heap.size w w' := by
  have hl63 : l.length ≤ 9223372036854775807 := by have := hlc.2; unfold maxLen at this; omega
  by_cases hbig : 1048576 < l.length
  · go_enter Try.func3, Try.ntmps3
    go_wp2
    go_ret
    exact ⟨rfl, Below.refl _ _⟩
  · have C1 := Lib.hid (DrawValidUsers_any A c l w hb hlc.1 hlc.2)
    clear hb
    go_enter Try.func3, Try.ntmps3
    go_wp2_with fail
    refine (C1.out).mono ?_
    rintro e w1 ⟨⟨A1, c1, g, rfl, hg, hg6, hgc, hcm⟩, hb1⟩
    have HG := Lib.hid hg
    have HB1 := Lib.hid hb1
    have s1 := hb1.size
    have hl9 : g.length ≤ 9223372036854775807 := by omega
    obtain ⟨N, hN⟩ : ∃ N, N = Bs.usersOk g := ⟨_, rfl⟩
    have c2 := fun W (hb : Below w1.heap.size w1 W) => ValidUsers_any A1 c1 g w.heap.size w1.heap.size W (HG.out.below hb (Nat.le_refl _)) hb.size hl9
    have cs := fun W (hb : Below w1.heap.size w1 W) => ValidUsersS_any A1 c1 g w.heap.size w1.heap.size W (HG.out.below hb (Nat.le_refl _)) hl9
    rw [← hN] at c2 cs
    have C2 := Lib.hid (c2 w1 (Below.refl _ _))
    have CS := Lib.hid cs
    have HN := Lib.hid hN
    clear C1 hg hb1 c2 cs hN
    go_wp2_with fail
    refine (C2.out).mono ?_
    rintro e w2 ⟨rfl, hb2⟩
    have s2 := hb2.size
    have C3 := Lib.hid (CS.out w2 hb2)
    have HB2 := Lib.hid hb2
    clear hb2 C2
    go_wp2_with fail
    refine (C3.out).mono ?_
    rintro e w3 ⟨rfl, rfl⟩
    obtain ⟨w3, rfl⟩ : ∃ w3, w3 = w2 := ⟨_, rfl⟩
    have hb13 := HB2.out
    have s13 := hb13.size
    have HX := Lib.hid hb13
    have HG3 := Lib.hid (HG.out.below hb13 (Nat.le_refl _))
    have HB3 := Lib.hid (HB1.out.trans (hb13.mono s1))
    have hne : (N != N) = false := by simp
    have heq : (N == N) = true := by simp
    clear hb13 C3 HB2 HB1
    by_cases h0 : N = true ∧ 2 ≤ g.length
    rotate_left
    · have C4 := Lib.hid (CS.out w3 HX.out)
      by_cases h1 : N = true
      · subst h1
        have d1 : (g.length : Int) < 2 := by have : ¬ 2 ≤ g.length := fun h => h0 ⟨rfl, h⟩; omega
        clear CS HX HN h0
        go_wp2_with fail
        refine (C4.out).mono ?_
        rintro e _ ⟨rfl, rfl⟩
        go_wp2
        go_ret
        exact ⟨by first | rfl | simp, HB3.out⟩
      · obtain rfl : N = false := by simpa using h1
        clear CS HX HN h0 h1
        go_wp2_with fail
        refine (C4.out).mono ?_
        rintro e _ ⟨rfl, rfl⟩
        go_wp2
        go_ret
        exact ⟨by first | rfl | simp, HB3.out⟩
    · obtain ⟨rfl, h2⟩ := h0
      obtain ⟨u1, u2⟩ := users_part HN.out.symm h2
      obtain ⟨b, o, rfl, _, _, _⟩ := HG3.out.at_ (show 0 < g.length by omega)
      have e1 : (g.take (g.length - 1)).length = g.length - 1 := by rw [List.length_take]; omega
      have e2 : g.tail.length = g.length - 1 := List.length_tail
      have c4 := ValidUsers_any (some ⟨b, o, none⟩) c1 (g.take (g.length - 1)) w.heap.size w1.heap.size w3 (HG3.out.take _) s13 (by omega)
      rw [u1, e1] at c4
      have c5 := fun c' W (hb : Below w3.heap.size w3 W) => ValidUsers_any (some ⟨b, o + 3, none⟩) c' g.tail w.heap.size w1.heap.size W ((HG3.out.below hb s13).tail) (Nat.le_trans s13 hb.size) (by omega)
      rw [u2, e2] at c5
      have C4 := Lib.hid c4
      have C5 := Lib.hid c5
      have d1 : ¬ (g.length : Int) < 2 := by omega
      have hw : IntKind.i64.wrap ((g.length : Int) - 1) = ((g.length - 1 : Nat) : Int) := by rw [show (g.length : Int) - 1 = ((g.length - 1 : Nat) : Int) from by omega]; exact IntWalk.i64_in _ ⟨by omega, by omega⟩
      have f1 : ((g.length - 1 : Nat) : Int) ≤ (c1 : Int) := by omega
      have f2 : (0 : Int) ≤ ((g.length - 1 : Nat) : Int) := by omega
      have f3 : (1 : Int) ≤ (g.length : Int) := by omega
      have f4 : (g.length : Int) ≤ (c1 : Int) := by omega
      clear CS HX HN c4 c5 u1 u2 e1 e2
      go_wp2_with fail
      with_reducible refine (C4.out).mono ?_
      rintro e w4 ⟨rfl, hb4⟩
      have C6 := fun c' => Lib.hid (C5.out c' w4 hb4)
      have HB4 := Lib.hid (HB3.out.trans (hb4.mono HB3.out.size))
      clear hb4 C4 C5
      go_wp2_with fail
      with_reducible refine ((C6 _).out).mono ?_
      rintro e w5 ⟨rfl, hb5⟩
      have HB5 := Lib.hid (HB4.out.trans (hb5.mono HB4.out.size))
      clear hb5 C6
      go_wp2
      go_ret
      exact ⟨by first | rfl | simp, HB5.out⟩
end Go.Proofs.Ytcoipkogfgcdeaa
