/-
  THE WALK OF laws.FnServeUserNone.
-/
import Derived.Test.YtcoipkogfgcdeaaX14
import Derived.Test.YtcoipkogfgcdeaaLUsers
namespace Go.Proofs.Ytcoipkogfgcdeaa
open Go.RowKit
set_option maxRecDepth 20000 in
set_option maxHeartbeats 6400000 in
theorem fnServeUserNone_walk (A : Option Addr) (c : Nat) (l : List Int) (w : World) (hb : RB w 0 w.heap.size A l) (hlc : l.length ≤ c ∧ c ≤ maxLen) :
    Calls Try.prog 8 #[.slice A l.length c] w fun e w' => e = .returned (.bool true) ∧ Below w.heap.size w w' := by
  have hl63 : l.length ≤ 9223372036854775807 := by have := hlc.2; unfold maxLen at this; omega
  by_cases hbig : 1048576 < l.length
  · go_enter Try.func8, Try.ntmps8
    go_wp2
    go_ret
    exact ⟨rfl, Below.refl _ _⟩
  · have C1 := Lib.hid (DrawServeUser_any A c l w hb hlc.1 hlc.2)
    clear hb
    go_enter Try.func8, Try.ntmps8
    go_wp2_with fail
    refine (C1.out).mono ?_
    rintro e w1 ⟨⟨A1, c1, g, a, rfl, hg, hg6, hgc, hcm⟩, hb1⟩
    have s1 := hb1.size
    have HG := Lib.hid (fun W (hb : Below w1.heap.size w1 W) => hg.below hb (Nat.le_refl _))
    have hl9 : g.length ≤ 9223372036854775807 := by omega
    have c2 := ServeUser_any A1 c1 g a w.heap.size w1.heap.size w1 hg (Nat.le_refl _) hl9
    have c3 := fun W (hb : Below w1.heap.size w1 W) => ServeUserS_any A1 c1 g a w.heap.size w1.heap.size W (HG.out W hb) hb.size hl9
    have c6 := fun W (hb : Below w1.heap.size w1 W) => NextUser_any A1 c1 g w.heap.size w1.heap.size W (HG.out W hb) hb.size hl9
    have HSN := Lib.hid (fun ha => seok_next (g := g) (a := a) ha)
    have hsl : (Bs.serL g a).length ≤ 6 := by
      unfold Bs.serL
      split
      · rw [Bs.srvL_len]; exact hg6
      · simp
    unfold RetUs at c2 c3
    have HB1 := Lib.hid hb1
    clear C1 hg hb1
    generalize Bs.serL g a = S at *
    generalize Bs.serA g a = K at *
    generalize Bs.seOk g a = B at *
    generalize Bs.nextL g = N at *
    have C2 := Lib.hid c2
    have C3 := Lib.hid c3
    have C6 := Lib.hid c6
    have k1 : (K != K) = false := by simp
    have k2 : (K == K) = true := by simp
    have k3 : (B != B) = false := by cases B <;> rfl
    have k4 : (B == B) = true := by cases B <;> rfl
    clear c2 c3 c6 HG
    go_wp2_with fail
    with_reducible refine (C2.out).mono ?_
    rintro e w2 ⟨⟨A2, c2, rfl, ho2⟩, hb2⟩
    have s2 := hb2.size
    have C4 := Lib.hid (C3.out w2 hb2)
    have HO2 := Lib.hid ho2.ru
    have HX2 := Lib.hid hb2
    clear C2 C3 ho2 hb2
    go_wp2_with fail
    with_reducible refine (C4.out).mono ?_
    rintro e w3 ⟨⟨A3, c3, rfl, ho3⟩, hb3⟩
    have s3 := hb3.size
    have HO3 := Lib.hid ho3.ru
    have HO23 := Lib.hid (HO2.out.below hb3 (Nat.le_refl _))
    have C5 := Lib.hid (fun q => equalUsers_same A2 c2 A3 c3 S _ _ _ _ (w3.drewN q) (HO23.out.drewN q) (HO3.out.drewN q) (by omega))
    have hx3 := HX2.out.trans (hb3.mono s2)
    have C7 := Lib.hid (fun q => C6.out (w3.drewN q) (hx3.drewN q))
    have HB3 := Lib.hid (HB1.out.trans (hx3.mono s1))
    have C50 := Lib.hid (show Calls Try.prog 26 #[.slice A2 S.length c2, .slice A3 S.length c3] w3 (fun e w' => e = .returned (.bool true) ∧ ∃ n, w' = w3.drewN n) from equalUsers_same A2 c2 A3 c3 S _ _ _ _ w3 HO23.out HO3.out (by omega))
    clear C4 C6 ho3 hb3 hx3 HO2 HO3 HO23 HX2 HB1
    go_wp2_with fail
    with_reducible refine (C50.out).mono ?_
    rintro e w4 ⟨rfl, n, rfl⟩
    have HB4 := Lib.hid (HB3.out.drewN n)
    have C8 := Lib.hid (C5.out n)
    have C9 := Lib.hid (C7.out n)
    have s34 := HB4.out.size
    clear C5 C7 C50 HB3
    generalize w3.drewN n = W4 at *
    by_cases h1 : a < 1
    · have d1 : decide (a < 1) = true := by simp [h1]
      clear h1 HSN
      go_wp2_with fail
      with_reducible refine (C8.out).mono ?_
      rintro e w5 ⟨rfl, n5, rfl⟩
      go_wp2
      go_ret
      exact ⟨by first | rfl | simp, HB4.out.drewN _⟩
    · by_cases h2 : 20 < a
      · have d1 : decide (a < 1) = false := by simp; omega
        have d2 : decide (20 < a) = true := by simp [h2]
        clear h1 h2 HSN
        go_wp2_with fail
        with_reducible refine (C8.out).mono ?_
        rintro e w5 ⟨rfl, n5, rfl⟩
        go_wp2
        go_ret
        exact ⟨by first | rfl | simp, HB4.out.drewN _⟩
      · have d1 : decide (a < 1) = false := by simp; omega
        have d2 : decide (20 < a) = false := by simp; omega
        have HE := Lib.hid (HSN.out ⟨by omega, by omega⟩)
        clear h1 h2 HSN
        go_wp2_with fail
        with_reducible refine (C9.out).mono ?_
        rintro e w5 ⟨rfl, hb5⟩
        have HB5 := Lib.hid (HB4.out.trans (hb5.mono s34))
        clear hb5
        go_wp2
        go_ret
        exact ⟨by rw [HE.out]; first | rfl | simp, HB5.out⟩
end Go.Proofs.Ytcoipkogfgcdeaa
