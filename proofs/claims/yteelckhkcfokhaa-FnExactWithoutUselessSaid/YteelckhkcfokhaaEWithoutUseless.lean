/-
  THE WALK OF laws.FnExactWithoutUseless.
-/
import Derived.Test.YteelckhkcfokhaaW9
import Derived.Test.YteelckhkcfokhaaW140
import Derived.Test.YteelckhkcfokhaaW135
import Derived.Test.YteelckhkcfokhaaR94
import Derived.Test.YteelckhkcfokhaaW139
namespace Go.Proofs.Yteelckhkcfokhaa
open Go.RowKit
set_option linter.unusedVariables false
set_option maxHeartbeats 1600000 in
theorem fnExactWithoutUseless_walk (A : Option Addr) (c : Nat) (g : List Bs.T) (w : World) (h : RG w 0 w.heap.size A g) (hl : g.length ≤ 9223372036854775807) :
    Calls Try.prog 5 #[.slice A g.length c] w fun e w' => e = .returned (.bool true) ∧ Below w.heap.size w w' := by
  have C1 := Lib.hid (szTaskS_any A c g 1048576 0 w.heap.size w h (Nat.le_refl _) hl (by omega) (by omega))
  have CS := Lib.hid (fun (A : Option Addr) (c : Nat) (lo hi : Nat) (w : World) (h : RG w lo hi A g) (hh : hi ≤ w.heap.size) => WithoutUselessS_any A c g lo hi w h hh hl)
  have CI := Lib.hid (fun (A : Option Addr) (c : Nat) (lo hi : Nat) (w : World) (h : RG w lo hi A g) (hh : hi ≤ w.heap.size) => WithoutUseless_any A c g lo hi w h hh hl)
  obtain ⟨hL, hm⟩ := Bs.wu_len1 g
  generalize Bs.wuL g = L at *
  have HM := Lib.hid hm
  clear hm
  go_enter Try.func5, Try.ntmps5
  go_wp2_with fail
  refine (C1.out).mono ?_; rintro e w1 ⟨⟨r, rfl, hr⟩, hb1⟩
  by_cases hr0 : r < 0
  · go_wp2
    go_ret
    exact ⟨rfl, by exact hb1⟩
  · obtain ⟨hg, hn⟩ : g.length ≤ 1048576 ∧ ∀ t ∈ g, t.needs.length ≤ 1048576 := by rcases hr with hr | hr; (· omega); exact hr
    have C2 := Lib.hid (fun W (hb : Below w.heap.size w W) => toTaskS_any A c g 0 w.heap.size W (h.below hb (Nat.le_refl _)) hb.size hg hn)
    have HN := Lib.hid hn
    clear hn hr
    go_wp2_with fail
    refine (C2.out _ hb1).mono ?_; rintro e w2 ⟨⟨rfl, hr2⟩, hb2, _⟩
    have hb02 := hb1.trans (hb2.mono hb1.size)
    go_wp2_with fail
    refine (CS.out _ _ _ _ w2 hr2 (Nat.le_refl _)).mono ?_; rintro e w3 hr3
    obtain ⟨A3, c3, rfl, q3, hb3⟩ := hr3.rg
    clear hr3
    have hb03 := hb02.trans (hb3.mono hb02.size)
    have s3 := hb3.size
    go_wp2_with fail
    refine (C2.out _ hb03).mono ?_; rintro e w4 ⟨⟨rfl, hr4⟩, hb4, hu4⟩
    have hb04 := hb03.trans (hb4.mono hb03.size)
    have s4 := hb4.size
    go_wp2_with fail
    refine (CI.out _ _ _ _ w4 hr4 (Nat.le_refl _)).mono ?_; rintro e w5 hr5
    obtain ⟨⟨A5, c5, rs, rfl, own5, sl5⟩, hb5⟩ := hr5
    have el5 := sl5.len
    rw [el5]
    have hb05 := hb04.trans (hb5.mono hb04.size)
    have s5 := hb5.size
    have q5 := TSc.rg own5 sl5
    have q3 := ((q3.below hb4 (Nat.le_refl _)).below hb5 s4)
    have OWN5 := Lib.hid (And.intro own5 sl5)
    clear own5 sl5 el5
    go_wp2_with fail
    refine (eqTaskS_any A5 c5 A3 c3 L _ _ _ _ w5 q5 (by omega) q3 (by omega) (by omega)).mono ?_; rintro e w6 ⟨rfl, hb6⟩
    have hb06 := hb05.trans (hb6.mono hb05.size)
    have s6 := hb6.size
    have q3 := q3.below hb6 (by omega)
    have q5 := q5.below hb6 (by omega)
    have OWN6 := Lib.hid (And.intro (OWN5.out.1.below hb6 (Nat.le_refl _)) ((OWN5.out.2.below hb6 (Nat.le_refl _)).more s6))
    have r4 := (hr4.below hb5 (Nat.le_refl _)).below hb6 (by omega)
    have b46 := hb5.trans (hb6.mono s5)
    go_wp2_with fail
    refine (C2.out _ hb06).mono ?_; rintro e w7 ⟨⟨rfl, hr7⟩, hb7, _⟩
    have hb07 := hb06.trans (hb7.mono hb06.size)
    have s7 := hb7.size
    have r4 := r4.below hb7 (by omega)
    have b47 := b46.trans (hb7.mono (by omega))
    have OWN7 := Lib.hid (And.intro (OWN6.out.1.below hb7 (Nat.le_refl _)) ((OWN6.out.2.below hb7 (Nat.le_refl _)).more s7))
    go_wp2_with fail
    refine (eqTaskS_any _ g.length _ g.length g _ _ _ _ w7 r4 (by omega) hr7 (Nat.le_refl _) hl).mono ?_; rintro e w8 ⟨rfl, hb8⟩
    have hb08 := hb07.trans (hb8.mono hb07.size)
    have s8 := hb8.size
    have r4 := r4.below hb8 (by omega)
    have b48 := b47.trans (hb8.mono (by omega))
    have q3 := (q3.below hb7 (by omega)).below hb8 (by omega)
    have q5 := (q5.below hb7 (by omega)).below hb8 (by omega)
    have OWN8 := Lib.hid (And.intro (OWN7.out.1.below hb8 (Nat.le_refl _)) ((OWN7.out.2.below hb8 (Nat.le_refl _)).more s8))
    clear OWN5 OWN6 OWN7
    go_wp2_with fail
    refine (markTaskS_g _ g.length g _ _ w8 r4 (hu4.upTo b48 (Nat.le_refl _)) HN.out hg).mono ?_; rintro e w9 ⟨⟨rk, rfl, hrk⟩, ht9⟩
    have hb09 := hb08.trans (ht9.below hb03.size)
    have s9 := Nat.le_of_eq ht9.size
    have s9' := Nat.le_of_eq ht9.size.symm
    have q3 := q3.touch_T ht9 (.inl (by omega))
    have q5 := q5.touch_T ht9 (.inr (by omega))
    have OWN9 := Lib.hid (And.intro (OWN8.out.1.touch ht9 (Nat.le_refl _)) ((OWN8.out.2.touch ht9 (Nat.le_refl _)).more s9'))
    clear OWN8
    go_wp2_with fail
    refine (eqTaskS_any A5 c5 A3 c3 L _ _ _ _ w9 q5 (by omega) q3 (by omega) (by omega)).mono ?_; rintro e w10 ⟨rfl, hb10⟩
    have hb010 := hb09.trans (hb10.mono hb09.size)
    have s10 := hb10.size
    have q3 := q3.below hb10 (by omega)
    have OWN10 := Lib.hid (And.intro (OWN9.out.1.below hb10 (Nat.le_refl _)) ((OWN9.out.2.below hb10 (Nat.le_refl _)).more s10))
    clear q5 OWN9
    obtain ⟨own10, sl10⟩ := OWN10.out
    have hm := HM.out
    have C11 := Lib.hid (markTaskT_any A5 c5 rs L _ w10 own10 sl10 (by omega) hm)
    have D11 := Lib.hid (fun lo hi W hd => heldTaskS_any A5 c5 L lo hi W hd (by omega) hm)
    clear own10 sl10 OWN10 hm
    go_wp2_with fail
    refine (C11.out).mono ?_; rintro e w11 ⟨rfl, ht11, hd⟩
    have hb011 := hb010.trans (ht11.below hb04.size)
    have s11 := Nat.le_of_eq ht11.size
    have s11' := Nat.le_of_eq ht11.size.symm
    have q3 := q3.touch_T ht11 (.inl (by omega))
    go_wp2_with fail
    refine (D11.out _ _ w11 hd).mono ?_; rintro e _ ⟨rfl, rfl⟩
    have hpre : decide ((1 : Int) + ((preT L L.length : Nat) : Int) < 0) = false := decide_eq_false (by omega)
    go_wp2_with fail
    refine (C2.out _ hb011).mono ?_; rintro e w12 ⟨⟨rfl, hr12⟩, hb12, _⟩
    have hb012 := hb011.trans (hb12.mono hb011.size)
    have s12 := hb12.size
    go_wp2_with fail
    refine (CI.out _ _ _ _ w12 hr12 (Nat.le_refl _)).mono ?_; rintro e w13 hr13
    obtain ⟨A13, c13, rfl, q13, hb13⟩ := hr13.rg
    have hb013 := hb012.trans (hb13.mono hb012.size)
    have s13 := hb13.size
    have q3 := (q3.below hb12 (by omega)).below hb13 (by omega)
    have hd := (hd.below hb12 (by omega)).below hb13 (by omega)
    clear hr13
    go_wp2_with fail
    refine (eqTaskS_any A13 c13 A3 c3 L _ _ _ _ w13 q13 (by omega) q3 (by omega) (by omega)).mono ?_; rintro e w14 ⟨rfl, hb14⟩
    have hb014 := hb013.trans (hb14.mono hb013.size)
    have hd := hd.below hb14 (by omega)
    go_wp2_with fail
    refine (D11.out _ _ w14 hd).mono ?_; rintro e _ ⟨rfl, rfl⟩
    go_wp2
    go_ret
    exact ⟨rfl, by exact hb014⟩
end Go.Proofs.Yteelckhkcfokhaa
