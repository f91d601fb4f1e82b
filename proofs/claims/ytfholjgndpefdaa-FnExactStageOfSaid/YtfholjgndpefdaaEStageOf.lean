/-
  THE WALK OF laws.FnExactStageOf.
-/
import Derived.Test.YtfholjgndpefdaaW9
import Derived.Test.YtfholjgndpefdaaW133
namespace Go.Proofs.Ytfholjgndpefdaa
open Go.RowKit
set_option linter.unusedVariables false
set_option maxHeartbeats 1600000 in
theorem fnExactStageOf_walk (A : Option Addr) (c : Nat) (g : List Bs.T) (w : World) (h : RG w 0 w.heap.size A g) (hl : g.length ≤ 9223372036854775807) :
    Calls Try.prog 3 #[.slice A g.length c] w fun e w' => e = .returned (.bool true) ∧ Below w.heap.size w w' := by
  have C1 := Lib.hid (szTaskS_any A c g 1048576 0 w.heap.size w h (Nat.le_refl _) hl (by omega) (by omega))
  have CS := Lib.hid (fun (A : Option Addr) (c : Nat) (lo hi : Nat) (w : World) (h : RG w lo hi A g) (hh : hi ≤ w.heap.size) => StageOfS_any A c g lo hi w h hh hl)
  have CI := Lib.hid (fun (A : Option Addr) (c : Nat) (lo hi : Nat) (w : World) (h : RG w lo hi A g) (hh : hi ≤ w.heap.size) => StageOf_any A c g lo hi w h hh hl)
  have hL : ((if Bs.valid g then Bs.levC g else [])).length ≤ 1000 := StageOf_len g
  generalize (if Bs.valid g then Bs.levC g else []) = L at *
  go_enter Try.func3, Try.ntmps3
  go_wp2_with fail
  refine (C1.out).mono ?_; rintro e w1 ⟨⟨r, rfl, hr⟩, hb1⟩
  by_cases hr0 : r < 0
  · go_wp2
    go_ret
    exact ⟨rfl, by exact hb1⟩
  · obtain ⟨hg, hn⟩ : g.length ≤ 1048576 ∧ ∀ t ∈ g, t.needs.length ≤ 1048576 := by rcases hr with hr | hr; (· omega); exact hr
    have C2 := Lib.hid (fun W (hb : Below w.heap.size w W) => toTaskS_any A c g 0 w.heap.size W (h.below hb (Nat.le_refl _)) hb.size hg hn)
    have HN := Lib.hid hn
    clear hn hr
    -- the model's answer
    go_wp2_with fail
    refine (C2.out _ hb1).mono ?_; rintro e w2 ⟨⟨rfl, hr2⟩, hb2, _⟩
    have hb02 := hb1.trans (hb2.mono hb1.size)
    go_wp2_with fail
    refine (CS.out _ _ _ _ w2 hr2 (Nat.le_refl _)).mono ?_; rintro e w3 ⟨⟨A3, c3, rfl, ho3⟩, hb3⟩
    have hb03 := hb02.trans (hb3.mono hb02.size)
    have s3 := hb3.size
    -- the argument's copy, and the program's answer
    go_wp2_with fail
    refine (C2.out _ hb03).mono ?_; rintro e w4 ⟨⟨rfl, hr4⟩, hb4, hu4⟩
    have hb04 := hb03.trans (hb4.mono hb03.size)
    have s4 := hb4.size
    go_wp2_with fail
    refine (CI.out _ _ _ _ w4 hr4 (Nat.le_refl _)).mono ?_; rintro e w5 ⟨⟨A5, c5, rfl, ho5⟩, hb5⟩
    have hb05 := hb04.trans (hb5.mono hb04.size)
    have s5 := hb5.size
    have m5 := ho5.mi
    have q5 := ho5.ri
    have q3 := ((ho3.ri.below hb4 (Nat.le_refl _)).below hb5 s4)
    clear ho3 ho5
    -- they are equal
    go_wp2_with fail
    refine (eqIntS_same A5 c5 A3 c3 L _ _ _ _ w5 q5 q3 (by omega)).mono ?_; rintro e w6 ⟨rfl, hb6⟩
    have hb06 := hb05.trans (hb6.mono hb05.size)
    have s6 := hb6.size
    have q3 := q3.below hb6 (by omega)
    have q5 := q5.below hb6 (by omega)
    have m5 := m5.below hb6 (by omega)
    have r4 := (hr4.below hb5 (Nat.le_refl _)).below hb6 (by omega)
    have b46 := hb5.trans (hb6.mono s5)
    -- the argument reads as it did
    go_wp2_with fail
    refine (C2.out _ hb06).mono ?_; rintro e w7 ⟨⟨rfl, hr7⟩, hb7, _⟩
    have hb07 := hb06.trans (hb7.mono hb06.size)
    have s7 := hb7.size
    have r4 := r4.below hb7 (by omega)
    have b47 := b46.trans (hb7.mono (by omega))
    go_wp2_with fail
    refine (eqTaskS_any _ g.length _ g.length g _ _ _ _ w7 r4 (by omega) hr7 (Nat.le_refl _) hl).mono ?_; rintro e w8 ⟨rfl, hb8⟩
    have hb08 := hb07.trans (hb8.mono hb07.size)
    have s8 := hb8.size
    have r4 := r4.below hb8 (by omega)
    have b48 := b47.trans (hb8.mono (by omega))
    have q3 := (q3.below hb7 (by omega)).below hb8 (by omega)
    have q5 := (q5.below hb7 (by omega)).below hb8 (by omega)
    have m5 := (m5.below hb7 (by omega)).below hb8 (by omega)
    -- marks in the argument
    go_wp2_with fail
    refine (markTaskS_g _ g.length g _ _ w8 r4 (hu4.upTo b48 (Nat.le_refl _)) HN.out hg).mono ?_; rintro e w9 ⟨⟨rk, rfl, hrk⟩, ht9⟩
    have hb09 := hb08.trans (ht9.below hb03.size)
    have s9 := Nat.le_of_eq ht9.size
    have s9' := Nat.le_of_eq ht9.size.symm
    have q3 := q3.touch ht9 (.inl (by omega))
    have q5 := q5.touch ht9 (.inr (by omega))
    have m5 := m5.touch ht9
    go_wp2_with fail
    refine (eqIntS_same A5 c5 A3 c3 L _ _ _ _ w9 q5 q3 (by omega)).mono ?_; rintro e w10 ⟨rfl, hb10⟩
    have hb010 := hb09.trans (hb10.mono hb09.size)
    have s10 := hb10.size
    have q3 := q3.below hb10 (by omega)
    have m5 := m5.below hb10 (by omega)
    clear q5
    -- marks in the answer
    go_wp2_with fail
    refine (markIntS_any A5 L.length c5 1 _ _ w10 m5 (by omega) (by omega) (by omega)).mono ?_; rintro e w11 ⟨rfl, ht11, q5⟩
    have hb011 := hb010.trans (ht11.below hb04.size)
    have s11 := Nat.le_of_eq ht11.size
    have s11' := Nat.le_of_eq ht11.size.symm
    have q3 := q3.touch ht11 (.inl (by omega))
    go_wp2_with fail
    refine (heldIntS_any A5 L.length c5 1 _ _ w11 q5 (by omega) (by omega) (by omega)).mono ?_; rintro e _ ⟨rfl, rfl⟩
    -- a second answer
    go_wp2_with fail
    refine (C2.out _ hb011).mono ?_; rintro e w12 ⟨⟨rfl, hr12⟩, hb12, _⟩
    have hb012 := hb011.trans (hb12.mono hb011.size)
    have s12 := hb12.size
    go_wp2_with fail
    refine (CI.out _ _ _ _ w12 hr12 (Nat.le_refl _)).mono ?_; rintro e w13 ⟨⟨A13, c13, rfl, ho13⟩, hb13⟩
    have hb013 := hb012.trans (hb13.mono hb012.size)
    have s13 := hb13.size
    have q13 := ho13.ri
    have q3 := (q3.below hb12 (by omega)).below hb13 (by omega)
    have q5 := (q5.below hb12 (by omega)).below hb13 (by omega)
    clear ho13
    go_wp2_with fail
    refine (eqIntS_same A13 c13 A3 c3 L _ _ _ _ w13 q13 q3 (by omega)).mono ?_; rintro e w14 ⟨rfl, hb14⟩
    have hb014 := hb013.trans (hb14.mono hb013.size)
    have q5 := q5.below hb14 (by omega)
    go_wp2_with fail
    refine (heldIntS_any A5 L.length c5 1 _ _ w14 q5 (by omega) (by omega) (by omega)).mono ?_; rintro e _ ⟨rfl, rfl⟩
    go_wp2
    go_ret
    exact ⟨rfl, by exact hb014⟩
end Go.Proofs.Ytfholjgndpefdaa
