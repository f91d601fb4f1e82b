/-
  THE WALK OF laws.FnProgressOf.
-/
import Derived.Test.YtmdmemompjpmkaaX15
import Derived.Test.YtmdmemompjpmkaaRI
import Derived.Test.YtmdmemompjpmkaaW111
import Derived.Test.YtmdmemompjpmkaaR71
namespace Go.Proofs.Ytmdmemompjpmkaa
open Go.RowKit
set_option linter.unusedVariables false
set_option maxRecDepth 20000 in
set_option maxHeartbeats 6400000 in
theorem fnProgressOf_walk (A : Option Addr) (c : Nat) (l : List Int) (w : World) (hb : RB w 0 w.heap.size A l) (hlc : l.length ≤ c ∧ c ≤ maxLen) :
    Calls Try.prog 8 #[.slice A l.length c] w fun e w' => e = .returned (.bool true) ∧ Below w.heap.size w w' := by
  have hl63 : l.length ≤ 9223372036854775807 := by have := hlc.2; unfold maxLen at this; omega
  by_cases hbig : 1048576 < l.length
  · go_enter Try.func8, Try.ntmps8
    go_wp2
    go_ret
    exact ⟨rfl, Below.refl _ _⟩
  · have C1 := Lib.hid (DrawProgressOf_any A c l w hb hlc.1 hlc.2)
    clear hb
    go_enter Try.func8, Try.ntmps8
    go_wp2_with fail
    refine (C1.out).mono ?_
    rintro e w1 ⟨⟨A1, c1, g, A0, c0, d, rfl, hg, hg16, hgc, hcm, hd, hd100, hdc, hdm⟩, hb1⟩
    have HG := Lib.hid hg
    have HD := Lib.hid hd
    have s1 := hb1.size
    have hl9 : g.length ≤ 9223372036854775807 := by omega
    have hd9 : d.length ≤ 9223372036854775807 := by omega
    have qs := fun W (hb : Below w1.heap.size w1 W) => ProgressOfS_any A1 c1 g A0 c0 d w.heap.size w1.heap.size w.heap.size w1.heap.size W (HG.out.below hb (Nat.le_refl _)) hb.size (HD.out.below hb (Nat.le_refl _)) hb.size hl9 hd9
    have q2 := ProgressOf_any A1 c1 g A0 c0 d w.heap.size w1.heap.size w.heap.size w1.heap.size w1 HG.out (Nat.le_refl _) HD.out (Nat.le_refl _) hl9 hd9
    obtain ⟨V, hV⟩ : ∃ V, V = Bs.progL g d := ⟨_, rfl⟩
    rw [← hV] at q2 qs
    have HV := Lib.hid hV
    have C2 := Lib.hid q2
    have CS := Lib.hid qs
    have HB1 := Lib.hid hb1
    have hne : (V != V) = false := by simp
    have heq : (V == V) = true := by simp
    clear C1 hg hd q2 qs hb1 hV
    go_wp2_with fail
    with_reducible refine (C2.out).mono ?_
    rintro e w2 ⟨rfl, hb2⟩
    have s2 := hb2.size
    have HX2 := Lib.hid hb2
    have HB2 := Lib.hid (HB1.out.trans (hb2.mono s1))
    clear hb2 C2
    have C4 := Lib.hid (CS.out w2 HX2.out)
    go_wp2_with fail
    with_reducible refine (C4.out).mono ?_
    rintro e W4 ⟨rfl, hb4⟩
    have HX4 := Lib.hid (HX2.out.trans (hb4.mono s2))
    have HB4 := Lib.hid (HB2.out.trans (hb4.mono (Nat.le_trans s1 s2)))
    have s4 := HX4.out.size
    have C5 := Lib.hid (CS.out W4 HX4.out)
    clear hb4 C4 CS
    by_cases hV0 : V < 0
    · clear HV
      go_wp2_with fail
      with_reducible refine (C5.out).mono ?_
      rintro e w5 ⟨rfl, hb5⟩
      have HB5 := Lib.hid (HB4.out.trans (hb5.mono (Nat.le_trans s1 s4)))
      clear hb5
      go_wp2
      go_ret
      exact ⟨rfl, HB5.out⟩
    · have hok := Bs.prog_pos (by rw [← HV.out]; exact hV0)
      clear C5
      have hvg := Bs.vdone_valid hok
      have hF := valid_fine hvg
      have hVC : V = Bs.progC g d := by rw [HV.out, Bs.progL_yes hok]
      have hz := Bs.prog_full hok
      rw [← hVC] at hz
      have hpb := Bs.prog_b (d := d) hF
      rw [← hVC] at hpb
      have p1 : decide (V ≤ 1000) = true := by simp; omega
      have c8 := fun W (hb : Below w1.heap.size w1 W) => show Calls Try.prog 27 #[.slice A1 g.length c1, .slice none 0 0] W _ from ProgressOf_any A1 c1 g none 0 [] w.heap.size w1.heap.size 0 0 W (HG.out.below hb (Nat.le_refl _)) hb.size RI.nil (Nat.zero_le _) hl9 (by simp)
      rw [Bs.progL_yes (by rw [Bs.vdone_nil]; exact hvg)] at c8
      have HPN := Lib.hid (fun h0 => Bs.prog_nil (g := g) h0)
      have C8 := Lib.hid c8
      have HZ := Lib.hid hz
      clear c8 hVC HV hz hpb hvg hF
      by_cases h0 : g.length = 0
      · have q0 : ((g.length : Int) == 0) = true := by simp [h0]
        clear h0 C8 HPN
        by_cases hz0 : V = 1000
        · have hdl : d.length = g.length := by have := HZ.out; simpa [hz0] using this.symm
          have z1 : (V == 1000) = true := by simp [hz0]
          have z2 : ((d.length : Int) == (g.length : Int)) = true := by simp [hdl]
          clear hz0 hdl
          go_wp2
          go_ret
          exact ⟨rfl, HB4.out⟩
        · have hdl : ¬ d.length = g.length := by have hz := HZ.out; intro h; rw [h] at hz; simp [hz0] at hz
          have z1 : (V == 1000) = false := by rw [beq_eq_false_iff_ne]; exact hz0
          have z2 : ((d.length : Int) == (g.length : Int)) = false := by rw [beq_eq_false_iff_ne]; omega
          clear hz0 hdl
          go_wp2
          go_ret
          exact ⟨rfl, HB4.out⟩
      · have q0 : ((g.length : Int) == 0) = false := by rw [beq_eq_false_iff_ne]; omega
        have c8 := C8.out W4 HX4.out
        rw [HPN.out h0] at c8
        have C8a := Lib.hid c8
        clear c8 C8 HPN h0
        go_wp2_with fail
        with_reducible refine (C8a.out).mono ?_
        rintro e w6 ⟨rfl, hb6⟩
        have HB6 := Lib.hid (HB4.out.trans (hb6.mono HB4.out.size))
        clear hb6 C8a
        by_cases hz0 : V = 1000
        · have hdl : d.length = g.length := by have := HZ.out; simpa [hz0] using this.symm
          have z1 : (V == 1000) = true := by simp [hz0]
          have z2 : ((d.length : Int) == (g.length : Int)) = true := by simp [hdl]
          clear hz0 hdl
          go_wp2
          go_ret
          exact ⟨rfl, HB6.out⟩
        · have hdl : ¬ d.length = g.length := by have hz := HZ.out; intro h; rw [h] at hz; simp [hz0] at hz
          have z1 : (V == 1000) = false := by rw [beq_eq_false_iff_ne]; exact hz0
          have z2 : ((d.length : Int) == (g.length : Int)) = false := by rw [beq_eq_false_iff_ne]; omega
          clear hz0 hdl
          go_wp2
          go_ret
          exact ⟨rfl, HB6.out⟩
end Go.Proofs.Ytmdmemompjpmkaa
