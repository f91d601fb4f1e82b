/-
  THE WALK OF laws.FnProgressOfMore.
-/
import Derived.Test.YtmdmemompjpmkaaX15
import Derived.Test.YtmdmemompjpmkaaRI
import Derived.Test.YtmdmemompjpmkaaW111
import Derived.Test.YtmdmemompjpmkaaR71
import Derived.Test.YtmdmemompjpmkaaK7
namespace Go.Proofs.Ytmdmemompjpmkaa
open Go.RowKit
set_option linter.unusedVariables false
set_option maxRecDepth 20000 in
set_option maxHeartbeats 6400000 in
theorem fnProgressOfMore_walk (A : Option Addr) (c : Nat) (l : List Int) (w : World) (hb : RB w 0 w.heap.size A l) (hlc : l.length ≤ c ∧ c ≤ maxLen) :
    Calls Try.prog 9 #[.slice A l.length c] w fun e w' => e = .returned (.bool true) ∧ Below w.heap.size w w' := by
  have hl63 : l.length ≤ 9223372036854775807 := by have := hlc.2; unfold maxLen at this; omega
  by_cases hbig : 1048576 < l.length
  · go_enter Try.func9, Try.ntmps9
    go_wp2
    go_ret
    exact ⟨rfl, Below.refl _ _⟩
  · have C1 := Lib.hid (DrawProgressOf_any A c l w hb hlc.1 hlc.2)
    clear hb
    go_enter Try.func9, Try.ntmps9
    go_wp2_with fail
    refine (C1.out).mono ?_
    rintro e w1 ⟨⟨A1, c1, g, A0, c0, d, rfl, hg, hg16, hgc, hcm, hd, hd100, hdc, hdm⟩, hb1⟩
    have HG := Lib.hid hg
    have HD := Lib.hid hd
    have s1 := hb1.size
    have hl9 : g.length ≤ 9223372036854775807 := by omega
    have hd9 : d.length ≤ 9223372036854775807 := by omega
    have qs := fun W (hb : Below w1.heap.size w1 W) => ProgressOfS_any A1 c1 g A0 c0 d w.heap.size w1.heap.size w.heap.size w1.heap.size W (HG.out.below hb (Nat.le_refl _)) hb.size (HD.out.below hb (Nat.le_refl _)) hb.size hl9 hd9
    have q2 := ProgressOf_any A1 c1 g A0 c0 d w.heap.size w1.heap.size w.heap.size w1.heap.size w1 HG.out (Nat.le_refl _) HD.out (Nat.le_refl _) hl9 hd9
    obtain ⟨V, hV⟩ : ∃ V, V = Bs.progL g d := ⟨_, rfl⟩
    rw [← hV] at q2 qs
    have HV := Lib.hid hV
    have C2 := Lib.hid q2
    have CS := Lib.hid qs
    have HB1 := Lib.hid hb1
    have hne : (V != V) = false := by simp
    have heq : (V == V) = true := by simp
    clear C1 hg hd q2 qs hb1 hV
    go_wp2_with fail
    with_reducible refine (C2.out).mono ?_
    rintro e w2 ⟨rfl, hb2⟩
    have s2 := hb2.size
    have HX2 := Lib.hid hb2
    have HB2 := Lib.hid (HB1.out.trans (hb2.mono s1))
    clear hb2 C2
    have C4 := Lib.hid (CS.out w2 HX2.out)
    go_wp2_with fail
    with_reducible refine (C4.out).mono ?_
    rintro e W4 ⟨rfl, hb4⟩
    have HX4 := Lib.hid (HX2.out.trans (hb4.mono s2))
    have HB4 := Lib.hid (HB2.out.trans (hb4.mono (Nat.le_trans s1 s2)))
    have s4 := HX4.out.size
    have C5 := Lib.hid (CS.out W4 HX4.out)
    clear hb4 C4 CS
    by_cases hV0 : V < 0
    · clear HV
      go_wp2_with fail
      with_reducible refine (C5.out).mono ?_
      rintro e w5 ⟨rfl, hb5⟩
      have HB5 := Lib.hid (HB4.out.trans (hb5.mono (Nat.le_trans s1 s4)))
      clear hb5
      go_wp2
      go_ret
      exact ⟨rfl, HB5.out⟩
    · have hok := Bs.prog_pos (by rw [← HV.out]; exact hV0)
      clear C5
      have hVC : V = Bs.progC g d := by rw [HV.out, Bs.progL_yes hok]
      have hRC : Bs.readyL g d = Bs.readyC g d := by unfold Bs.readyL; rw [hok]; rfl
      have c5 := ReadyTasks_any A1 c1 g A0 c0 d w.heap.size w1.heap.size w.heap.size w1.heap.size W4 (HG.out.below HX4.out (Nat.le_refl _)) s4 (HD.out.below HX4.out (Nat.le_refl _)) s4 hl9 hd9
      rw [hRC] at c5
      have hfin : ∀ a ∈ Bs.readyC g d, Bs.finOk g d a = true ∧ Bs.finL g d a = Bs.finC g d a ∧ V < Bs.progL g (Bs.finC g d a) := by
        intro a ha
        have hf := Bs.finOk_iff.2 ⟨hok, ha⟩
        have h5 := (Bs.fin_law hf).2.2.2.2.1
        refine ⟨hf, by unfold Bs.finL; rw [hf]; rfl, ?_⟩
        rw [Bs.progL_yes h5, hVC]
        exact Bs.prog_fin hf
      have hrl := Bs.readyC_len g d
      have HFIN := Lib.hid (fun k (hk : k < (Bs.readyC g d).length) => hfin _ (List.getElem_mem hk))
      have C6 := Lib.hid (fun (a : Int) W (hb : Below w1.heap.size w1 W) => FinishTask_any A1 c1 g A0 c0 d a w.heap.size w1.heap.size w.heap.size w1.heap.size W (HG.out.below hb (Nat.le_refl _)) hb.size (HD.out.below hb (Nat.le_refl _)) hb.size hl9 hd9)
      have C7 := Lib.hid (fun (A7 : Option Addr) (c7 : Nat) (L : List Int) (lo hi : Nat) W (hb : Below w1.heap.size w1 W) (hL : RI W lo hi A7 L) (hh : hi ≤ W.heap.size) (hl : L.length ≤ 9223372036854775807) => ProgressOf_any A1 c1 g A7 c7 L w.heap.size w1.heap.size lo hi W (HG.out.below hb (Nat.le_refl _)) hb.size hL hh hl9 hl)
      have C5 := Lib.hid c5
      clear c5 hfin hRC hVC HV
      generalize Bs.readyC g d = R at *
      go_wp2_with fail
      with_reducible refine (C5.out).mono ?_
      rintro e w5 ⟨⟨A5, c5, rfl, ho5⟩, hb5⟩
      have s5 := hb5.size
      have HR5 := Lib.hid ho5.ri
      have HX5 := Lib.hid (HX4.out.trans (hb5.mono s4))
      have HB5 := Lib.hid (HB4.out.trans (hb5.mono (Nat.le_trans s1 s4)))
      clear ho5 hb5 C5
      go_wp2
      go_loopw [7] (fun i wr => ∃ k : Nat, k ≤ R.length ∧ i = .int .i64 k ∧ Below w5.heap.size w5 wr) (fun i _ => R.length - (intOf i).toNat)
      case atStart => exact ⟨0, Nat.zero_le _, rfl, Below.refl _ _⟩
      case round =>
        obtain ⟨k, hk, rfl, hbr⟩ := hrel
        have HXr := Lib.hid (HX5.out.trans (hbr.mono HX5.out.size))
        have HBr := Lib.hid (HB5.out.trans (hbr.mono HB5.out.size))
        have HYr := Lib.hid hbr
        have sr := hbr.size
        by_cases hlt : k < R.length
        · obtain ⟨b, o, rfl, _, _, hc⟩ := (HR5.out.below hbr (Nat.le_refl _)).at_ hlt
          have hf := HFIN.out k hlt
          have d1 : (k : Int) < (R.length : Int) := by omega
          have d0 : (0 : Int) ≤ (k : Int) := by omega
          clear hbr
          generalize R[k] = a at *
          have c6 := C6.out a wr HXr.out
          rw [hf.1, hf.2.1] at c6
          have hfl := Bs.finC_len g d a
          have f1 := hf.2.2
          have C6a := Lib.hid c6
          have C7a := Lib.hid (C7.out)
          clear c6 hf C6 C7
          generalize Bs.finC g d a = L at *
          generalize hlv : Bs.progL g L = lv at *
          have HLV := Lib.hid hlv
          clear hlv
          have d2 : decide (lv ≤ V) = false := by simp; omega
          have HF1 := Lib.hid f1
          clear f1
          go_wp2_with fail
          with_reducible refine (C6a.out).mono ?_
          rintro e w6 ⟨⟨A6, c6, rfl, ho6⟩, hb6⟩
          have s6 := hb6.size
          have c7b := C7a.out A6 c6 L _ _ w6 (HXr.out.trans (hb6.mono HXr.out.size)) ho6.ri (Nat.le_refl _) (by omega)
          rw [HLV.out] at c7b
          have C7b := Lib.hid c7b
          have HY6 := Lib.hid (HYr.out.trans (hb6.mono sr))
          clear ho6 hb6 C6a C7a c7b
          go_wp2_with fail
          with_reducible refine (C7b.out).mono ?_
          rintro e w7 ⟨rfl, hb7⟩
          have HY7 := Lib.hid (HY6.out.trans (hb7.mono HY6.out.size))
          clear hb7 C7b
          go_wp2
          go_roundw
          case rel => exact ⟨k + 1, by omega, by go_num, HY7.out⟩
          case measure => simp [intOf]; omega
        · have d1 : ¬ (k : Int) < (R.length : Int) := by omega
          clear hbr C6 C7 HFIN
          go_wp2
          go_ret
          exact ⟨rfl, HBr.out⟩
end Go.Proofs.Ytmdmemompjpmkaa
