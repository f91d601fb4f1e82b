/-
  THE WALK OF laws.FnValidDone.
-/
import Derived.Test.YtcddjgiclnnilaaX6
import Derived.Test.YtcddjgiclnnilaaRI
namespace Go.Proofs.Ytcddjgiclnnilaa
open Go.RowKit
set_option maxRecDepth 20000 in
set_option maxHeartbeats 6400000 in
theorem fnValidDone_walk (A : Option Addr) (c : Nat) (l : List Int) (w : World) (hb : RB w 0 w.heap.size A l) (hlc : l.length ≤ c ∧ c ≤ maxLen) :
    Calls Try.prog 3 #[.slice A l.length c] w fun e w' => e = .returned (.bool true) ∧ Below w.heap.size w w' := by
  have hl63 : l.length ≤ 9223372036854775807 := by have := hlc.2; unfold maxLen at this; omega
  by_cases hbig : 1048576 < l.length
  · go_enter Try.func3, Try.ntmps3
    go_wp2
    go_ret
    exact ⟨rfl, Below.refl _ _⟩
  · have C1 := Lib.hid (DrawValidDone_any A c l w hb hlc.1 hlc.2)
    clear hb
    go_enter Try.func3, Try.ntmps3
    go_wp2_with fail
    refine (C1.out).mono ?_
    rintro e w1 ⟨⟨A1, c1, g, A0, c0, d, rfl, hg, hg16, hgc, hcm, hd, hd100, hdc, hdm⟩, hb1⟩
    have HG := Lib.hid hg
    have HD := Lib.hid hd
    have s1 := hb1.size
    have hl9 : g.length ≤ 9223372036854775807 := by omega
    have hd9 : d.length ≤ 9223372036854775807 := by omega
    have c2 := fun W hg hs hd hs2 => ValidDone_any A1 c1 g A0 c0 d w.heap.size w1.heap.size w.heap.size w1.heap.size W hg hs hd hs2 hl9 hd9
    have cs := fun W hg hs hd hs2 => ValidDoneS_any A1 c1 g A0 c0 d w.heap.size w1.heap.size w.heap.size w1.heap.size W hg hs hd hs2 hl9 hd9
    have C2 := Lib.hid (c2 w1 HG.out (Nat.le_refl _) HD.out (Nat.le_refl _))
    generalize Bs.vdone g d = ok at *
    have CS := Lib.hid cs
    have HB1 := Lib.hid hb1
    clear C1 hg hd c2 cs hb1
    go_wp2_with fail
    refine (C2.out).mono ?_
    rintro e w2 ⟨rfl, hb2⟩
    have s2 := hb2.size
    have HG2 := Lib.hid (HG.out.below hb2 (Nat.le_refl _))
    have HD2 := Lib.hid (HD.out.below hb2 (Nat.le_refl _))
    have HB2 := Lib.hid (HB1.out.trans (hb2.mono s1))
    have C3 := Lib.hid (CS.out w2 HG2.out s2 HD2.out s2)
    clear hb2 C2 HG HD HB1
    go_wp2_with fail
    refine (C3.out).mono ?_
    rintro e w3 ⟨rfl, hb3⟩
    have s3 := hb3.size
    have HG3 := Lib.hid (HG2.out.below hb3 s2)
    have HD3 := Lib.hid (HD2.out.below hb3 s2)
    have HB3 := Lib.hid (HB2.out.trans (hb3.mono (Nat.le_trans s1 s2)))
    have hs3 : w1.heap.size ≤ w3.heap.size := Nat.le_trans s2 s3
    have c4 := ValidGraph_any A1 c1 g w.heap.size w1.heap.size w3 HG3.out hs3 hl9
    obtain ⟨hv, hhv⟩ : ∃ hv, hv = Bs.valid g := ⟨_, rfl⟩
    rw [← hhv] at c4
    have HHV := Lib.hid hhv
    have C4 := Lib.hid c4
    have hne : (ok != ok) = false := by simp
    have heq : (ok == ok) = true := by simp
    clear hb3 C3 c4 hhv HG2 HD2 HB2
    go_wp2_with fail
    refine (C4.out).mono ?_
    rintro e w5 ⟨rfl, hb5⟩
    have s5 := hb5.size
    have HG5 := Lib.hid (HG3.out.below hb5 hs3)
    have HD5 := Lib.hid (HD3.out.below hb5 hs3)
    have HB5 := Lib.hid (HB3.out.trans (hb5.mono (Nat.le_trans s1 hs3)))
    have hs5 : w1.heap.size ≤ w5.heap.size := Nat.le_trans hs3 s5
    clear hb5 C4 HG3 HD3 HB3
    obtain ⟨W5, rfl⟩ : ∃ W5, W5 = w5 := ⟨_, rfl⟩
    cases hv
    · have C6 := Lib.hid (CS.out W5 HG5.out hs5 HD5.out hs5)
      clear HHV CS
      go_wp2_with fail
      refine (C6.out).mono ?_
      rintro e w6 ⟨rfl, hb6⟩
      have HB6 := Lib.hid (HB5.out.trans (hb6.mono (Nat.le_trans s1 hs5)))
      clear hb6 C6
      go_wp2
      go_ret
      exact ⟨rfl, HB6.out⟩
    · have hvv : Bs.valid g = true := HHV.out.symm
      have HV0 := Lib.hid (show Bs.vdone g [] = true from by rw [Bs.vdone_nil]; exact hvv)
      have HVA := Lib.hid (Bs.vdone_all hvv)
      clear HHV CS hvv hne heq
      go_wp2
      go_loopw [6, 7] (fun v i wr => ∃ (k : Nat) (A3 : Option Addr) (c3 : Nat), k ≤ g.length ∧ i = .int .i64 (k : Int) ∧ v = .slice A3 (Bs.allL k).length c3 ∧ OI wr W5.heap.size A3 c3 (Bs.allL k) ∧ Below W5.heap.size W5 wr) (fun _ i _ => g.length - (intOf i).toNat)
      case atStart => exact ⟨0, _, _, Nat.zero_le _, rfl, rfl, OI.new _ _ (Nat.le_refl _), (Below.refl _ _).alloc (Nat.le_refl _) _⟩
      case round =>
        obtain ⟨k, A3, c3, hk, rfl, rfl, ho, hb⟩ := hrel
        have sr := hb.size
        have HBr := Lib.hid hb
        have HOr := Lib.hid ho
        have hal := Bs.allL_len k
        have hall : Bs.allL (k + 1) = Bs.allL k ++ [(k : Int)] := by unfold Bs.allL; rw [Bs.pick_succ]; rfl
        have HAL := Lib.hid hall
        have HLN := Lib.hid hal
        have hl16 : (Bs.allL k).length ≤ 16 := by omega
        clear hb ho hal hall
        by_cases hlt : k < g.length
        · have d1 : decide ((k : Int) < (g.length : Int)) = true := by simp; omega
          generalize Bs.allL k = L at *
          go_wp2_with (at_builtin; go_loud (refine push_int rfl _ _ rfl W5.heap.size A3 c3 L (k : Int) rfl (HOr.out.alloc _) wr.heap.size 1 rfl (by simp [go_sem]) (by omega) (by simp; omega) ?_; intro A5 c5 w6 ho6 hb6 _))
          go_wp2
          go_roundw
          case rel => exact ⟨k + 1, A5, c5, by omega, by go_num, by rw [HAL.out, List.length_append]; rfl, by rw [HAL.out]; exact ho6, (HBr.out.alloc sr _).trans hb6⟩
          case measure => simp [intOf]; omega
        · have hkg : k = g.length := by omega
          have d1 : decide ((k : Int) < (g.length : Int)) = false := by simp; omega
          have HV1 := Lib.hid (show Bs.vdone g (Bs.allL k) = true from by rw [hkg]; exact HVA.out)
          clear hkg HVA
          generalize Bs.allL k = L at *
          have HGr := Lib.hid (HG5.out.below HBr.out hs5)
          have c6 := ValidDone_any A1 c1 g none 0 [] w.heap.size w1.heap.size 0 0 wr HGr.out (Nat.le_trans hs5 sr) RI.nil (Nat.zero_le _) hl9 (by simp)
          rw [HV0.out] at c6
          have C6 := Lib.hid c6
          have c7 := fun W hg hs hq hs2 => ValidDone_any A1 c1 g A3 c3 L w.heap.size w1.heap.size W5.heap.size wr.heap.size W hg hs hq hs2 hl9 (by omega)
          rw [HV1.out] at c7
          have C7 := Lib.hid c7
          clear c6 c7
          go_wp2_with fail
          refine (C6.out).mono ?_
          rintro e w6 ⟨rfl, hb6⟩
          have s6 := hb6.size
          have C7 := Lib.hid (C7.out w6 (HGr.out.below hb6 (Nat.le_trans hs5 sr)) (by omega) (HOr.out.ri.below hb6 (Nat.le_refl _)) s6)
          have HB6 := Lib.hid (HBr.out.trans (hb6.mono sr))
          clear hb6 C6
          go_wp2_with fail
          refine (C7.out).mono ?_
          rintro e w7 ⟨rfl, hb7⟩
          have HB7 := Lib.hid (HB5.out.trans ((HB6.out.trans (hb7.mono (Nat.le_trans sr s6))).mono (Nat.le_trans s1 hs5)))
          clear hb7 C7
          go_wp2
          go_ret
          exact ⟨rfl, HB7.out⟩
end Go.Proofs.Ytcddjgiclnnilaa
