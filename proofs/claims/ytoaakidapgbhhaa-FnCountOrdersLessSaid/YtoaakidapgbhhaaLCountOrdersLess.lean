/-
  THE WALK OF laws.FnCountOrdersLess.
-/
import Derived.Test.YtoaakidapgbhhaaDrCountOrders
import Derived.Test.YtoaakidapgbhhaaK20
import Derived.Test.YtoaakidapgbhhaaW60
import Derived.Test.YtoaakidapgbhhaaR30
import Derived.Test.YtoaakidapgbhhaaOX
import Derived.Test.YtoaakidapgbhhaaMath136
import Derived.Test.YtoaakidapgbhhaaW135
namespace Go.Proofs.Ytoaakidapgbhhaa
open Go.RowKit
set_option maxRecDepth 20000 in
set_option maxHeartbeats 6400000 in
theorem fnCountOrdersLess_walk (A : Option Addr) (c : Nat) (l : List Int) (w : World) (hb : RB w 0 w.heap.size A l) (hlc : l.length ≤ c ∧ c ≤ maxLen) :
    Calls Try.prog 10 #[.slice A l.length c] w fun e w' => e = .returned (.bool true) ∧ Below w.heap.size w w' := by
  have hl63 : l.length ≤ 9223372036854775807 := by have := hlc.2; unfold maxLen at this; omega
  by_cases hbig : 1048576 < l.length
  · go_enter Try.func10, Try.ntmps10
    go_wp2
    go_ret
    exact ⟨rfl, Below.refl _ _⟩
  · have C1 := Lib.hid (DrawCountOrders_any A c l w hb hlc.1 hlc.2)
    clear hb
    go_enter Try.func10, Try.ntmps10
    go_wp2_with fail
    refine (C1.out).mono ?_
    rintro e w1 ⟨⟨A1, c1, g, rfl, hg, hg16, hgc, hcm⟩, hb1⟩
    have HG := Lib.hid hg
    have s1 := hb1.size
    have hl9 : g.length ≤ 9223372036854775807 := by omega
    have q2 := CountOrders_any A1 c1 g w.heap.size w1.heap.size w1 HG.out (Nat.le_refl _) hl9
    have qs := fun W hg hs => CountOrdersS_any A1 c1 g w.heap.size w1.heap.size W hg hs hl9
    obtain ⟨V, hV⟩ : ∃ V, V = Bs.cntC g := ⟨_, rfl⟩
    rw [← hV] at q2 qs
    have HV := Lib.hid hV
    have C2 := Lib.hid q2
    have CS := Lib.hid qs
    have HB1 := Lib.hid hb1
    have hne : (V != V) = false := by simp
    have heq : (V == V) = true := by simp
    clear C1 hg q2 qs hb1 hV
    go_wp2_with fail
    with_reducible refine (C2.out).mono ?_
    rintro e w2 ⟨rfl, hb2⟩
    have s2 := hb2.size
    have HG2 := Lib.hid (HG.out.below hb2 (Nat.le_refl _))
    have HB2 := Lib.hid (HB1.out.trans (hb2.mono s1))
    have C3 := Lib.hid (CS.out w2 HG2.out s2)
    clear hb2 C2 HG HB1
    go_wp2_with fail
    with_reducible refine (C3.out).mono ?_
    rintro e w3 ⟨rfl, hb3⟩
    have s3 := hb3.size
    have hs3 : w1.heap.size ≤ w3.heap.size := Nat.le_trans s2 s3
    have HG3 := Lib.hid (HG2.out.below hb3 s2)
    have HB3 := Lib.hid (HB2.out.trans (hb3.mono (Nat.le_trans s1 s2)))
    clear hb3 C3 HG2 HB2
    obtain ⟨W3, rfl⟩ : ∃ W3, W3 = w3 := ⟨_, rfl⟩
    by_cases h0 : V < 0
    · clear HV
      have d0 : decide (V < 0) = true := decide_eq_true h0
      have C6 := Lib.hid (CS.out W3 HG3.out hs3)
      clear CS
      go_wp2_with fail
      with_reducible refine (C6.out).mono ?_
      rintro e w6 ⟨rfl, hb6⟩
      have HB6 := Lib.hid (HB3.out.trans (hb6.mono (Nat.le_trans s1 hs3)))
      clear hb6 C6
      go_wp2
      go_ret
      exact ⟨rfl, HB6.out⟩
    · by_cases hz : g.length = 0
      · have hq0 : ((g.length : Int) == 0) = true := by simp [hz]
        have d0 : decide (V < 0) = false := decide_eq_false h0
        clear hz h0 HV
        have C6 := Lib.hid (CS.out W3 HG3.out hs3)
        clear CS
        go_wp2_with fail
        with_reducible refine (C6.out).mono ?_
        rintro e w6 ⟨rfl, hb6⟩
        have HB6 := Lib.hid (HB3.out.trans (hb6.mono (Nat.le_trans s1 hs3)))
        clear hb6 C6
        go_wp2
        go_ret
        exact ⟨rfl, HB6.out⟩
      · have hq0 : ((g.length : Int) == 0) = false := by rw [beq_eq_false_iff_ne]; omega
        obtain ⟨hv, h5, hle, heq2, h1⟩ := Bs.cnt_less HV.out h0
        have d0 : decide (V < 0) = false := decide_eq_false h0
        have hW : w.heap.size ≤ W3.heap.size := Nat.le_trans s1 hs3
        have hgl : (Bs.setN g 0 []).length = g.length := Bs.setN_len _ _ _
        have e7 : ∀ A5 c5 lo hi W, RG W lo hi A5 (Bs.setN g 0 []) → hi ≤ W.heap.size → Calls Try.prog 36 #[.slice A5 g.length c5] W fun e w' => e = .returned (.int .i64 (Bs.cntC (Bs.setN g 0 []))) ∧ Below W.heap.size W w' := by
          intro A5 c5 lo hi W hr hh
          have := CountOrders_any A5 c5 (Bs.setN g 0 []) lo hi W hr hh (by rw [hgl]; exact hl9)
          rw [hgl] at this
          exact this
        have hwl : (Bs.wuL g) = Bs.wuG g := Bs.wuL_yes hv
        have e8 : ∀ A5 c5 lo hi W, RG W lo hi A5 (Bs.wuL g) → hi ≤ W.heap.size → Calls Try.prog 36 #[.slice A5 (Bs.wuL g).length c5] W fun e w' => e = .returned (.int .i64 V) ∧ Below W.heap.size W w' := by
          intro A5 c5 lo hi W hr hh
          have := CountOrders_any A5 c5 (Bs.wuL g) lo hi W hr hh (by rw [hwl, Bs.wuG_len]; exact hl9)
          rw [hwl, heq2] at this
          rw [hwl]
          exact this
        have C7 := Lib.hid e7
        have C8 := Lib.hid e8
        have CW := Lib.hid (fun W (hb : Below W3.heap.size W3 W) => WithoutUseless_any A1 c1 g w.heap.size w1.heap.size W (HG3.out.below hb hs3) (Nat.le_trans hs3 hb.size) hl9)
        obtain ⟨b, o, rs, rfl, hbl, hrl, hrows⟩ := HG3.out.rows (by omega)
        have HCF := Lib.hid (fun j u hu => ((Below.alloc (Below.refl W3.heap.size W3) (Nat.le_refl _) (.cells #[] 29)).cell (p := ⟨b, o + j, none⟩) (show b < W3.heap.size from by omega)).trans (rows_cells hrl hrows j u hu))
        have HRO := Lib.hid hrows
        have hp1 : ([] : List RW).length + rs.length ≤ 1000000000 := by simp only [List.length_nil]; omega
        have d3 : decide (Bs.cntC (Bs.setN g 0 []) ≥ V) = true := decide_eq_true hle
        have d3b : decide (V ≤ Bs.cntC (Bs.setN g 0 [])) = true := decide_eq_true hle
        have d4 : (V == V) = true := by simp
        have hg0 : (0 : Int) < (g.length : Int) := by omega
        clear hv h5 hle heq2 h1 h0 hrows hwl e7 e8 CS HV
        generalize Bs.cntC (Bs.setN g 0 []) = K at *
        go_wp2_with (at_builtin; go_loud (refine push_rows rfl _ _ rfl W3.heap.size (some ⟨W3.heap.size, 0, none⟩) 0 [] rs rfl (OU.nil W3 W3.heap.size (Nat.le_refl _)) b o c1 (by rw [hrl]; rfl) HCF.out hp1 (by simp) ?_; intro A5 c5 w6 ho5 hb5; obtain ⟨bb, hA5, hbb, hltb, ⟨q0v, q0⟩, f0, s6, hb6, R6, B6⟩ := copiedG (i := 0) ho5 hb5 hrl HRO.out s1 hs3 (by omega) none 0 [] (Nat.le_refl _) (by omega) RI.nil; subst hA5; simp only [Nat.zero_mul, Nat.zero_add, List.length_nil] at q0 f0 R6 B6; have HR6 := Lib.hid R6; have HB6 := Lib.hid B6; clear ho5 hb5 hb6 R6 B6))
        have C9 := Lib.hid (C7.out _ c5 _ _ _ HR6.out (by simp [World.setCell]))
        have hrl2 := Nat.le_of_eq hrl
        rw [hrl] at *
        go_wp2_with fail
        with_reducible refine (C9.out).mono ?_
        rintro e w7 ⟨rfl, hb7⟩
        have HX7 := Lib.hid (HB6.out.trans (hb7.mono HB6.out.size))
        have C10 := Lib.hid (CW.out w7 HX7.out)
        clear hb7 C9 CW
        go_wp2_with fail
        with_reducible refine (C10.out).mono ?_
        rintro e w8 hr8
        obtain ⟨A8, c8, rfl, q8, hb8⟩ := hr8.rg
        have HX8 := Lib.hid (HX7.out.trans (hb8.mono HX7.out.size))
        have C11 := Lib.hid (C8.out A8 c8 _ _ w8 q8 (Nat.le_refl _))
        clear hr8 q8 hb8 C10 C8
        go_wp2_with fail
        with_reducible refine (C11.out).mono ?_
        rintro e w9 ⟨rfl, hb9⟩
        have HBZ := Lib.hid (HB3.out.trans ((HX8.out.trans (hb9.mono HX8.out.size)).mono hW))
        clear hb9 C11
        go_wp2
        go_ret
        exact ⟨rfl, HBZ.out⟩
end Go.Proofs.Ytoaakidapgbhhaa
