/-
  THE WALK OF laws.FnValidLog.
-/
import Derived.Test.YtenneicbhpjfmaaX16
import Derived.Test.YtenneicbhpjfmaaR75
import Derived.Test.YtenneicbhpjfmaaW114
import Derived.Test.YtenneicbhpjfmaaMath95
import Derived.Test.YtenneicbhpjfmaaRI
namespace Go.Proofs.Ytenneicbhpjfmaa
open Go.RowKit
set_option maxRecDepth 20000 in
set_option maxHeartbeats 6400000 in
theorem fnValidLog_walk (A : Option Addr) (c : Nat) (l : List Int) (w : World) (hb : RB w 0 w.heap.size A l) (hlc : l.length ≤ c ∧ c ≤ maxLen) :
    Calls Try.prog 3 #[.slice A l.length c] w fun e w' => e = .returned (.bool true) ∧ Below w.heap.size w w' := by
  have hl63 : l.length ≤ 9223372036854775807 := by have := hlc.2; unfold maxLen at this; omega
  by_cases hbig : 1048576 < l.length
  · go_enter Try.func3, Try.ntmps3
    go_wp2
    go_ret
    exact ⟨rfl, Below.refl _ _⟩
  · have C1 := Lib.hid (DrawValidLog_any A c l w hb hlc.1 hlc.2)
    clear hb
    go_enter Try.func3, Try.ntmps3
    go_wp2_with fail
    refine (C1.out).mono ?_
    rintro e w1 ⟨⟨A1, c1, g, A0, c0, d, rfl, hg, hg16, hgc, hcm, hd, hd100, hdc, hdm⟩, hb1⟩
    have HG := Lib.hid hg
    have HD := Lib.hid hd
    have s1 := hb1.size
    have hl9 : g.length ≤ 9223372036854775807 := by omega
    have hd9 : d.length ≤ 9223372036854775807 := by omega
    have c2 := fun W hg hs hd hs2 => ValidLog_any A1 c1 g A0 c0 d w.heap.size w1.heap.size w.heap.size w1.heap.size W hg hs hd hs2 hl9 hd9
    have cs := fun W hg hs hd hs2 => ValidLogS_any A1 c1 g A0 c0 d w.heap.size w1.heap.size w.heap.size w1.heap.size W hg hs hd hs2 hl9 hd9
    have C2 := Lib.hid (c2 w1 HG.out (Nat.le_refl _) HD.out (Nat.le_refl _))
    obtain ⟨ok, hok⟩ : ∃ ok, ok = Bs.logV g d := ⟨_, rfl⟩
    have HOK := Lib.hid hok
    rw [← hok] at C2 cs
    have CS := Lib.hid cs
    have HB1 := Lib.hid hb1
    clear C1 hg hd c2 cs hb1 hok
    go_wp2_with fail
    refine (C2.out).mono ?_
    rintro e w2 ⟨rfl, hb2⟩
    have s2 := hb2.size
    have HG2 := Lib.hid (HG.out.below hb2 (Nat.le_refl _))
    have HD2 := Lib.hid (HD.out.below hb2 (Nat.le_refl _))
    have HB2 := Lib.hid (HB1.out.trans (hb2.mono s1))
    have C3 := Lib.hid (CS.out w2 HG2.out s2 HD2.out s2)
    clear hb2 C2 HG HD HB1
    go_wp2_with fail
    refine (C3.out).mono ?_
    rintro e w3 ⟨rfl, hb3⟩
    have s3 := hb3.size
    have HG3 := Lib.hid (HG2.out.below hb3 s2)
    have HD3 := Lib.hid (HD2.out.below hb3 s2)
    have HB3 := Lib.hid (HB2.out.trans (hb3.mono (Nat.le_trans s1 s2)))
    have hs3 : w1.heap.size ≤ w3.heap.size := Nat.le_trans s2 s3
    have hne : (ok != ok) = false := by simp
    have heq : (ok == ok) = true := by simp
    have s13 : w.heap.size ≤ w3.heap.size := Nat.le_trans s1 hs3
    clear hb3 C3 HG2 HD2 HB2
    by_cases hag : ok = false ∨ d.length = 0
    · have C6 := Lib.hid (CS.out w3 HG3.out hs3 HD3.out hs3)
      rcases hag with h0 | h0
      · subst h0
        clear HOK CS
        go_wp2_with fail
        refine (C6.out).mono ?_
        rintro e w6 ⟨rfl, hb6⟩
        have HB6 := Lib.hid (HB3.out.trans (hb6.mono s13))
        clear hb6 C6
        go_wp2
        go_ret
        exact ⟨rfl, HB6.out⟩
      · have z1 : ((d.length : Int) == 0) = true := by rw [h0]; rfl
        cases ok
        all_goals
          clear HOK CS h0
          go_wp2_with fail
          refine (C6.out).mono ?_
          rintro e w6 ⟨rfl, hb6⟩
          have HB6 := Lib.hid (HB3.out.trans (hb6.mono s13))
          clear hb6 C6
          go_wp2
          go_ret
          exact ⟨rfl, HB6.out⟩
    obtain ⟨hok1, h0⟩ := not_or.1 hag
    have hokt : ok = true := by cases ok; exact absurd rfl hok1; rfl
    subst hokt
    have z1 : ((d.length : Int) == 0) = false := by rw [beq_eq_false_iff_ne]; omega
    have z1' : (d.length == 0) = false := by rw [beq_eq_false_iff_ne]; omega
    have hpos : 0 < d.length := by omega
    have HLV := Lib.hid HOK.out.symm
    clear HOK CS hne heq hag hok1
    have HV1 := Lib.hid (Bs.log_take HLV.out (d.length - 1))
    have HV0 := Lib.hid (Bs.log_nil (Bs.log_graph HLV.out))
    obtain ⟨n, hn⟩ : ∃ n, d.length = n + 1 := ⟨d.length - 1, by omega⟩
    have htl : (d.take n).length = n := by rw [List.length_take]; omega
    have c7 := ValidLog_any A1 c1 g A0 c0 (d.take n) w.heap.size w1.heap.size w.heap.size w1.heap.size w3 HG3.out hs3 (HD3.out.take n) hs3 hl9 (by omega)
    have ev : Bs.logV g (d.take n) = true := by have := HV1.out; rw [hn] at this; exact this
    rw [ev, htl] at c7
    have C7 := Lib.hid c7
    have C8 := Lib.hid (fun W (hb : Below w3.heap.size w3 W) => ValidLog_any A1 c1 g none 0 [] w.heap.size w1.heap.size 0 0 W (HG3.out.below hb hs3) (Nat.le_trans hs3 hb.size) RE.nil (Nat.zero_le _) hl9 (by simp))
    have c8 := C8.out
    rw [HV0.out] at c8
    have C9 := Lib.hid c8
    have hgl : IntKind.i64.wrap ((d.length : Int) - 1) = (n : Int) := by rw [show (d.length : Int) - 1 = (n : Int) by omega]; exact IntWalk.i64_in _ ⟨by omega, by omega⟩
    have hnc : (n : Int) ≤ (c0 : Int) := by omega
    have hnc' : n ≤ c0 := by omega
    have hn0 : (0 : Int) ≤ (n : Int) := by omega
    obtain ⟨bA, oA, hA, _, _, _⟩ := HD3.out.at_ hpos
    subst hA
    clear c7 c8 C8 HV1 HV0 HLV ev htl
    go_wp2_with fail
    refine (C7.out).mono ?_
    rintro e w7 ⟨rfl, hb7⟩
    have s7 := hb7.size
    have C10 := Lib.hid (C9.out w7 hb7)
    have HB7 := Lib.hid (HB3.out.trans (hb7.mono s13))
    clear hb7 C7 C9
    go_wp2_with fail
    refine (C10.out).mono ?_
    rintro e w8 ⟨rfl, hb8⟩
    have HB8 := Lib.hid (HB7.out.trans (hb8.mono (Nat.le_trans s13 s7)))
    clear hb8 C10
    go_wp2
    go_ret
    exact ⟨rfl, HB8.out⟩
end Go.Proofs.Ytenneicbhpjfmaa
