/-
  THE WALK OF laws.FnBusyTimeLess.
-/
import Derived.Test.YtenneicbhpjfmaaX16
import Derived.Test.YtenneicbhpjfmaaK29
import Derived.Test.YtenneicbhpjfmaaK30
import Derived.Test.YtenneicbhpjfmaaMath97
import Derived.Test.YtenneicbhpjfmaaRI
namespace Go.Proofs.Ytenneicbhpjfmaa
open Go.RowKit
set_option maxRecDepth 20000 in
set_option maxHeartbeats 6400000 in
theorem fnBusyTimeLess_walk (A : Option Addr) (c : Nat) (l : List Int) (w : World) (hb : RB w 0 w.heap.size A l) (hlc : l.length ≤ c ∧ c ≤ maxLen) :
    Calls Try.prog 13 #[.slice A l.length c] w fun e w' => e = .returned (.bool true) ∧ Below w.heap.size w w' := by
  have hl63 : l.length ≤ 9223372036854775807 := by have := hlc.2; unfold maxLen at this; omega
  by_cases hbig : 1048576 < l.length
  · go_enter Try.func13, Try.ntmps13
    go_wp2
    go_ret
    exact ⟨rfl, Below.refl _ _⟩
  · have C1 := Lib.hid (DrawBusyTime_any A c l w hb hlc.1 hlc.2)
    clear hb
    go_enter Try.func13, Try.ntmps13
    go_wp2_with fail
    refine (C1.out).mono ?_
    rintro e w1 ⟨⟨A1, c1, g, A0, c0, d, rfl, hg, hg16, hgc, hcm, hd, hd100, hdc, hdm⟩, hb1⟩
    have HG := Lib.hid hg
    have HD := Lib.hid hd
    have s1 := hb1.size
    have hl9 : g.length ≤ 9223372036854775807 := by omega
    have hd9 : d.length ≤ 9223372036854775807 := by omega
    have c2 := fun W hg hs hd hs2 => BusyTime_any A1 c1 g A0 c0 d w.heap.size w1.heap.size w.heap.size w1.heap.size W hg hs hd hs2 hl9 hd9
    have cs := fun W hg hs hd hs2 => BusyTimeS_any A1 c1 g A0 c0 d w.heap.size w1.heap.size w.heap.size w1.heap.size W hg hs hd hs2 hl9 hd9
    have C2 := Lib.hid (c2 w1 HG.out (Nat.le_refl _) HD.out (Nat.le_refl _))
    obtain ⟨N, hok⟩ : ∃ N, N = Bs.busL g d := ⟨_, rfl⟩
    have HOK := Lib.hid hok
    rw [← hok] at C2 cs
    have CI := Lib.hid (fun W hg hs hd hs2 (hd9' : (d.take (d.length - 1)).length ≤ 9223372036854775807) => BusyTime_any A1 c1 g A0 c0 (d.take (d.length - 1)) w.heap.size w1.heap.size w.heap.size w1.heap.size W hg hs hd hs2 hl9 hd9')
    have CS := Lib.hid cs
    have HB1 := Lib.hid hb1
    clear C1 hg hd c2 cs hb1 hok
    go_wp2_with fail
    refine (C2.out).mono ?_
    rintro e w2 ⟨rfl, hb2⟩
    have s2 := hb2.size
    have HG2 := Lib.hid (HG.out.below hb2 (Nat.le_refl _))
    have HD2 := Lib.hid (HD.out.below hb2 (Nat.le_refl _))
    have HB2 := Lib.hid (HB1.out.trans (hb2.mono s1))
    have C3 := Lib.hid (CS.out w2 HG2.out s2 HD2.out s2)
    clear hb2 C2 HG HD HB1
    go_wp2_with fail
    refine (C3.out).mono ?_
    rintro e w3 ⟨rfl, hb3⟩
    have s3 := hb3.size
    have HG3 := Lib.hid (HG2.out.below hb3 s2)
    have HD3 := Lib.hid (HD2.out.below hb3 s2)
    have HB3 := Lib.hid (HB2.out.trans (hb3.mono (Nat.le_trans s1 s2)))
    have hs3 : w1.heap.size ≤ w3.heap.size := Nat.le_trans s2 s3
    have s13 : w.heap.size ≤ w3.heap.size := Nat.le_trans s1 hs3
    clear hb3 C3 HG2 HD2 HB2
    have hne : (N != N) = false := by simp
    have heq : (N == N) = true := by simp
    by_cases hn : N < 0
    · have C6 := Lib.hid (CS.out w3 HG3.out hs3 HD3.out hs3)
      have e1 : decide (N < 0) = true := decide_eq_true hn
      clear HOK CS hn CI
      go_wp2_with fail
      refine (C6.out).mono ?_
      rintro e w6 ⟨rfl, hb6⟩
      have HB6 := Lib.hid (HB3.out.trans (hb6.mono s13))
      clear hb6 C6
      go_wp2
      go_ret
      exact ⟨rfl, HB6.out⟩
    have e1 : decide (N < 0) = false := decide_eq_false hn
    by_cases h0 : d.length = 0
    · have C6 := Lib.hid (CS.out w3 HG3.out hs3 HD3.out hs3)
      have z1 : ((d.length : Int) == 0) = true := by rw [h0]; rfl
      clear HOK CS hn CI h0
      go_wp2_with fail
      refine (C6.out).mono ?_
      rintro e w6 ⟨rfl, hb6⟩
      have HB6 := Lib.hid (HB3.out.trans (hb6.mono s13))
      clear hb6 C6
      go_wp2
      go_ret
      exact ⟨rfl, HB6.out⟩
    have z1 : ((d.length : Int) == 0) = false := by rw [beq_eq_false_iff_ne]; omega
    have hlv : Bs.logV g d = true := by
      cases hv : Bs.logV g d
      · have h1 := HOK.out
        rw [Bs.busL_no hv] at h1
        omega
      · rfl
    obtain ⟨n, hn1⟩ : ∃ n, d.length = n + 1 := ⟨d.length - 1, by omega⟩
    have hn2 : d.length - 1 = n := by omega
    obtain ⟨hb0, t, ht1, hbl⟩ := Bs.busy_less hlv hn1
    have htl : (d.take n).length = n := by rw [List.length_take]; omega
    have c7 := CI.out w3 HG3.out hs3 (by rw [hn2]; exact HD3.out.take n) hs3 (by rw [hn2, htl]; omega)
    rw [hn2, htl] at c7
    rw [← HOK.out] at hbl
    generalize hK : Bs.busL g (d.take n) = K at *
    have C7 := Lib.hid c7
    obtain ⟨bA, oA, hA, _, _, _, _, q2⟩ := HD3.out.at_ (k := n) (by omega)
    have HQ := Lib.hid (fun W (hb : Below w3.heap.size w3 W) => show W.cell? ⟨bA, oA + n * 3 + 2, none⟩ = some (.bool (Bs.ge d n).over) from by
      obtain ⟨bB, oB, hB, _, _, _, _, q2'⟩ := (HD3.out.below hb hs3).at_ (k := n) (by omega)
      rw [hA] at hB
      cases hB
      exact q2')
    subst hA
    generalize (Bs.ge d n).over = ov at *
    have f1 : decide (0 ≤ K) = true := decide_eq_true hb0
    have f2 : decide (K ≥ 0) = true := decide_eq_true hb0
    have f3 : decide (K < N) = ov := by cases ov <;> simp at hbl ⊢ <;> omega
    have f4 : decide (K ≤ N) = true := decide_eq_true (by rw [hbl]; split <;> omega)
    have hoo : (ov == ov) = true := by cases ov <;> rfl
    have hgl : IntKind.i64.wrap ((d.length : Int) - 1) = (n : Int) := by rw [show (d.length : Int) - 1 = (n : Int) by omega]; exact IntWalk.i64_in _ ⟨by omega, by omega⟩
    have hnc : (n : Int) ≤ (c0 : Int) := by omega
    have hnc' : n ≤ c0 := by omega
    have hn0 : (0 : Int) ≤ (n : Int) := by omega
    have hnl : (n : Int) < (d.length : Int) := by omega
    clear c7 CI CS HOK hlv hn1 hn2 htl hbl hK hb0 ht1 q2 h0 hn
    go_wp2_with fail
    refine (C7.out).mono ?_
    rintro e w7 ⟨rfl, hb7⟩
    have k2 := HQ.out w7 hb7
    have HB7 := Lib.hid (HB3.out.trans (hb7.mono s13))
    clear hb7 C7 HQ
    go_wp2
    go_ret
    exact ⟨rfl, HB7.out⟩
end Go.Proofs.Ytenneicbhpjfmaa
