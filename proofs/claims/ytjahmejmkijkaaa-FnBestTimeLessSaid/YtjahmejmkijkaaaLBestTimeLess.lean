/-
  THE WALK OF laws.FnBestTimeLess.
-/
import Derived.Test.YtjahmejmkijkaaaK26
import Derived.Test.YtjahmejmkijkaaaK25
import Derived.Test.YtjahmejmkijkaaaK23
import Derived.Test.YtjahmejmkijkaaaK14
import Derived.Test.YtjahmejmkijkaaaR34
import Derived.Test.YtjahmejmkijkaaaK5
import Derived.Test.YtjahmejmkijkaaaK28
namespace Go.Proofs.Ytjahmejmkijkaaa
open Go.RowKit
set_option maxRecDepth 20000 in
set_option maxHeartbeats 6400000 in
theorem fnBestTimeLess_walk (A : Option Addr) (c : Nat) (l : List Int) (w : World) (hb : RB w 0 w.heap.size A l) (hlc : l.length ≤ c ∧ c ≤ maxLen) :
    Calls Try.prog 8 #[.slice A l.length c] w fun e w' => e = .returned (.bool true) ∧ Below w.heap.size w w' := by
  have hl63 : l.length ≤ 9223372036854775807 := by have := hlc.2; unfold maxLen at this; omega
  by_cases hbig : 1048576 < l.length
  · go_enter Try.func8, Try.ntmps8
    go_wp2
    go_ret
    exact ⟨rfl, Below.refl _ _⟩
  · have C1 := Lib.hid (DrawBestTime_any A c l w hb hlc.1 hlc.2)
    clear hb
    go_enter Try.func8, Try.ntmps8
    go_wp2_with fail
    refine (C1.out).mono ?_
    rintro e w1 ⟨⟨A1, c1, g, A2, c2, m, wk, rfl, hg, hg16, hgc, hcm, hm, hm100, hmc, hmm⟩, hb1⟩
    have HG := Lib.hid hg
    have HM := Lib.hid hm
    have s1 := hb1.size
    have hl9 : g.length ≤ 9223372036854775807 := by omega
    have hm9 : m.length ≤ 9223372036854775807 := by omega
    have q2 := BestTime_any A1 c1 g A2 c2 m wk w.heap.size w1.heap.size w.heap.size w1.heap.size w1 HG.out (Nat.le_refl _) HM.out (Nat.le_refl _) hl9 hm9
    have qs := fun W hg hm hs => BestTimeS_any A1 c1 g A2 c2 m wk w.heap.size w1.heap.size w.heap.size w1.heap.size W hg hs hm hs hl9 hm9
    have CI := Lib.hid (fun wk' W hg hm hs => BestTime_any A1 c1 g A2 c2 m wk' w.heap.size w1.heap.size w.heap.size w1.heap.size W hg hs hm hs hl9 hm9)
    obtain ⟨V, hV⟩ : ∃ V, V = Bs.timeL g m wk := ⟨_, rfl⟩
    rw [← hV] at q2 qs
    have HV := Lib.hid hV
    have C2 := Lib.hid q2
    have CS := Lib.hid qs
    have HB1 := Lib.hid hb1
    have hne : (V != V) = false := by simp
    have heq : (V == V) = true := by simp
    clear C1 hg hm q2 qs hb1 hV
    go_wp2_with fail
    with_reducible refine (C2.out).mono ?_
    rintro e w2 ⟨rfl, hb2⟩
    have s2 := hb2.size
    have HG2 := Lib.hid (HG.out.below hb2 (Nat.le_refl _))
    have HM2 := Lib.hid (HM.out.below hb2 (Nat.le_refl _))
    have HB2 := Lib.hid (HB1.out.trans (hb2.mono s1))
    have C3 := Lib.hid (CS.out w2 HG2.out HM2.out s2)
    clear hb2 C2 HG HM HB1
    go_wp2_with fail
    with_reducible refine (C3.out).mono ?_
    rintro e w3 ⟨rfl, hb3⟩
    have s3 := hb3.size
    have hs3 : w1.heap.size ≤ w3.heap.size := Nat.le_trans s2 s3
    have HG3 := Lib.hid (HG2.out.below hb3 s2)
    have HM3 := Lib.hid (HM2.out.below hb3 s2)
    have HB3 := Lib.hid (HB2.out.trans (hb3.mono (Nat.le_trans s1 s2)))
    clear hb3 C3 HG2 HM2 HB2
    obtain ⟨W3, rfl⟩ : ∃ W3, W3 = w3 := ⟨_, rfl⟩
    by_cases h0 : V < 0
    · clear HV
      have C6 := Lib.hid (CS.out W3 HG3.out HM3.out hs3)
      clear CS
      go_wp2_with fail
      with_reducible refine (C6.out).mono ?_
      rintro e w6 ⟨rfl, hb6⟩
      have HB6 := Lib.hid (HB3.out.trans (hb6.mono (Nat.le_trans s1 hs3)))
      clear hb6 C6
      go_wp2
      go_ret
      exact ⟨rfl, HB6.out⟩
    · have hd0 : decide (V < 0) = false := by simp; omega
      by_cases hz : g.length = 0
      · have hq : ((g.length : Int) == 0) = true := by simp [hz]
        clear HV hz CI
        have C6 := Lib.hid (CS.out W3 HG3.out HM3.out hs3)
        clear CS
        go_wp2_with fail
        with_reducible refine (C6.out).mono ?_
        rintro e w6 ⟨rfl, hb6⟩
        have HB6 := Lib.hid (HB3.out.trans (hb6.mono (Nat.le_trans s1 hs3)))
        clear hb6 C6
        go_wp2
        go_ret
        exact ⟨rfl, HB6.out⟩
      · have hq : ((g.length : Int) == 0) = false := by rw [beq_eq_false_iff_ne]; omega
        have hq' : (g.length == 0) = false := by rw [beq_eq_false_iff_ne]; omega
        obtain ⟨n, hn⟩ : ∃ n, g.length = n + 1 := ⟨g.length - 1, by omega⟩
        have hltn : n < g.length := by omega
        obtain ⟨hV160, hval⟩ := Bs.time_b160 HV.out h0
        have hF := valid_fine hval
        have h8 := Bs.fine_len hF
        have htb := Bs.fine_time' hF hltn
        have hlg := Bs.less_graph hval hn
        have htl : (g.take n).length = n := by rw [List.length_take]; omega
        have HLS := Lib.hid (fun hv => Bs.time_less HV.out h0 hn hv)
        rw [time_at hltn] at HLS
        have hW : w.heap.size ≤ W3.heap.size := Nat.le_trans s1 hs3
        have c7 := BestTime_any A1 c1 (g.take n) A2 c2 m wk w.heap.size w1.heap.size w.heap.size w1.heap.size W3 (HG3.out.take n) hs3 HM3.out hs3 (by omega) hm9
        have C8 := Lib.hid (fun W (hb : Below W3.heap.size W3 W) => AllUsers_any A1 c1 g (n : Int) w.heap.size w1.heap.size W (HG3.out.below hb hs3) (Nat.le_trans hs3 hb.size) hl9)
        have hul := AllUsers_len g (n : Int)
        obtain ⟨bg, og, N, cN, hA1, _, _, q0, _, _, _, _, _, _⟩ := HG3.out n hltn
        have HT := Lib.hid (fun W (hb : Below W3.heap.size W3 W) => show W.cell? ⟨bg, og + n * 4, none⟩ = some (.int .i64 g[n].time) from by
          obtain ⟨bg', og', N', cN', hA', _, _, q0', _⟩ := (HG3.out.below hb hs3) n hltn
          rw [hA1] at hA'
          cases hA'
          exact q0')
        rw [htl] at c7
        generalize Bs.timeL (g.take n) m wk = K at *
        generalize Bs.usersA g (n : Int) = U at *
        have HLK := Lib.hid (show ¬ 0 < U.length → 0 ≤ K ∧ K ≤ V ∧ V ≤ K + g[n].time from fun hu => HLS.out (by
          have e : decide (0 < ((U.length : Nat) : Int)) = false := decide_eq_false (by omega)
          rw [e] at hlg
          simpa using hlg.symm))
        generalize g[n].time = tk at *
        have C7 := Lib.hid c7
        have hnc : (n : Int) ≤ (c1 : Int) := by omega
        have hnc' : n ≤ c1 := by omega
        have hn0 : (0 : Int) ≤ (n : Int) := by omega
        have hn1 : (n : Int) < (g.length : Int) := by omega
        have hgl : IntKind.i64.wrap ((g.length : Int) - 1) = (n : Int) := by rw [show (g.length : Int) - 1 = (n : Int) by omega]; exact IntWalk.i64_in _ ⟨by omega, by omega⟩
        subst hA1
        clear hne heq CS HV CI c7 hF hval HLS hlg htl hz q0 h8 hn
        go_wp2_with fail
        with_reducible refine (C7.out).mono ?_
        rintro e w7 ⟨rfl, hb7⟩
        have HX7 := Lib.hid hb7
        have HB7 := Lib.hid (HB3.out.trans (hb7.mono hW))
        have s7 := hb7.size
        have C9 := Lib.hid (C8.out w7 hb7)
        clear hb7 C7 C8
        go_wp2_with fail
        with_reducible refine (C9.out).mono ?_
        rintro e w8 hr8
        obtain ⟨A8, c8, rfl, q8, hb8, _, _⟩ := hr8.ri
        have HB8 := Lib.hid (HB7.out.trans (hb8.mono (Nat.le_trans hW s7)))
        have kT := HT.out w8 (HX7.out.trans (hb8.mono s7))
        clear hr8 q8 hb8 C9
        by_cases hU : 0 < U.length
        · have d1 : decide ((0 : Int) < (U.length : Int)) = true := decide_eq_true (by omega)
          have d1' : decide (0 < U.length) = true := decide_eq_true hU
          clear HLK
          go_wp2
          go_ret
          exact ⟨rfl, HB8.out⟩
        · have d1 : decide ((0 : Int) < (U.length : Int)) = false := decide_eq_false (by omega)
          have d1' : decide (0 < U.length) = false := decide_eq_false hU
          obtain ⟨k0, k1, k2⟩ := HLK.out hU
          have d2 : decide (0 ≤ K) = true := by simp [k0]
          have d2' : decide (K ≥ 0) = true := by simp [k0]
          have d3 : decide (K ≤ V) = true := by simp [k1]
          have d4 : decide (V ≤ K + tk) = true := by simp [k2]
          have hw : IntKind.i64.wrap (K + tk) = K + tk := IntWalk.i64_in _ ⟨by omega, by omega⟩
          clear HLK hU
          go_wp2
          go_ret
          exact ⟨rfl, HB8.out⟩
end Go.Proofs.Ytjahmejmkijkaaa
