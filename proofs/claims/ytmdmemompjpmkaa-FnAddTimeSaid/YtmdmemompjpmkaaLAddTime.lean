/-
  THE WALK OF laws.FnAddTime.
-/
import Derived.Test.YtmdmemompjpmkaaX15
import Derived.Test.YtmdmemompjpmkaaW110
import Derived.Test.YtmdmemompjpmkaaR70
import Derived.Test.YtmdmemompjpmkaaL1
namespace Go.Proofs.Ytmdmemompjpmkaa
open Go.RowKit
set_option linter.unusedVariables false
theorem eqT_q (A : Option Addr) (c : Nat) (A' : Option Addr) (c' : Nat) (l l' : List Int) (k : Nat) (lo hi lo' hi' : Nat) (w : World) (h : RI w lo hi A l) (h' : RI w lo' hi' A' l') (he : l = l') (hk : l.length = k) (hl : k ≤ 1000) (m n : Nat) :
    Calls Try.prog 19 #[.slice A k c, .slice A' k c'] (w.drewN (m + n)) fun e w'' => e = .returned (.bool true) ∧ ∃ j, w'' = w.drewN (m + j) := by
  subst he
  subst hk
  refine (equalInts_same A c A' c' l lo hi lo' hi' (w.drewN (m + n)) h h' (by omega)).mono ?_
  rintro e w' ⟨rfl, j, rfl⟩
  exact ⟨rfl, n + j, by rw [World.drewN_drewN, Nat.add_assoc]⟩
set_option maxRecDepth 20000 in
set_option maxHeartbeats 6400000 in
theorem fnAddTime_walk (A : Option Addr) (c : Nat) (l : List Int) (w : World) (hb : RB w 0 w.heap.size A l) (hlc : l.length ≤ c ∧ c ≤ maxLen) :
    Calls Try.prog 5 #[.slice A l.length c] w fun e w' => e = .returned (.bool true) ∧ Below w.heap.size w w' := by
  have hl63 : l.length ≤ 9223372036854775807 := by have := hlc.2; unfold maxLen at this; omega
  by_cases hbig : 1048576 < l.length
  · go_enter Try.func5, Try.ntmps5
    go_wp2
    go_ret
    exact ⟨rfl, Below.refl _ _⟩
  · have C1 := Lib.hid (DrawAddTime_any A c l w hb hlc.1 hlc.2)
    clear hb
    go_enter Try.func5, Try.ntmps5
    go_wp2_with fail
    refine (C1.out).mono ?_
    rintro e w1 ⟨⟨A0, c0, d, t, rfl, hd, hd100, hdc, hdm⟩, hb1⟩
    have HD := Lib.hid hd
    have s1 := hb1.size
    have hd9 : d.length ≤ 9223372036854775807 := by omega
    obtain ⟨L, hL⟩ : ∃ L, L = Bs.addL d t := ⟨_, rfl⟩
    obtain ⟨ok, hok⟩ : ∃ ok, ok = Bs.addOk d t := ⟨_, rfl⟩
    have c2 := AddTime_any A0 c0 d t w.heap.size w1.heap.size w1 HD.out (Nat.le_refl _) hdc hd9
    have c3 := fun w2 hd hs => show Calls Try.prog 18 #[.slice A0 d.length c0, .int .i64 t] w2 (fun e w' => (∃ A c, e = .returned (.tuple #[.slice A (Bs.addL d t).length c, .bool (Bs.addOk d t)]) ∧ OI w' w2.heap.size A c (Bs.addL d t)) ∧ Below w2.heap.size w2 w') from AddTimeS_any A0 c0 d t w.heap.size w1.heap.size w2 hd hs hd9
    have hlen : L.length ≤ 1000 := by rw [hL]; exact Nat.le_trans (Bs.addL_len t) (by decide)
    rw [← hL, ← hok] at c2 c3
    have C2 := Lib.hid c2
    have C3 := Lib.hid c3
    have HL := Lib.hid hL
    have HOK := Lib.hid hok
    have HB1 := Lib.hid hb1
    clear C1 hd hL hok c2 c3 hb1
    go_wp2_with fail
    refine (C2.out).mono ?_
    rintro e w2 ⟨⟨A2, c2, rfl, ho2⟩, hb2⟩
    have s2 := hb2.size
    have hl2 := ho2.cap.1
    have HQ2 := Lib.hid ho2.ri
    have HD2 := Lib.hid (HD.out.below hb2 (Nat.le_refl _))
    have HB2 := Lib.hid (HB1.out.trans (hb2.mono s1))
    have C3 := Lib.hid (C3.out w2 HD2.out s2)
    clear ho2 hb2 C2 HD HB1
    go_wp2_with fail
    refine (C3.out).mono ?_
    rintro e w3 ⟨⟨A3, c3, rfl, ho3⟩, hb3⟩
    have s3 := hb3.size
    have C4 := Lib.hid (fun n => equalInts_same A2 c2 A3 c3 L _ _ _ _ (w3.drewN n) ((HQ2.out.below hb3 (Nat.le_refl _)).drewN n) (ho3.ri.drewN n) (by omega))
    have HD3 := Lib.hid (HD2.out.below hb3 s2)
    have HQ3 := Lib.hid (HQ2.out.below hb3 (Nat.le_refl _))
    have HB3 := Lib.hid (HB2.out.trans (hb3.mono (Nat.le_trans s1 s2)))
    clear ho3 hb3 C3 HQ2 HB2 HD2
    obtain ⟨W3, rfl⟩ : ∃ W3, W3 = w3 := ⟨_, rfl⟩
    have hs3 : w1.heap.size ≤ W3.heap.size := Nat.le_trans s2 s3
    go_wp2_with fail
    refine (C4.out 0).mono ?_
    rintro e w4 ⟨rfl, n0, hw4⟩
    obtain ⟨n, rfl⟩ : ∃ n, w4 = W3.drewN n := ⟨n0, hw4⟩
    clear hw4 n0
    cases ok
    · clear HL HOK HD3
      go_wp2_with fail
      refine (C4.out n).mono ?_
      rintro e w5 ⟨rfl, n5, rfl⟩
      go_wp2
      go_ret
      exact ⟨rfl, by first | exact HB3.out.drewN _ | exact (HB3.out.drewN _).drewN _⟩
    · have hok : Bs.addOk d t = true := HOK.out.symm
      have HLC := Lib.hid (show L = Bs.addC d t from by rw [HL.out]; exact Bs.addL_yes hok)
      obtain ⟨ht, ht1, ht2⟩ := Bs.addOk_iff.1 hok
      have h6 := (Bs.timesOk_iff.1 ht).1
      have hLl : L.length = min (d.length + 1) 6 := by rw [HLC.out]; exact Bs.addC_len t h6
      obtain ⟨hLs, hLn, hL1, hLt⟩ := Bs.addC_last (t := t) h6
      rw [← HLC.out] at hLs hLn hL1 hLt
      obtain ⟨m, hm⟩ : ∃ m, L.length = m + 1 := ⟨L.length - 1, by omega⟩
      rw [hm, Nat.add_sub_cancel] at hLs hLn hLt
      have hmL : m < L.length := by omega
      obtain ⟨b, o, rfl, _, _, hc⟩ := (HQ3.out.drewN n).at_ hmL
      rw [← Bs.giZ_at hmL, hLt] at hc
      have hcW : W3.cell? ⟨b, o + m, none⟩ = some (.int .i64 t) := hc
      clear hc
      have hw1 : IntKind.i64.wrap ((L.length : Int) - 1) = (m : Int) := by rw [show (L.length : Int) - 1 = (m : Int) from by omega]; exact IntWalk.i64_in _ ⟨by omega, by omega⟩
      have hw2 : IntKind.i64.wrap ((d.length : Int) - (m : Int)) = ((d.length - m : Nat) : Int) := by rw [show (d.length : Int) - (m : Int) = ((d.length - m : Nat) : Int) from by omega]; exact IntWalk.i64_in _ ⟨by omega, by omega⟩
      have hw3 : IntKind.i64.wrap ((d.length : Int) + 1) = (d.length : Int) + 1 := IntWalk.i64_in _ ⟨by omega, by omega⟩
      have i0 : (0 : Int) ≤ (m : Int) := by omega
      have i1 : (m : Int) < (L.length : Int) := by omega
      have hq0 : ((L.length : Int) == 0) = false := by rw [beq_eq_false_iff_ne]; omega
      have htt : (t == t) = true := by simp
      have d1 : decide ((m : Int) ≤ (d.length : Int)) = true := by simp; omega
      have HS := Lib.hid hLs
      have HLL := Lib.hid hLl
      have HM := Lib.hid hm
      by_cases h5 : d.length = 6
      · obtain ⟨b0, o0, rfl, _, _, _⟩ := HD3.out.at_ (k := 0) (by omega)
        obtain rfl : m = 5 := by omega
        have e1 : L.length = 6 := by omega
        have C9 := fun j => Lib.hid (eqT_q (some ⟨b, o, none⟩) c2 (some ⟨b0, o0 + 1, none⟩) (c0 - 1) (L.take 5) (d.drop 1) 5 _ _ _ _ W3 (HQ3.out.take 5) (HD3.out.drop 1) (by rw [HS.out, h5]) (by rw [List.length_take]; omega) (by omega) n j)
        have hc01 : ¬ c0 = 1 := by omega
        have hc02 : 1 ≤ c0 := by omega
        have hc03 : 6 ≤ c0 := by omega
        have hc05 : 5 ≤ c2 := by omega
        have z6 : ((L.length : Int) == 6) = true := beq_iff_eq.2 (by omega)
        have H5 := Lib.hid h5
        have E1 := Lib.hid e1
        clear hLs hLl hm hLt hLn HL HOK HLC hok ht C4
        rw [h5, e1] at *
        go_wp2
        go_quiet ((go_at_call 19; with_reducible exact (C9 _).out))
        go_wp2
        go_ret
        exact ⟨rfl, (HB3.out.drewN _).drewN _⟩
      · obtain rfl : m = d.length := by omega
        have hll : L.length = d.length + 1 := hm
        have C9 := fun j => Lib.hid (eqT_q (some ⟨b, o, none⟩) c2 A0 c0 (L.take d.length) d d.length _ _ _ _ W3 (HQ3.out.take _) HD3.out (by rw [HS.out, Nat.sub_self, List.drop_zero]) (by rw [List.length_take]; omega) (by omega) n j)
        have hc05 : d.length ≤ c2 := by omega
        have hq6 : ((d.length : Int) + 1 == (d.length : Int) + 1) = true := by simp
        have hm6 : (if (d.length : Int) + 1 < 6 then (d.length : Int) + 1 else 6) = (d.length : Int) + 1 := by split <;> omega
        have hd6 : (d.length : Int) + 1 ≤ 6 := by omega
        have H5 := Lib.hid h5
        clear hLs hLl hm hLt hLn HL HOK HLC hok ht C4 h5
        have HDD := Lib.hid hdc
        by_cases hk0 : d.length = 0
        · have hll1 : L.length = 1 := by omega
          have HLL2 := Lib.hid hll1
          rw [hk0] at hw1 hw2 hw3 i0 i1 d1 hc05 hcW C9
          rw [Nat.add_zero] at hcW
          rw [hll1] at hq0 i1 hw1
          rw [hll1, hk0]
          clear hq6 hm6 hd6 hll hdc hd9 hd100
          cases A0
          · by_cases hc0 : c0 = 0
            · subst hc0
              go_wp2
              go_quiet ((go_at_call 19; with_reducible exact (C9 _).out))
              go_wp2
              go_ret
              exact ⟨rfl, (HB3.out.drewN _).drewN _⟩
            · go_wp2
              go_quiet ((go_at_call 19; with_reducible exact (C9 _).out))
              go_wp2
              go_ret
              exact ⟨rfl, (HB3.out.drewN _).drewN _⟩
          · by_cases hc0 : c0 = 0
            · subst hc0
              go_wp2
              go_quiet ((go_at_call 19; with_reducible exact (C9 _).out))
              go_wp2
              go_ret
              exact ⟨rfl, (HB3.out.drewN _).drewN _⟩
            · go_wp2
              go_quiet ((go_at_call 19; with_reducible exact (C9 _).out))
              go_wp2
              go_ret
              exact ⟨rfl, (HB3.out.drewN _).drewN _⟩
        · obtain ⟨b0, o0, rfl, _, _, hcz⟩ := HD3.out.at_ (k := 0) (by omega)
          clear hcz
          have hc00 : ¬ c0 = 0 := by omega
          have hnum : d.length = 1 ∨ d.length = 2 ∨ d.length = 3 ∨ d.length = 4 ∨ d.length = 5 := by omega
          rcases hnum with hk | hk | hk | hk | hk
          all_goals
            have hll1 := hll
            rw [hk] at hll1
            simp only [Nat.reduceAdd] at hll1
            rw [hk] at hw1 hw2 hw3 i0 i1 d1 hc05 hcW C9
            rw [hll1] at hq0 i1 hw1
            rw [hll1, hk]
            have hc03 : 1 ≤ c0 := by omega
            clear hq6 hm6 hd6 hll hdc hd9 hd100 hk hll1
            go_wp2
            go_quiet ((go_at_call 19; with_reducible exact (C9 _).out))
            go_wp2
            go_ret
            exact ⟨rfl, (HB3.out.drewN _).drewN _⟩
end Go.Proofs.Ytmdmemompjpmkaa
