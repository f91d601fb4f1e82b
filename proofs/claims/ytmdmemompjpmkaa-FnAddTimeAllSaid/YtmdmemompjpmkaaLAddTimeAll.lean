/-
  THE WALK OF laws.FnAddTimeAll.
-/
import Derived.Test.YtmdmemompjpmkaaX15
import Derived.Test.YtmdmemompjpmkaaW110
import Derived.Test.YtmdmemompjpmkaaR70
import Derived.Test.YtmdmemompjpmkaaL1
namespace Go.Proofs.Ytmdmemompjpmkaa
open Go.RowKit
set_option linter.unusedVariables false
theorem eqT_q (A : Option Addr) (c : Nat) (A' : Option Addr) (c' : Nat) (l l' : List Int) (k : Nat) (lo hi lo' hi' : Nat) (w : World) (h : RI w lo hi A l) (h' : RI w lo' hi' A' l') (he : l = l') (hk : l.length = k) (hl : k ≤ 1000) (m n : Nat) :
    Calls Try.prog 19 #[.slice A k c, .slice A' k c'] (w.drewN (m + n)) fun e w'' => e = .returned (.bool true) ∧ ∃ j, w'' = w.drewN (m + j) := by
  subst he
  subst hk
  refine (equalInts_same A c A' c' l lo hi lo' hi' (w.drewN (m + n)) h h' (by omega)).mono ?_
  rintro e w' ⟨rfl, j, rfl⟩
  exact ⟨rfl, n + j, by rw [World.drewN_drewN, Nat.add_assoc]⟩
set_option maxRecDepth 20000 in
set_option maxHeartbeats 6400000 in
theorem fnAddTimeAll_walk (A : Option Addr) (c : Nat) (l : List Int) (w : World) (hb : RB w 0 w.heap.size A l) (hlc : l.length ≤ c ∧ c ≤ maxLen) :
    Calls Try.prog 6 #[.slice A l.length c] w fun e w' => e = .returned (.bool true) ∧ Below w.heap.size w w' := by
  have hl63 : l.length ≤ 9223372036854775807 := by have := hlc.2; unfold maxLen at this; omega
  by_cases hbig : 1048576 < l.length
  · go_enter Try.func6, Try.ntmps6
    go_wp2
    go_ret
    exact ⟨rfl, Below.refl _ _⟩
  · have C1 := Lib.hid (DrawAddTime_any A c l w hb hlc.1 hlc.2)
    clear hb
    go_enter Try.func6, Try.ntmps6
    go_wp2_with fail
    refine (C1.out).mono ?_
    rintro e w1 ⟨⟨A0, c0, d, t, rfl, hd, hd100, hdc, hdm⟩, hb1⟩
    have HD := Lib.hid hd
    have s1 := hb1.size
    have hd9 : d.length ≤ 9223372036854775807 := by omega
    obtain ⟨L, hL⟩ : ∃ L, L = Bs.addL d t := ⟨_, rfl⟩
    obtain ⟨ok, hok⟩ : ∃ ok, ok = Bs.addOk d t := ⟨_, rfl⟩
    have c2 := AddTime_any A0 c0 d t w.heap.size w1.heap.size w1 HD.out (Nat.le_refl _) hdc hd9
    have c3 := fun w2 hd hs => show Calls Try.prog 18 #[.slice A0 d.length c0, .int .i64 t] w2 (fun e w' => (∃ A c, e = .returned (.tuple #[.slice A (Bs.addL d t).length c, .bool (Bs.addOk d t)]) ∧ OI w' w2.heap.size A c (Bs.addL d t)) ∧ Below w2.heap.size w2 w') from AddTimeS_any A0 c0 d t w.heap.size w1.heap.size w2 hd hs hd9
    have hlen : L.length ≤ 1000 := by rw [hL]; exact Nat.le_trans (Bs.addL_len t) (by decide)
    rw [← hL, ← hok] at c2 c3
    have C2 := Lib.hid c2
    have C3 := Lib.hid c3
    have HL := Lib.hid hL
    have HOK := Lib.hid hok
    have HB1 := Lib.hid hb1
    clear C1 hd hL hok c2 c3 hb1
    go_wp2_with fail
    refine (C2.out).mono ?_
    rintro e w2 ⟨⟨A2, c2, rfl, ho2⟩, hb2⟩
    have s2 := hb2.size
    have hl2 := ho2.cap.1
    have HQ2 := Lib.hid ho2.ri
    have HD2 := Lib.hid (HD.out.below hb2 (Nat.le_refl _))
    have HB2 := Lib.hid (HB1.out.trans (hb2.mono s1))
    have C3 := Lib.hid (C3.out w2 HD2.out s2)
    clear ho2 hb2 C2 HD HB1
    go_wp2_with fail
    refine (C3.out).mono ?_
    rintro e w3 ⟨⟨A3, c3, rfl, ho3⟩, hb3⟩
    have s3 := hb3.size
    have C4 := Lib.hid (fun n => equalInts_same A2 c2 A3 c3 L _ _ _ _ (w3.drewN n) ((HQ2.out.below hb3 (Nat.le_refl _)).drewN n) (ho3.ri.drewN n) (by omega))
    have HD3 := Lib.hid (HD2.out.below hb3 s2)
    have HQ3 := Lib.hid (HQ2.out.below hb3 (Nat.le_refl _))
    have HB3 := Lib.hid (HB2.out.trans (hb3.mono (Nat.le_trans s1 s2)))
    clear ho3 hb3 C3 HQ2 HB2 HD2
    obtain ⟨W3, rfl⟩ : ∃ W3, W3 = w3 := ⟨_, rfl⟩
    have hs3 : w1.heap.size ≤ W3.heap.size := Nat.le_trans s2 s3
    go_wp2_with fail
    refine (C4.out 0).mono ?_
    rintro e w4 ⟨rfl, n0, hw4⟩
    obtain ⟨n, rfl⟩ : ∃ n, w4 = W3.drewN n := ⟨n0, hw4⟩
    clear hw4 n0
    cases ok
    · clear HL HOK HD3
      go_wp2_with fail
      refine (C4.out n).mono ?_
      rintro e w5 ⟨rfl, n5, rfl⟩
      go_wp2
      go_ret
      exact ⟨rfl, by first | exact HB3.out.drewN _ | exact (HB3.out.drewN _).drewN _⟩
    · have hok : Bs.addOk d t = true := HOK.out.symm
      have HLC := Lib.hid (show L = Bs.addC d t from by rw [HL.out]; exact Bs.addL_yes hok)
      obtain ⟨ht, ht1, ht2⟩ := Bs.addOk_iff.1 hok
      have h6 := (Bs.timesOk_iff.1 ht).1
      have HS1 := Lib.hid (show Bs.LastT t 1 L from by rw [HLC.out]; exact Bs.LastT.start hok)
      have HST := Lib.hid (fun (i : Nat) (M : List Int) (h : Bs.LastT t i M) (hi : i < 6) => h.step ht1 ht2 hi)
      have C5 := Lib.hid (fun (A7 : Option Addr) (c7 : Nat) (M : List Int) (lo hi : Nat) W (hR : RI W lo hi A7 M) (hh : hi ≤ W.heap.size) (hc : M.length ≤ c7) (h9 : M.length ≤ 9223372036854775807) => AddTime_any A7 c7 M t lo hi W hR hh hc h9)
      have HQ4 := Lib.hid (HQ3.out.drewN n)
      have HB4 := Lib.hid (HB3.out.drewN n)
      have s34 : w2.heap.size ≤ (W3.drewN n).heap.size := s3
      have s04 : w.heap.size ≤ (W3.drewN n).heap.size := Nat.le_trans s1 hs3
      clear HL HOK HLC hok ht HQ3 HB3 C4 HD3
      obtain ⟨W4, hW4⟩ : ∃ W4, W4 = W3.drewN n := ⟨_, rfl⟩
      rw [← hW4] at HQ4 HB4 s34 s04 ⊢
      clear hW4
      go_wp2
      go_loopw [5, 9] (fun v i wr => ∃ (k : Nat) (A7 : Option Addr) (c7 : Nat) (M : List Int) (lo hi : Nat), 1 ≤ k ∧ k ≤ 6 ∧ i = .int .i64 (k : Int) ∧ v = .slice A7 M.length c7 ∧ Bs.LastT t k M ∧ RI wr lo hi A7 M ∧ hi ≤ wr.heap.size ∧ M.length ≤ c7 ∧ M.length ≤ 6 ∧ Below w.heap.size w wr) (fun _ i _ => 6 - (intOf i).toNat)
      case atStart => exact ⟨1, A2, c2, L, _, _, Nat.le_refl _, by omega, rfl, rfl, HS1.out, HQ4.out, s34, hl2, (Bs.timesOk_iff.1 HS1.out.1).1, HB4.out⟩
      case round =>
        obtain ⟨k, A7, c7, M, lo, hi, hk1, hk6, rfl, rfl, hlast, hri, hhi, hmc, hm6, hbr⟩ := hrel
        have HR := Lib.hid hri
        have HB := Lib.hid hbr
        have HLT := Lib.hid hlast
        clear hri hbr hlast HS1 HQ4 HB4
        by_cases hlt : k < 6
        · have hstep := HST.out k M HLT.out hlt
          have c5 := C5.out A7 c7 M lo hi wr HR.out hhi hmc (by omega)
          rw [hstep.1, Bs.addL_yes hstep.1] at c5
          have C5a := Lib.hid c5
          have HN := Lib.hid hstep.2
          have d1 : decide ((k : Int) < 6) = true := by simp; omega
          have sr := HB.out.size
          clear c5 hstep C5 HST
          generalize Bs.addC M t = M2 at *
          go_wp2_with fail
          refine (C5a.out).mono ?_
          rintro e w6 ⟨⟨A8, c8, rfl, ho8⟩, hb8⟩
          have HB8 := Lib.hid (HB.out.trans (hb8.mono sr))
          have hc8 := ho8.cap.1
          have HR8 := Lib.hid ho8.ri
          clear ho8 hb8 C5a
          go_wp2
          go_roundw
          case rel => exact ⟨k + 1, A8, c8, M2, _, _, by omega, by omega, by go_num, rfl, HN.out, HR8.out, Nat.le_refl _, hc8, (Bs.timesOk_iff.1 HN.out.1).1, HB8.out⟩
          case measure => simp [intOf]; omega
        · obtain rfl : k = 6 := by omega
          obtain ⟨g1, g2, g3⟩ := HLT.out.done
          have HG2 := Lib.hid g2
          have c6 := EstimateOf_any A7 c7 M lo hi wr HR.out hhi (by omega)
          rw [g3] at c6
          have C6 := Lib.hid c6
          have htt : (t == t) = true := by simp
          have htn : (t != t) = false := by simp
          have HG1 := Lib.hid g1
          have z6 : ((M.length : Int) == 6) = true := beq_iff_eq.2 (by omega)
          have sr := HB.out.size
          have HB0 := Lib.hid (Below.refl wr.heap.size wr)
          clear g1 g2 g3 c6 HST C5 HLT
          obtain ⟨W8, rfl⟩ : ∃ W8, W8 = wr := ⟨_, rfl⟩
          go_wp2
          go_loop [12] (fun i => ∃ k : Nat, k ≤ M.length ∧ i = .int .i64 (k : Int)) (fun i => M.length - (intOf i).toNat)
          case atStart => exact ⟨0, Nat.zero_le _, rfl⟩
          case round =>
            obtain ⟨j, hj, rfl⟩ := hrel
            by_cases hlt2 : j < M.length
            · obtain ⟨b, o, rfl, _, _, hc⟩ := HR.out.at_ hlt2
              have hg := HG2.out j hlt2
              rw [Bs.giZ_at hlt2] at hg
              rw [hg] at hc
              have d1 : (j : Int) < (M.length : Int) := by omega
              have d0 : (0 : Int) ≤ (j : Int) := by omega
              clear hg
              go_wp2
              go_round
              case rel => exact ⟨j + 1, by omega, by go_num⟩
              case measure => simp [intOf]; omega
            · have d1 : ¬ (j : Int) < (M.length : Int) := by omega
              go_wp2_with fail
              with_reducible refine (C6.out).mono ?_
              rintro e w7 ⟨rfl, hb7⟩
              have HB7 := Lib.hid (HB.out.trans (hb7.mono sr))
              clear hb7
              go_wp2
              go_ret
              exact ⟨rfl, HB7.out⟩
end Go.Proofs.Ytmdmemompjpmkaa
