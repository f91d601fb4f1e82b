/-
  WALKS: who is to blame, of the program.
-/
import Derived.Test.YtlanlcdbcblfjaaW75
namespace Go.Proofs.Ytlanlcdbcblfjaa
open Go.RowKit
theorem ri_one (W : World) (x : Int) : RI (W.alloc (.cells #[.int .i64 x] 3)) W.heap.size (W.heap.size + 1) (some ⟨W.heap.size, 0, none⟩) [x] := by
  intro k hk
  obtain rfl : k = 0 := by simpa using hk
  exact ⟨W.heap.size, 0, rfl, Nat.le_refl _, by omega, (Blk.new W 3 #[.int .i64 x]).cell 0⟩
set_option maxRecDepth 20000 in
set_option maxHeartbeats 1600000 in
theorem BlamedFor_any (A : Option Addr) (c : Nat) (g : List Bs.T) (A1 : Option Addr) (c1 : Nat) (F : List Int) (a : Int) (lo hi l1 h1 : Nat) (w : World) (h : RG w lo hi A g) (hh : hi ≤ w.heap.size) (hF : RI w l1 h1 A1 F) (hh1 : h1 ≤ w.heap.size) (hl : g.length ≤ 9223372036854775807) (hFl : F.length ≤ 9223372036854775807) :
    Calls Try.prog 25 #[.slice A g.length c, .slice A1 F.length c1, .int .i64 a] w fun e w' => e = .returned (.int .i64 (Bs.blamL g F a)) ∧ Below w.heap.size w w' := by
  have q1 := canFail_any A c g A1 c1 F 8 lo hi l1 h1 w h hh hF hh1 hl hFl
  cases hc : Bs.canF g F 8
  · rw [hc] at q1
    have C1 := Lib.hid q1
    have HV := Lib.hid (Bs.blamL_no1 (a := a) hc)
    clear q1 hc h hF
    go_enter Try.func25, Try.ntmps25
    go_wp2_with fail
    with_reducible refine (C1.out).mono ?_
    rintro e w1 ⟨rfl, hb⟩
    have HB := Lib.hid hb
    clear hb
    go_wp2
    go_ret
    exact ⟨ret_int HV.out.symm, HB.out⟩
  · rw [hc] at q1
    have C1 := Lib.hid q1
    have q2 := fun W => isTask_any A g.length c a W hl
    have e2 : decide (0 ≤ a ∧ a < (g.length : Int)) = decide (0 ≤ a ∧ a ≤ (g.length : Int) - 1) := by rw [decide_eq_decide]; omega
    rw [e2] at q2
    cases ht : decide (0 ≤ a ∧ a ≤ (g.length : Int) - 1)
    · rw [ht] at q2
      have C2 := Lib.hid q2
      have HV := Lib.hid (Bs.blamL_no2 (F := F) ht)
      clear q1 q2 hc ht e2 h hF
      go_enter Try.func25, Try.ntmps25
      go_wp2_with fail
      with_reducible refine (C1.out).mono ?_
      rintro e w1 ⟨rfl, hb⟩
      have HB := Lib.hid hb
      clear hb
      go_wp2_with fail
      with_reducible refine (C2.out _).mono ?_
      rintro e w2 ⟨rfl, rfl⟩
      go_wp2
      go_ret
      exact ⟨ret_int HV.out.symm, HB.out⟩
    · rw [ht] at q2
      have C2 := Lib.hid q2
      have hv := Bs.blamL_yes hc ht
      rw [decide_eq_true_eq] at ht
      obtain ⟨m, rfl⟩ := Int.eq_ofNat_of_zero_le ht.1
      rw [Int.toNat_natCast] at hv
      have hm : m < g.length := by omega
      have hval := (Bs.canF_iff.1 hc).1
      obtain ⟨hf, hg⟩ := (Bs.valid_iff g).1 hval
      have h8 := Bs.fine_len hf
      have HV := Lib.hid (show Bs.blamL g F (m : Int) = firstI g.length (Bs.blamP g F m) from hv)
      have C3 := Lib.hid (fun W (hb : Below w.heap.size w W) => allNeedSets_any A c g lo hi W (h.below hb hh) (Nat.le_trans hh hb.size) hf)
      have C4 := Lib.hid (fun (W : World) => show Calls Try.prog 41 #[.slice (some ⟨W.heap.size, 0, none⟩) 1 1] (W.alloc (.cells #[.int .i64 (m : Int)] 3)).drew (fun e w' => e = .returned (.int .u64 (Bs.bits [(m : Int)] : Nat)) ∧ (W.alloc (.cells #[.int .i64 (m : Int)] 3)).drew = w') from setOf_any (some ⟨W.heap.size, 0, none⟩) 1 [(m : Int)] W.heap.size (W.heap.size + 1) (W.alloc (.cells #[.int .i64 (m : Int)] 3)).drew ((ri_one W m).keep fun _ _ _ => rfl) (by simp) (by intro x hx; simp at hx; omega))
      have c5 := fun W (hb : Below w.heap.size w W) => Outcomes_any A c g A1 c1 F 8 lo hi l1 h1 W (h.below hb hh) (Nat.le_trans hh hb.size) (hF.below hb hh1) (Nat.le_trans hh1 hb.size) hl hFl
      rw [Bs.outL_yes hc] at c5
      have C5 := Lib.hid c5
      have HLL := Lib.hid (Bs.outC_len g F 8)
      have hbl : Bs.bits [(m : Int)] < 256 := Bs.bits_lt _ (by intro x hx; simp at hx; omega)
      have hbt : ∀ i, (Bs.bits [(m : Int)]).testBit i = decide (i = m) := by
        intro i
        rw [Bs.bits_test _ (by intro x hx; simp at hx; omega)]
        simp only [List.contains_cons, List.contains_nil, Bool.or_false]
        rw [Bool.eq_iff_iff, beq_iff_eq, decide_eq_true_eq]
        omega
      have HBT := Lib.hid hbt
      have HSA := Lib.hid (fun ss (hS : Bs.SetsMid g (Bs.top g).length ss) => And.intro hS.len (And.intro (hS.lt m hm) (fun j => hS.all hg m hm j)))
      have HBP := Lib.hid (fun i => show Bs.blamP g F m i = (Bs.gi (Bs.outC g F 8) i == 1 && (decide (i = m) || Bs.reachB g m i)) from rfl)
      clear q1 q2 c5 hc ht e2 h hF hv hval hf hg hbt
      generalize Bs.bits [(m : Int)] = s1 at *
      generalize Bs.outC g F 8 = L at *
      generalize Bs.blamP g F m = P at *
      go_enter Try.func25, Try.ntmps25
      go_wp2_with fail
      with_reducible refine (C1.out).mono ?_
      rintro e w1 ⟨rfl, hb⟩
      have HB := Lib.hid hb
      clear hb C1
      go_wp2_with fail
      with_reducible refine (C2.out _).mono ?_
      rintro e w2 ⟨rfl, rfl⟩
      go_wp2_with fail
      with_reducible refine (C3.out _ HB.out).mono ?_
      rintro e w3 ⟨rfl, ⟨ss, hB, hS⟩, hb3⟩
      obtain ⟨hsl, hslt, hsa⟩ := HSA.out ss hS
      have hcm := (hB.cell m).trans (setsA_get (show m < ss.length by omega))
      have HB3 := Lib.hid (HB.out.trans (hb3.mono HB.out.size))
      have hw1 : w1.heap.size < w3.heap.size := hB.lt
      have HSA2 := Lib.hid hsa
      clear C2 C3 hB hS hb3 hsa HSA
      generalize ss.getD m 0 = s at *
      have hor : bits .or .u64 (s : Int) (s1 : Int) = ((s ||| s1 : Nat) : Int) := bits_or_u64_nat s s1 (by omega) (by omega)
      have hor2 : bits .or .u64 (s1 : Int) (s : Int) = ((s ||| s1 : Nat) : Int) := by rw [bits_or_u64_nat s1 s (by omega) (by omega), Nat.or_comm]
      have hs256 : s ||| s1 < 256 := Nat.or_lt_two_pow (n := 8) hslt hbl
      have HTB := Lib.hid (fun i => show (s ||| s1).testBit i = (decide (i = m) || Bs.reachB g m i) from by rw [Nat.testBit_or, HSA2.out i, HBT.out i, Bool.or_comm])
      have i0 : (0 : Int) ≤ (m : Int) := by omega
      have i1 : (m : Int) < (g.length : Int) := by omega
      go_wp2_with fail
      go_region_law (go_simp; (go_at_call 41; (with_reducible refine (C4.out w3).mono ?_); rintro e w4 ⟨rfl, rfl⟩))
      all_goals
        have HB4 := Lib.hid (show Below w.heap.size w (w3.alloc (.cells #[.int .i64 (m : Int)] 3)).drew from (HB3.out.alloc HB3.out.size _).drewN 1)
        have C6 := Lib.hid (C5.out _ HB4.out)
        have C7 := Lib.hid (fun i (hi : i < 8) W => hasTask_any (s ||| s1) i W hs256 hi)
        clear C4 C5 hcm hor hor2
        go_wp2_with fail
        with_reducible refine (C6.out).mono ?_
        rintro e w5 ⟨⟨A5, c5, rfl, ho5⟩, hb5⟩
        have HR := Lib.hid ho5.ri
        have HB5 := Lib.hid (HB4.out.trans (hb5.mono HB4.out.size))
        clear ho5 hb5 C6 HB4
        go_wp2
        go_loop [35] (fun i => ∃ k : Nat, k ≤ L.length ∧ i = .int .i64 k ∧ ∀ j, j < k → P j = false) (fun i => L.length - (intOf i).toNat)
        case atStart => exact ⟨0, Nat.zero_le _, rfl, by intro j hj; omega⟩
        case round =>
          obtain ⟨k, hk, rfl, hno⟩ := hrel
          by_cases hlt : k < L.length
          · obtain ⟨b, o, rfl, _, _, hcell⟩ := HR.out.at_ hlt
            have hp := HBP.out k
            rw [Bs.gi_at hlt] at hp
            have hk8 : k < 8 := by have := HLL.out; omega
            have C8 := Lib.hid (C7.out k hk8)
            rw [HTB.out k] at C8
            have HNO := Lib.hid hno
            have HYES := Lib.hid (fun (h : P k = true) => show Bs.blamL g F (m : Int) = (k : Int) from by rw [HV.out, firstI_yes (by have := HLL.out; omega) hno h])
            have HP := Lib.hid hp
            have d1 : (k : Int) < (L.length : Int) := by omega
            clear hno hp
            generalize L[k] = x at *
            generalize (decide (k = m) || Bs.reachB g m k) = q at *
            have goOn : P k = false → ∀ j, j < k + 1 → P j = false := by
              intro h j hj
              by_cases e : j = k
              · subst e; exact h
              · exact HNO.out j (by omega)
            by_cases hx : x = 1
            · subst hx
              cases q
              · have HN := Lib.hid (goOn (by rw [HP.out]; rfl))
                clear goOn
                go_wp2_with fail
                with_reducible refine (C8.out _).mono ?_
                rintro e _ ⟨rfl, rfl⟩
                go_wp2
                go_round
                case rel => exact ⟨k + 1, by omega, by go_num, HN.out⟩
                case measure => simp [intOf]; omega
              · have HY := Lib.hid (HYES.out (by rw [HP.out]; rfl))
                clear goOn
                go_wp2_with fail
                with_reducible refine (C8.out _).mono ?_
                rintro e _ ⟨rfl, rfl⟩
                go_wp2
                go_ret
                exact ⟨ret_int HY.out.symm, HB5.out⟩
            · have hxe : (x == 1) = false := by simpa using hx
              have HN := Lib.hid (goOn (by rw [HP.out, hxe]; rfl))
              clear goOn hx
              go_wp2
              go_round
              case rel => exact ⟨k + 1, by omega, by go_num, HN.out⟩
              case measure => simp [intOf]; omega
          · have HN := Lib.hid (show Bs.blamL g F (m : Int) = -1 from by rw [HV.out, firstI_no (fun j hj => hno j (by have := HLL.out; omega))])
            clear hno
            go_wp2
            go_ret
            exact ⟨ret_int HN.out.symm, HB5.out⟩
end Go.Proofs.Ytlanlcdbcblfjaa
