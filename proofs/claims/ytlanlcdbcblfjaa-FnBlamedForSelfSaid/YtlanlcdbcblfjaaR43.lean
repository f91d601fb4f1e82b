/-
  WALKS: who is to blame, of the model.
-/
import Derived.Test.YtlanlcdbcblfjaaR41
import Derived.Test.YtlanlcdbcblfjaaK5
namespace Go.Proofs.Ytlanlcdbcblfjaa
open Go.RowKit
set_option maxHeartbeats 1600000 in
theorem BlamedForS_any (A : Option Addr) (c : Nat) (g : List Bs.T) (A1 : Option Addr) (c1 : Nat) (F : List Int) (a : Int) (lo hi l1 h1 : Nat) (w : World) (h : RG w lo hi A g) (hh : hi ≤ w.heap.size) (hF : RI w l1 h1 A1 F) (hh1 : h1 ≤ w.heap.size) (hl : g.length ≤ 9223372036854775807) (hFl : F.length ≤ 9223372036854775807) :
    Calls Try.prog 26 #[.slice A g.length c, .slice A1 F.length c1, .int .i64 a] w fun e w' => e = .returned (.int .i64 (Bs.blamL g F a)) ∧ Below w.heap.size w w' := by
  have q1 := validFailsS_any A c g A1 c1 F lo hi l1 h1 w h hh hF hh1 hl hFl
  have q2 := fun W => inRange_any a 0 ((g.length : Int) - 1) W
  have hwl : IntKind.i64.wrap ((g.length : Int) - 1) = (g.length : Int) - 1 := IntWalk.i64_in _ ⟨by omega, by omega⟩
  have he : Bs.canF g F 8 = (Bs.valid g && Bs.inG g F && decide ((1 : Int) ≤ 8 ∧ (8 : Int) ≤ 8)) := rfl
  rw [show decide ((1 : Int) ≤ 8 ∧ (8 : Int) ≤ 8) = true from rfl, Bool.and_true] at he
  rw [← he] at q1
  cases hc : Bs.canF g F 8
  · rw [hc] at q1
    have C1 := Lib.hid q1
    have HV := Lib.hid (Bs.blamL_no1 (a := a) hc)
    clear q1 q2 he hc h hF
    go_enter Try.func26, Try.ntmps26
    go_wp2_with fail
    with_reducible refine (C1.out).mono ?_
    rintro e w1 ⟨rfl, hb⟩
    have HB := Lib.hid hb
    clear hb
    go_wp2
    go_ret
    exact ⟨ret_int HV.out.symm, HB.out⟩
  · rw [hc] at q1
    have C1 := Lib.hid q1
    cases ht : decide (0 ≤ a ∧ a ≤ (g.length : Int) - 1)
    · rw [ht] at q2
      have C2 := Lib.hid q2
      have HV := Lib.hid (Bs.blamL_no2 (F := F) ht)
      clear q1 q2 he hc ht h hF
      go_enter Try.func26, Try.ntmps26
      go_wp2_with fail
      with_reducible refine (C1.out).mono ?_
      rintro e w1 ⟨rfl, hb⟩
      have HB := Lib.hid hb
      clear hb
      go_wp2_with fail
      with_reducible refine (C2.out _).mono ?_
      rintro e w2 ⟨rfl, rfl⟩
      go_wp2
      go_ret
      exact ⟨ret_int HV.out.symm, HB.out⟩
    · rw [ht] at q2
      have C2 := Lib.hid q2
      have hv := Bs.blamL_yes hc ht
      rw [decide_eq_true_eq] at ht
      obtain ⟨m, rfl⟩ := Int.eq_ofNat_of_zero_le ht.1
      rw [Int.toNat_natCast] at hv
      have hm : m < g.length := by omega
      have hval := (Bs.canF_iff.1 hc).1
      obtain ⟨hf, hg⟩ := (Bs.valid_iff g).1 hval
      have h8 := Bs.fine_len hf
      have HV := Lib.hid (show Bs.blamL g F (m : Int) = firstI g.length (Bs.blamP g F m) from hv)
      have C3 := Lib.hid (fun W (hb : Below w.heap.size w W) => outcomeS_any A c g A1 c1 F 8 lo hi l1 h1 W (h.below hb hh) (Nat.le_trans hh hb.size) (hF.below hb hh1) (Nat.le_trans hh1 hb.size) hFl hval)
      have C4 := Lib.hid (fun W (hb : Below w.heap.size w W) => allNeedsS_any A c g m lo hi W (h.below hb hh) (Nat.le_trans hh hb.size) hf hg hm)
      have HLL := Lib.hid (Bs.outC_len g F 8)
      have HNM := Lib.hid (fun (i : Nat) (hi : i < g.length) => show (Bs.needs2 g m).contains (i : Int) = Bs.reachB g m i from by
        unfold Bs.needs2
        rw [Bool.eq_iff_iff, Bs.contains_iff, Bs.mem_pick_nat]
        exact ⟨fun h => h.2, fun h => ⟨hi, h⟩⟩)
      have hnl := Bs.needs2_len g m
      have HBP := Lib.hid (fun i => show Bs.blamP g F m i = (Bs.gi (Bs.outC g F 8) i == 1 && (decide (i = m) || Bs.reachB g m i)) from rfl)
      clear q1 q2 he hc ht h hF hv hval hf hg
      generalize Bs.outC g F 8 = L at *
      generalize Bs.blamP g F m = P at *
      generalize Bs.needs2 g m = N at *
      go_enter Try.func26, Try.ntmps26
      go_wp2_with fail
      with_reducible refine (C1.out).mono ?_
      rintro e w1 ⟨rfl, hb⟩
      have HB := Lib.hid hb
      clear hb C1
      go_wp2_with fail
      with_reducible refine (C2.out _).mono ?_
      rintro e w2 ⟨rfl, rfl⟩
      go_wp2_with fail
      with_reducible refine (C3.out _ HB.out).mono ?_
      rintro e w3 ⟨⟨A3, c3, rfl, ho3⟩, hb3⟩
      have hr3 := ho3.ri
      have HB3 := Lib.hid (HB.out.trans (hb3.mono HB.out.size))
      clear C2 C3 ho3 hb3
      go_wp2_with fail
      with_reducible refine (C4.out _ HB3.out).mono ?_
      rintro e w4 ⟨⟨A4, c4, rfl, ho4⟩, hb4⟩
      have HR3 := Lib.hid (hr3.below hb4 (Nat.le_refl _))
      have HR4 := Lib.hid ho4.ri
      have HB4 := Lib.hid (HB3.out.trans (hb4.mono HB3.out.size))
      have C5 := Lib.hid (fun (i : Nat) => isIn_any A4 c4 N (i : Int) _ _ w4 ho4.ri (by omega))
      clear C4 hr3 ho4 hb4
      go_wp2
      go_loop [9] (fun i => ∃ k : Nat, k ≤ g.length ∧ i = .int .i64 k ∧ ∀ j, j < k → P j = false) (fun i => g.length - (intOf i).toNat)
      case atStart => exact ⟨0, Nat.zero_le _, rfl, by intro j hj; omega⟩
      case round =>
        obtain ⟨k, hk, rfl, hno⟩ := hrel
        by_cases hlt : k < g.length
        · have hkL : k < L.length := by have := HLL.out; omega
          obtain ⟨b, o, rfl, _, _, hcell⟩ := HR3.out.at_ hkL
          have hp := HBP.out k
          rw [Bs.gi_at hkL] at hp
          have C8 := Lib.hid (C5.out k)
          rw [HNM.out k hlt] at C8
          have HNO := Lib.hid hno
          have HYES := Lib.hid (fun (h : P k = true) => show Bs.blamL g F (m : Int) = (k : Int) from by rw [HV.out, firstI_yes hlt hno h])
          have HP := Lib.hid hp
          have d1 : (k : Int) < (g.length : Int) := by omega
          have d2 : (k : Int) < (L.length : Int) := by omega
          clear hno hp
          generalize L[k] = x at *
          have goOn : P k = false → ∀ j, j < k + 1 → P j = false := by
            intro h j hj
            by_cases e : j = k
            · subst e; exact h
            · exact HNO.out j (by omega)
          by_cases hx : x = 1
          · subst hx
            by_cases hkm : k = m
            · have d3 : ((k : Int) == (m : Int)) = true := by rw [beq_iff_eq]; omega
              have HY := Lib.hid (HYES.out (by rw [HP.out, hkm]; simp))
              clear goOn hkm
              go_wp2
              go_ret
              exact ⟨ret_int HY.out.symm, HB4.out⟩
            · have d3 : ((k : Int) == (m : Int)) = false := by rw [beq_eq_false_iff_ne]; omega
              have hpk : P k = Bs.reachB g m k := by rw [HP.out]; simp [hkm]
              have HPK := Lib.hid hpk
              clear hkm hpk
              generalize Bs.reachB g m k = q at *
              cases q
              · have HN := Lib.hid (goOn HPK.out)
                clear goOn
                go_wp2_with fail
                with_reducible refine (C8.out).mono ?_
                rintro e _ ⟨rfl, rfl⟩
                go_wp2
                go_round
                case rel => exact ⟨k + 1, by omega, by go_num, HN.out⟩
                case measure => simp [intOf]; omega
              · have HY := Lib.hid (HYES.out HPK.out)
                clear goOn
                go_wp2_with fail
                with_reducible refine (C8.out).mono ?_
                rintro e _ ⟨rfl, rfl⟩
                go_wp2
                go_ret
                exact ⟨ret_int HY.out.symm, HB4.out⟩
          · have hxe : (x == 1) = false := by simpa using hx
            have HN := Lib.hid (goOn (by rw [HP.out, hxe]; rfl))
            clear goOn hx
            go_wp2
            go_round
            case rel => exact ⟨k + 1, by omega, by go_num, HN.out⟩
            case measure => simp [intOf]; omega
        · have HN := Lib.hid (show Bs.blamL g F (m : Int) = -1 from by rw [HV.out, firstI_no (fun j hj => hno j (by omega))])
          clear hno
          go_wp2
          go_ret
          exact ⟨ret_int HN.out.symm, HB4.out⟩
end Go.Proofs.Ytlanlcdbcblfjaa
