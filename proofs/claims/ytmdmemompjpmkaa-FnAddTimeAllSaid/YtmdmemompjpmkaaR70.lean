/-
  WALKS: earlier times of tasks, of the model: whether they are valid, what is expected, one more.
-/
import Derived.Test.YtmdmemompjpmkaaCp2
import Derived.Test.YtmdmemompjpmkaaMath90
namespace Go.Proofs.Ytmdmemompjpmkaa
open Go.RowKit
theorem validTimesS_any (A : Option Addr) (c : Nat) (l : List Int) (lo hi : Nat) (w : World) (h : RI w lo hi A l) (hl : l.length ≤ 9223372036854775807) :
    Calls Try.prog 38 #[.slice A l.length c] w fun e w' => e = .returned (.bool (Bs.timesOk l)) ∧ w = w' := by
  have C1 := Lib.hid (allIn_any A c l 1 20 lo hi w h hl)
  have HE := Lib.hid (show Bs.timesOk l = (decide (l.length ≤ 6) && Bs.allInB l 1 20) from rfl)
  by_cases h6 : l.length ≤ 6
  · have HT := Lib.hid (show Bs.timesOk l = Bs.allInB l 1 20 from by rw [HE.out]; simp [h6])
    clear HE
    generalize Bs.allInB l 1 20 = b at *
    go_enter Try.func38, Try.ntmps38
    go_wp2_with fail
    with_reducible refine (C1.out).mono ?_
    rintro e w1 ⟨rfl, rfl⟩
    go_wp2
    go_ret
    exact ⟨ret_bool HT.out.symm, rfl⟩
  · have HT := Lib.hid (show Bs.timesOk l = false from by rw [HE.out]; simp [h6])
    clear HE
    go_enter Try.func38, Try.ntmps38
    go_wp2
    go_ret
    exact ⟨ret_bool HT.out.symm, rfl⟩
set_option maxHeartbeats 800000 in
theorem EstimateOfS_any (A : Option Addr) (c : Nat) (l : List Int) (lo hi : Nat) (w : World) (h : RI w lo hi A l) (_hh : hi ≤ w.heap.size) (hl : l.length ≤ 9223372036854775807) :
    Calls Try.prog 15 #[.slice A l.length c] w fun e w' => e = .returned (.int .i64 (Bs.estL l)) ∧ Below w.heap.size w w' := by
  have c1 := validTimesS_any A c l lo hi w h hl
  cases ht : Bs.timesOk l
  · rw [ht] at c1
    have C1 := Lib.hid c1
    have HV := Lib.hid (Bs.estL_no ht)
    clear c1 ht h
    go_enter Try.func15, Try.ntmps15
    go_wp2_with fail
    with_reducible refine (C1.out).mono ?_
    rintro e w1 ⟨rfl, rfl⟩
    go_wp2
    go_ret
    exact ⟨ret_int HV.out.symm, Below.refl _ _⟩
  rw [ht] at c1
  have C1 := Lib.hid c1
  have h6 := (Bs.timesOk_iff.1 ht).1
  have HTB := Lib.hid (fun k hk => Bs.tmK_b ht k hk)
  have HPB := Lib.hid (fun k (hk : k ≤ l.length) => Bs.plK_b k (by omega))
  have HTS := Lib.hid (fun k => show Bs.tmK l (k + 1) = Bs.tmK l k + Bs.giZ l k * ((k : Int) + 1) from rfl)
  have HPS := Lib.hid (fun k : Nat => show Bs.plK (k + 1) = Bs.plK k + ((k : Int) + 1) from rfl)
  have HST := Lib.hid (fun k (hk : k < l.length) => Bs.tmK_step ht hk)
  have HEC := Lib.hid (show Bs.estC l = (Bs.tmK l l.length + Bs.plK l.length - 1) / Bs.plK l.length from rfl)
  have HV0 := Lib.hid (fun h0 => Bs.estL_zero ht h0)
  have HV1 := Lib.hid (fun h0 => Bs.estL_yes ht h0)
  have HR := Lib.hid h
  clear c1 ht h
  go_enter Try.func15, Try.ntmps15
  go_wp2_with fail
  with_reducible refine (C1.out).mono ?_
  rintro e w1 ⟨rfl, rfl⟩
  clear C1
  go_wp2
  go_loop [3, 4, 5] (fun s p i => ∃ k : Nat, k ≤ l.length ∧ i = .int .i64 k ∧ s = .int .i64 (Bs.tmK l k) ∧ p = .int .i64 (Bs.plK k)) (fun _ _ i => l.length - (intOf i).toNat)
  case atStart => exact ⟨0, Nat.zero_le _, rfl, rfl, rfl⟩
  case round =>
    obtain ⟨k, hk, rfl, rfl, rfl⟩ := hrel
    have htb := HTB.out k hk
    have hpb := HPB.out k hk
    by_cases hlt : k < l.length
    · obtain ⟨b, o, rfl, _, _, hc⟩ := (HR.out).at_ hlt
      rw [← Bs.giZ_at hlt] at hc
      have hst := HST.out k hlt
      have HT1 := Lib.hid (HTS.out k)
      have HP1 := Lib.hid (HPS.out k)
      clear HTB HPB HTS HPS HST HR HEC HV0 HV1
      obtain ⟨q, hq⟩ : ∃ q, Bs.giZ l k * ((k : Int) + 1) = q := ⟨_, rfl⟩
      rw [hq] at hst
      have HQ := Lib.hid hq
      have hq2 : ((k : Int) + 1) * Bs.giZ l k = q := by rw [Int.mul_comm]; exact hq
      generalize Bs.giZ l k = x at *
      generalize Bs.tmK l k = tk at *
      generalize Bs.plK k = pk at *
      have hw1 : IntKind.i64.wrap ((k : Int) + 1) = (k : Int) + 1 := IntWalk.i64_in _ ⟨by omega, by omega⟩
      have hw2 : IntKind.i64.wrap (((k : Int) + 1) * x) = q := by rw [hq2]; exact IntWalk.i64_in _ ⟨by omega, by omega⟩
      have hw3 : IntKind.i64.wrap (tk + q) = tk + q := IntWalk.i64_in _ ⟨by omega, by omega⟩
      have hw4 : IntKind.i64.wrap (pk + (k : Int)) = pk + (k : Int) := IntWalk.i64_in _ ⟨by omega, by omega⟩
      have hw5 : IntKind.i64.wrap (pk + (k : Int) + 1) = pk + (k : Int) + 1 := IntWalk.i64_in _ ⟨by omega, by omega⟩
      have HQ2 := Lib.hid hq2
      clear hq hq2
      go_wp2
      go_round
      case rel => exact ⟨k + 1, by omega, by go_num, by rw [HT1.out, HQ.out], by rw [HP1.out, ← Int.add_assoc]⟩
      case measure => simp [intOf]; omega
    · obtain rfl : k = l.length := by omega
      by_cases h0 : l.length = 0
      · have HV := Lib.hid (HV0.out h0)
        have hp0 : Bs.plK l.length = 0 := by rw [h0]; rfl
        rw [hp0]
        clear HTB HPB HTS HPS HST HR HEC HV0 HV1 h0 hp0
        go_wp2
        go_ret
        exact ⟨ret_int HV.out.symm, Below.refl _ _⟩
      · have HV2 := Lib.hid (show (Bs.tmK l l.length + Bs.plK l.length - 1) / Bs.plK l.length = Bs.estL l from by rw [HV1.out h0, HEC.out])
        clear HTB HPB HTS HPS HST HR HEC HV0 HV1
        generalize Bs.tmK l l.length = tk at *
        generalize Bs.plK l.length = pk at *
        have hz : (pk == 0) = false := by rw [beq_eq_false_iff_ne]; omega
        have hw1 : IntKind.i64.wrap (tk + pk) = tk + pk := IntWalk.i64_in _ ⟨by omega, by omega⟩
        have hw2 : IntKind.i64.wrap (tk + pk - 1) = tk + pk - 1 := IntWalk.i64_in _ ⟨by omega, by omega⟩
        have e2 : Int.tdiv (tk + pk - 1) pk = (tk + pk - 1) / pk := Int.tdiv_eq_ediv_of_nonneg (by omega)
        have hdb : 0 ≤ (tk + pk - 1) / pk ∧ (tk + pk - 1) / pk ≤ 10000 := ⟨Int.ediv_nonneg (by omega) (by omega), Int.le_trans (Int.ediv_le_self _ (by omega)) (by omega)⟩
        have hw3 : IntKind.i64.wrap ((tk + pk - 1) / pk) = (tk + pk - 1) / pk := IntWalk.i64_in _ ⟨by omega, by omega⟩
        go_wp2
        go_ret
        refine ⟨ret_int ?_, Below.refl _ _⟩
        rw [← HV2.out]
/-- a list and a bool, from a row of the call's own -/
def RetAdd (w : World) (l : List Int) (t : Int) (e : Ending) (w' : World) : Prop := (∃ A c, e = .returned (.tuple #[.slice A (Bs.addL l t).length c, .bool (Bs.addOk l t)]) ∧ OI w' w.heap.size A c (Bs.addL l t)) ∧ Below w.heap.size w w'
set_option maxHeartbeats 1600000 in
theorem AddTimeS_any (A : Option Addr) (c : Nat) (l : List Int) (t : Int) (lo hi : Nat) (w : World) (h : RI w lo hi A l) (hh : hi ≤ w.heap.size) (hl : l.length ≤ 9223372036854775807) :
    Calls Try.prog 18 #[.slice A l.length c, .int .i64 t] w (RetAdd w l t) := by
  have c1 := validTimesS_any A c l lo hi w h hl
  have c2 := fun W => inRange_any t 1 20 W
  have HE := Lib.hid (show Bs.addOk l t = (Bs.timesOk l && decide (1 ≤ t ∧ t ≤ 20)) from rfl)
  cases ht : Bs.timesOk l
  · rw [ht] at c1
    have C1 := Lib.hid c1
    have HO := Lib.hid (show Bs.addOk l t = false from by rw [HE.out, ht]; rfl)
    have HV := Lib.hid (Bs.addL_no HO.out)
    clear c1 c2 ht h HE
    go_enter Try.func18, Try.ntmps18
    go_wp2_with fail
    with_reducible refine (C1.out).mono ?_
    rintro e w1 ⟨rfl, rfl⟩
    go_wp2
    go_ret2
    exact ⟨⟨none, 0, by rw [HV.out, HO.out]; rfl, by rw [HV.out]; exact OI.nil _ _⟩, Below.refl _ _⟩
  have h6 := (Bs.timesOk_iff.1 ht).1
  cases hz : decide (1 ≤ t ∧ t ≤ 20)
  · rw [ht] at c1
    rw [hz] at c2
    have C1 := Lib.hid c1
    have C2 := Lib.hid c2
    have HO := Lib.hid (show Bs.addOk l t = false from by rw [HE.out, hz]; simp)
    have HV := Lib.hid (Bs.addL_no HO.out)
    clear c1 c2 ht h HE hz
    go_enter Try.func18, Try.ntmps18
    go_wp2_with fail
    with_reducible refine (C1.out).mono ?_
    rintro e w1 ⟨rfl, rfl⟩
    go_wp2_with fail
    with_reducible refine (C2.out _).mono ?_
    rintro e w1 ⟨rfl, rfl⟩
    go_wp2
    go_ret2
    exact ⟨⟨none, 0, by rw [HV.out, HO.out]; rfl, by rw [HV.out]; exact OI.nil _ _⟩, Below.refl _ _⟩
  rw [ht] at c1
  rw [hz] at c2
  have C1 := Lib.hid c1
  have C2 := Lib.hid c2
  have HO := Lib.hid (show Bs.addOk l t = true from by rw [HE.out, ht, hz]; rfl)
  have HV := Lib.hid (show Bs.addL l t = l.drop (if l.length = 6 then 1 else 0) ++ [t] from Bs.addL_yes HO.out)
  have C3 := Lib.hid (copyInts_ri A c l lo hi w h hh (by omega))
  have HL6 := Lib.hid h6
  clear c1 c2 ht hz HE
  go_enter Try.func18, Try.ntmps18
  go_wp2_with fail
  with_reducible refine (C1.out).mono ?_
  rintro e w1 ⟨rfl, rfl⟩
  go_wp2_with fail
  with_reducible refine (C2.out _).mono ?_
  rintro e w1 ⟨rfl, rfl⟩
  go_wp2_with fail
  with_reducible refine (C3.out).mono ?_
  rintro e w2 ⟨⟨A2, c2, rfl, ho2⟩, hb2⟩
  have s2 := hb2.size
  have HO2 := Lib.hid (ho2.alloc (.cells #[.int .i64 t] 3))
  have HB2 := Lib.hid (hb2.alloc s2 (.cells #[.int .i64 t] 3))
  clear ho2 hb2 C1 C2 C3 h
  have HN := Lib.hid (Nat.lt_or_ge l.length 6)
  go_wp2_with (first
    | (at_builtin; go_loud (refine push_int rfl _ _ rfl w.heap.size A2 c2 l t rfl HO2.out w2.heap.size 1 rfl (by simp [go_sem]) (by omega) (by simp; omega) ?_; intro A3 c3 w3 ho3 hb3 _; have HO3 := Lib.hid ho3; have HB3 := Lib.hid (HB2.out.trans hb3); have hc3 : l.length + 1 ≤ c3 := (by have := ho3.cap.1; rwa [List.length_append, List.length_singleton] at this); have hc0 : ¬ c3 = 0 := (by omega); obtain ⟨b, o, rfl, _, _, _⟩ := ho3.ri.at_ (k := 0) (by simp); clear hb3 ho3)))
  all_goals have s3 := HB3.out.size
  · have hn : l.length = 6 := by omega
    have HV2 := Lib.hid (show Bs.addL l t = (l ++ [t]).drop 1 from by rw [HV.out, if_pos hn, List.drop_append_of_le_length (by omega)])
    have c4 := copyInts_ri (some ⟨b, o + 1, none⟩) (c3 - 1) ((l ++ [t]).drop 1) w.heap.size w3.heap.size w3 (HO3.out.ri.drop 1) (Nat.le_refl _) (by rw [List.length_drop, List.length_append, List.length_singleton]; omega)
    have e1 : ((l.length : Int) + 1 - 6).toNat = 1 := by omega
    have hn1 : 1 ≤ c3 := by omega
    rw [show ((l ++ [t]).drop 1).length = l.length + 1 - 1 from by rw [List.length_drop, List.length_append, List.length_singleton]] at c4
    rw [e1]
    with_reducible refine c4.mono ?_
    rintro e w4 ⟨⟨A4, c5, rfl, ho4⟩, hb4⟩
    have HO4 := Lib.hid (ho4.base s3)
    have HB4 := Lib.hid (HB3.out.trans (hb4.mono s3))
    clear ho4 hb4 c4
    go_wp2
    go_ret2
    exact ⟨⟨A4, c5, by rw [HV2.out, HO.out, show ((l ++ [t]).drop 1).length = 6 from by rw [List.length_drop, List.length_append, List.length_singleton]; omega]; rfl, by rw [HV2.out]; exact HO4.out⟩, HB4.out⟩
  · have hn : l.length < 6 := by omega
    have HV2 := Lib.hid (show Bs.addL l t = l ++ [t] from by rw [HV.out, if_neg (by omega), List.drop_zero])
    have c4 := copyInts_ri (some ⟨b, o, none⟩) c3 (l ++ [t]) w.heap.size w3.heap.size w3 HO3.out.ri (Nat.le_refl _) (by rw [List.length_append, List.length_singleton]; omega)
    rw [show (l ++ [t]).length = l.length + 1 from by rw [List.length_append, List.length_singleton]] at c4
    with_reducible refine c4.mono ?_
    rintro e w4 ⟨⟨A4, c5, rfl, ho4⟩, hb4⟩
    have HO4 := Lib.hid (ho4.base s3)
    have HB4 := Lib.hid (HB3.out.trans (hb4.mono s3))
    clear ho4 hb4 c4
    go_wp2
    go_ret2
    exact ⟨⟨A4, c5, by rw [HV2.out, HO.out, List.length_append]; rfl, by rw [HV2.out]; exact HO4.out⟩, HB4.out⟩
end Go.Proofs.Ytmdmemompjpmkaa
