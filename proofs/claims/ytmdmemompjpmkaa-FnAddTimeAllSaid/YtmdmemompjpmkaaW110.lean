/-
  WALKS: earlier times of tasks, of the program: whether they are valid, what is expected, one more.
-/
import Derived.Test.YtmdmemompjpmkaaCp2
import Derived.Test.YtmdmemompjpmkaaK1
import Derived.Test.YtmdmemompjpmkaaMath90
namespace Go.Proofs.Ytmdmemompjpmkaa
open Go.RowKit
theorem validTime_e (z : Int) (w : World) : Calls Try.prog 40 #[.int .i64 z] w fun e w' => e = .returned (.bool (decide (1 ≤ z ∧ z ≤ 20))) ∧ w = w' := by
  go_enter Try.func40, Try.ntmps40
  go_wp2
  all_goals go_ret
  all_goals exact ⟨ret_bool (by simp; try omega), rfl⟩
theorem validEarlier_any (A : Option Addr) (c : Nat) (l : List Int) (lo hi : Nat) (w : World) (h : RI w lo hi A l) (hl : l.length ≤ 9223372036854775807) :
    Calls Try.prog 36 #[.slice A l.length c] w fun e w' => e = .returned (.bool (Bs.timesOk l)) ∧ w = w' := by
  have HE := Lib.hid (show Bs.timesOk l = (decide (l.length ≤ 6) && Bs.allInB l 1 20) from rfl)
  by_cases h6 : l.length ≤ 6
  · have HT := Lib.hid (show Bs.timesOk l = Bs.allInB l 1 20 from by rw [HE.out]; simp [h6])
    have HF := Lib.hid (fun k (hk : k < l.length) (hx : decide (1 ≤ l[k] ∧ l[k] ≤ 20) = false) => show Bs.allInB l 1 20 = false from Bs.all_false_at hk hx)
    clear HE
    go_enter Try.func36, Try.ntmps36
    go_wp2
    go_loop [10] (fun i => ∃ k : Nat, k ≤ l.length ∧ i = .int .i64 k ∧ ∀ j (hj : j < l.length), j < k → 1 ≤ l[j] ∧ l[j] ≤ 20) (fun i => l.length - (intOf i).toNat)
    case atStart => exact ⟨0, Nat.zero_le _, rfl, by intro j _ h; omega⟩
    case round =>
      obtain ⟨k, hk, rfl, hall⟩ := hrel
      have HA := Lib.hid hall
      clear hall
      by_cases hlt : k < l.length
      · obtain ⟨b, o, rfl, _, _, hc⟩ := h.at_ hlt
        have HK := Lib.hid (HF.out k hlt)
        have HS := Lib.hid (fun (hx : 1 ≤ l[k] ∧ l[k] ≤ 20) => show ∀ j (hj : j < l.length), j < k + 1 → 1 ≤ l[j] ∧ l[j] ≤ 20 from by
          intro j hj hjk
          by_cases e : j = k
          · subst e; exact hx
          · exact HA.out j hj (by omega))
        generalize l[k] = x at *
        have c1 := fun W => validTime_e x W
        cases hd : decide (1 ≤ x ∧ x ≤ 20)
        · rw [hd] at c1
          have C1 := Lib.hid c1
          have HN := Lib.hid (HK.out hd)
          clear c1 hd HK HS
          go_wp2_with fail
          with_reducible refine (C1.out _).mono ?_
          rintro e w1 ⟨rfl, rfl⟩
          go_wp2
          go_ret
          exact ⟨ret_bool (by rw [HT.out, HN.out]), rfl⟩
        · rw [hd] at c1
          have C1 := Lib.hid c1
          have HN := Lib.hid (HS.out (by simpa using hd))
          clear c1 hd HK HS
          go_wp2_with fail
          with_reducible refine (C1.out _).mono ?_
          rintro e w1 ⟨rfl, rfl⟩
          go_wp2
          go_round
          case rel => exact ⟨k + 1, by omega, by go_num, HN.out⟩
          case measure => simp [intOf]; omega
      · have HQ := Lib.hid (show Bs.allInB l 1 20 = true from by
          unfold Bs.allInB
          rw [List.all_eq_true]
          intro x hx
          obtain ⟨j, hj, rfl⟩ := List.mem_iff_getElem.1 hx
          have := HA.out j hj (by omega)
          simpa using this)
        go_wp2
        go_ret
        exact ⟨ret_bool (by rw [HT.out, HQ.out]), rfl⟩
  · have HT := Lib.hid (show Bs.timesOk l = false from by rw [HE.out]; simp [h6])
    clear HE
    go_enter Try.func36, Try.ntmps36
    go_wp2
    go_ret
    exact ⟨ret_bool HT.out.symm, rfl⟩
theorem tsSize : (Try.prog.info? 48).map (·.size) = some 3 := by kernel_rfl
def TS (w : World) (b : Nat) (n p t : Int) : Prop := Blk w b 48 #[.int .i64 n, .int .i64 p, .int .i64 t]
theorem ts_ret {fn : Func} {q : Tmp} (h : fn.results = #[.cell q 48]) (tmps : Array Value) (w : World) (g : Nat) (n p t : Int) (hp : tmps.getD q undef = .pointer (some ⟨g, 0, none⟩)) (hg : TS w g n p t) :
    (results fn tmps).run Try.prog w = .ok (.agg #[.int .i64 n, .int .i64 p, .int .i64 t]) w :=
  results_cell_row h tmps w g 48 _ (0, 0) _ hp hg Try.underlying48 rfl tsSize
theorem ts_set {w : World} {b : Nat} {n p t : Int} (h : TS w b n p t) (n' p' t' : Int) : TS (((w.setCell ⟨b, 0, none⟩ (.int .i64 n')).setCell ⟨b, 1, none⟩ (.int .i64 p')).setCell ⟨b, 2, none⟩ (.int .i64 t')) b n' p' t' := by
  have := ((Blk.set_ h 0 (.int .i64 n')).set_ 1 (.int .i64 p')).set_ 2 (.int .i64 t')
  simpa [TS] using this
theorem ts_new2 (w : World) (o : Obj) (n p t : Int) : TS ((w.alloc o).alloc (.cells #[.int .i64 n, .int .i64 p, .int .i64 t] 48)) (w.heap.size + 1) n p t := by
  have := Blk.new (w.alloc o) 48 #[.int .i64 n, .int .i64 p, .int .i64 t]
  rw [show (w.alloc o).heap.size = w.heap.size + 1 from by simp] at this
  exact this
theorem tsWith_any (n p t z q : Int) (w : World) (hn : 0 ≤ n ∧ n ≤ 1000) (hp : 0 ≤ p ∧ p ≤ 1000) (ht : 0 ≤ t ∧ t ≤ 100000) (hq : z * (n + 1) = q) (hq2 : 0 ≤ q ∧ q ≤ 100000) :
    Calls Try.prog 37 #[.agg #[.int .i64 n, .int .i64 p, .int .i64 t], .int .i64 z] w fun e w' => e = .returned (.agg #[.int .i64 (n + 1), .int .i64 (p + (n + 1)), .int .i64 (t + q)]) ∧ Below w.heap.size w w' := by
  have hw1 : IntKind.i64.wrap (n + 1) = n + 1 := IntWalk.i64_in _ ⟨by omega, by omega⟩
  have hw2 : IntKind.i64.wrap (p + (n + 1)) = p + (n + 1) := IntWalk.i64_in _ ⟨by omega, by omega⟩
  have hw3 : IntKind.i64.wrap (z * (n + 1)) = q := by rw [hq]; exact IntWalk.i64_in _ ⟨by omega, by omega⟩
  have hw4 : IntKind.i64.wrap (t + q) = t + q := IntWalk.i64_in _ ⟨by omega, by omega⟩
  have HQ := Lib.hid hq
  clear hq
  go_enter Try.func37, Try.ntmps37
  go_wp2
  try rw [HQ.out]
  exact bodyPost_ret (ts_ret rfl _ _ (w.heap.size + 1) (n + 1) (p + (n + 1)) (t + q) rfl (ts_new2 _ _ _ _ _)) rfl ⟨rfl, ((Below.refl _ _).alloc (Nat.le_refl _) _).alloc (by simp) _⟩
set_option maxHeartbeats 800000 in
theorem EstimateOf_any (A : Option Addr) (c : Nat) (l : List Int) (lo hi : Nat) (w : World) (h : RI w lo hi A l) (hh : hi ≤ w.heap.size) (hl : l.length ≤ 9223372036854775807) :
    Calls Try.prog 14 #[.slice A l.length c] w fun e w' => e = .returned (.int .i64 (Bs.estL l)) ∧ Below w.heap.size w w' := by
  have c1 := fun W (hb : Below w.heap.size w W) => validEarlier_any A c l lo hi W (h.below hb hh) hl
  cases ht : Bs.timesOk l
  · rw [ht] at c1
    have C1 := Lib.hid (c1 w (Below.refl _ _))
    have HV := Lib.hid (Bs.estL_no ht)
    clear c1 ht h
    go_enter Try.func14, Try.ntmps14
    go_wp2_with fail
    with_reducible refine (C1.out).mono ?_
    rintro e w1 ⟨rfl, rfl⟩
    go_wp2
    go_ret
    exact ⟨ret_int HV.out.symm, Below.refl _ _⟩
  rw [ht] at c1
  have C1 := Lib.hid (c1 w (Below.refl _ _))
  have h6 := (Bs.timesOk_iff.1 ht).1
  by_cases h0 : l.length = 0
  · have HV := Lib.hid (Bs.estL_zero ht h0)
    have hq0 : ((l.length : Int) == 0) = true := by simp [h0]
    clear c1 ht h h0
    go_enter Try.func14, Try.ntmps14
    go_wp2_with fail
    with_reducible refine (C1.out).mono ?_
    rintro e w1 ⟨rfl, rfl⟩
    go_wp2
    go_ret
    exact ⟨ret_int HV.out.symm, Below.refl _ _⟩
  have hq0 : ((l.length : Int) == 0) = false := by rw [beq_eq_false_iff_ne]; omega
  have HV := Lib.hid (Bs.estL_yes ht h0)
  have HTB := Lib.hid (fun k hk => Bs.tmK_b ht k hk)
  have HPB := Lib.hid (fun k (hk : k ≤ l.length) => Bs.plK_b k (by omega))
  have HTS := Lib.hid (fun k => show Bs.tmK l (k + 1) = Bs.tmK l k + Bs.giZ l k * ((k : Int) + 1) from rfl)
  have HPS := Lib.hid (fun k : Nat => show Bs.plK (k + 1) = Bs.plK k + ((k : Int) + 1) from rfl)
  have HST := Lib.hid (fun k (hk : k < l.length) => Bs.tmK_step ht hk)
  have HEC := Lib.hid (show Bs.estC l = (Bs.tmK l l.length + Bs.plK l.length - 1) / Bs.plK l.length from rfl)
  have HR := Lib.hid h
  have hn0 : 0 < l.length := by omega
  have B1 := Lib.hid (show TS (w.alloc (.cells #[.int .i64 0, .int .i64 0, .int .i64 0] 48)) w.heap.size 0 0 0 from Blk.new w _ _)
  have HB0 := Lib.hid (show Below w.heap.size w (w.alloc (.cells #[.int .i64 0, .int .i64 0, .int .i64 0] 48)) from (Below.refl _ _).alloc (Nat.le_refl _) _)
  clear c1 ht h h0
  go_enter Try.func14, Try.ntmps14
  go_wp2_with fail
  with_reducible refine (C1.out).mono ?_
  rintro e w1 ⟨rfl, rfl⟩
  clear C1
  go_wp2
  go_loopw [15] (fun i wr => ∃ k : Nat, k ≤ l.length ∧ i = .int .i64 k ∧ TS wr w.heap.size (k : Int) (Bs.plK k) (Bs.tmK l k) ∧ Below w.heap.size w wr) (fun i _ => l.length - (intOf i).toNat)
  case atStart => exact ⟨0, Nat.zero_le _, rfl, B1.out, HB0.out⟩
  case round =>
    obtain ⟨k, hk, rfl, hts, hb⟩ := hrel
    clear B1 HB0
    have k0 : (World.cell? _ ⟨w.heap.size, 0, none⟩) = some (.int .i64 (k : Int)) := Blk.cell hts 0
    have k1 : (World.cell? _ ⟨w.heap.size, 1, none⟩) = some (.int .i64 (Bs.plK k)) := Blk.cell hts 1
    have k2 : (World.cell? _ ⟨w.heap.size, 2, none⟩) = some (.int .i64 (Bs.tmK l k)) := Blk.cell hts 2
    have htb := HTB.out k hk
    have hpb := HPB.out k hk
    by_cases hlt : k < l.length
    · obtain ⟨b, o, rfl, _, _, hc⟩ := (HR.out.below hb hh).at_ hlt
      rw [← Bs.giZ_at hlt] at hc
      have hst := HST.out k hlt
      have HT1 := Lib.hid (HTS.out k)
      have HP1 := Lib.hid (HPS.out k)
      have H1 := Lib.hid hts
      have HB1 := Lib.hid hb
      have hlw := Blk.lt hts
      clear HTB HPB HTS HPS HST HR hts hb HEC HV
      obtain ⟨q, hq⟩ : ∃ q, Bs.giZ l k * ((k : Int) + 1) = q := ⟨_, rfl⟩
      rw [hq] at hst
      have HQ := Lib.hid hq
      have C2 := Lib.hid (fun W => tsWith_any (k : Int) (Bs.plK k) (Bs.tmK l k) (Bs.giZ l k) q W (by omega) (by omega) (by omega) hq (by omega))
      clear hq
      generalize Bs.giZ l k = x at *
      generalize Bs.tmK l k = tk at *
      generalize Bs.plK k = pk at *
      go_wp2_with fail
      with_reducible refine (C2.out _).mono ?_
      rintro e w2 ⟨rfl, hb2⟩
      have h2 : TS w2 w.heap.size (k : Int) pk tk := Blk.below H1.out hb2 hlw
      have e0 : w2.cell? ⟨w.heap.size, 0, none⟩ = some (.int .i64 (k : Int)) := Blk.cell h2 0
      have e1 : w2.cell? ⟨w.heap.size, 1, none⟩ = some (.int .i64 pk) := Blk.cell h2 1
      have e2 : w2.cell? ⟨w.heap.size, 2, none⟩ = some (.int .i64 tk) := Blk.cell h2 2
      have g0 := Blk.frozen h2 0
      have g1 := Blk.frozen h2 1
      have g2 := Blk.frozen h2 2
      have h3 := ts_set h2 ((k : Int) + 1) (pk + ((k : Int) + 1)) (tk + q)
      have s0 : w.heap.size ≤ w.heap.size := Nat.le_refl _
      have HB3 := Lib.hid ((((HB1.out.trans (hb2.mono HB1.out.size)).setCell (p := ⟨w.heap.size, 0, none⟩) s0 (.int .i64 ((k : Int) + 1))).setCell (p := ⟨w.heap.size, 1, none⟩) s0 (.int .i64 (pk + ((k : Int) + 1)))).setCell (p := ⟨w.heap.size, 2, none⟩) s0 (.int .i64 (tk + q)))
      have H3 := Lib.hid h3
      clear h2 h3 hb2 C2 k0 k1 k2 H1 HB1
      go_wp2
      go_roundw
      case rel => exact ⟨k + 1, by omega, by go_num, by rw [HT1.out, HP1.out, HQ.out]; exact H3.out, HB3.out⟩
      case measure => simp [intOf]; omega
    · obtain rfl : k = l.length := by omega
      have HV2 := Lib.hid (show (Bs.tmK l l.length + Bs.plK l.length - 1) / Bs.plK l.length = Bs.estL l from by rw [HV.out, HEC.out])
      have HB1 := Lib.hid hb
      clear HTB HPB HTS HPS HST HR hts hb HEC HV
      generalize Bs.tmK l l.length = tk at *
      generalize Bs.plK l.length = pk at *
      have hz : (pk == 0) = false := by rw [beq_eq_false_iff_ne]; omega
      have hw1 : IntKind.i64.wrap (tk + pk) = tk + pk := IntWalk.i64_in _ ⟨by omega, by omega⟩
      have hw2 : IntKind.i64.wrap (tk + pk - 1) = tk + pk - 1 := IntWalk.i64_in _ ⟨by omega, by omega⟩
      have e2 : Int.tdiv (tk + pk - 1) pk = (tk + pk - 1) / pk := Int.tdiv_eq_ediv_of_nonneg (by omega)
      have hdb : 0 ≤ (tk + pk - 1) / pk ∧ (tk + pk - 1) / pk ≤ 10000 := ⟨Int.ediv_nonneg (by omega) (by omega), Int.le_trans (Int.ediv_le_self _ (by omega)) (by omega)⟩
      have hw3 : IntKind.i64.wrap ((tk + pk - 1) / pk) = (tk + pk - 1) / pk := IntWalk.i64_in _ ⟨by omega, by omega⟩
      go_wp2
      go_ret
      refine ⟨ret_int ?_, HB1.out⟩
      rw [← HV2.out]
theorem drop_slice {w : World} {lo hi : Nat} {b o : Nat} {l : List Int} (h : RI w lo hi (some ⟨b, o, none⟩) l) : RI w lo hi (some ⟨b, o + 1, none⟩) (l.drop 1) := h.drop 1
set_option maxHeartbeats 1600000 in
theorem AddTime_any (A : Option Addr) (c : Nat) (l : List Int) (t : Int) (lo hi : Nat) (w : World) (h : RI w lo hi A l) (hh : hi ≤ w.heap.size) (hlc : l.length ≤ c) (hl : l.length ≤ 9223372036854775807) :
    Calls Try.prog 17 #[.slice A l.length c, .int .i64 t] w (fun e w' => (∃ A c, e = .returned (.tuple #[.slice A (Bs.addL l t).length c, .bool (Bs.addOk l t)]) ∧ OI w' w.heap.size A c (Bs.addL l t)) ∧ Below w.heap.size w w') := by
  have c1 := validEarlier_any A c l lo hi w h hl
  have c2 := fun W => validTime_e t W
  have HE := Lib.hid (show Bs.addOk l t = (Bs.timesOk l && decide (1 ≤ t ∧ t ≤ 20)) from rfl)
  cases ht : Bs.timesOk l
  · rw [ht] at c1
    have C1 := Lib.hid c1
    have HO := Lib.hid (show Bs.addOk l t = false from by rw [HE.out, ht]; rfl)
    have HV := Lib.hid (Bs.addL_no HO.out)
    clear c1 c2 ht h HE
    go_enter Try.func17, Try.ntmps17
    go_wp2_with fail
    with_reducible refine (C1.out).mono ?_
    rintro e w1 ⟨rfl, rfl⟩
    go_wp2
    go_ret2
    exact ⟨⟨none, 0, by rw [HV.out, HO.out]; rfl, by rw [HV.out]; exact OI.nil _ _⟩, Below.refl _ _⟩
  have h6 := (Bs.timesOk_iff.1 ht).1
  cases hz : decide (1 ≤ t ∧ t ≤ 20)
  · rw [ht] at c1
    rw [hz] at c2
    have C1 := Lib.hid c1
    have C2 := Lib.hid c2
    have HO := Lib.hid (show Bs.addOk l t = false from by rw [HE.out, hz]; simp)
    have HV := Lib.hid (Bs.addL_no HO.out)
    clear c1 c2 ht h HE hz
    go_enter Try.func17, Try.ntmps17
    go_wp2_with fail
    with_reducible refine (C1.out).mono ?_
    rintro e w1 ⟨rfl, rfl⟩
    go_wp2_with fail
    with_reducible refine (C2.out _).mono ?_
    rintro e w1 ⟨rfl, rfl⟩
    go_wp2
    go_ret2
    exact ⟨⟨none, 0, by rw [HV.out, HO.out]; rfl, by rw [HV.out]; exact OI.nil _ _⟩, Below.refl _ _⟩
  rw [ht] at c1
  rw [hz] at c2
  have C1 := Lib.hid c1
  have C2 := Lib.hid c2
  have HO := Lib.hid (show Bs.addOk l t = true from by rw [HE.out, ht, hz]; rfl)
  have HV := Lib.hid (show Bs.addL l t = l.drop (if l.length = 6 then 1 else 0) ++ [t] from Bs.addL_yes HO.out)
  have hal : Below w.heap.size w (w.alloc (.cells #[] 3)) := (Below.refl _ _).alloc (Nat.le_refl _) _
  have HR := Lib.hid (h.below hal hh)
  have HA := Lib.hid hal
  have HO0 := Lib.hid (OI.new w w.heap.size (Nat.le_refl _))
  clear c1 c2 ht hz HE h hal
  by_cases h0 : l.length = 6
  · have hq0 : ((l.length : Int) == 6) = true := by simp [h0]
    have hD := HV.out
    rw [if_pos h0] at hD
    have HD := Lib.hid hD
    obtain ⟨b, o, rfl, _, _, hc0⟩ := HR.out.at_ (k := 0) (by omega)
    have HR1 := Lib.hid (drop_slice HR.out)
    have hdl : (l.drop 1).length = l.length - 1 := by rw [List.length_drop]
    have hd5 : (l.drop 1).length ≤ 100 := by omega
    have i0 : (1 : Int) ≤ (l.length : Int) := by omega
    have i1 : (1 : Nat) ≤ l.length := by omega
    have i2 : l.length ≤ c := hlc
    have i3 : ¬ c = 1 := by omega
    have HDL := Lib.hid hdl
    have H0 := Lib.hid h0
    clear h0 hdl hc0 HV hD
    go_enter Try.func17, Try.ntmps17
    go_wp2_with fail
    with_reducible refine (C1.out).mono ?_
    rintro e w1 ⟨rfl, rfl⟩
    go_wp2_with fail
    with_reducible refine (C2.out _).mono ?_
    rintro e w1 ⟨rfl, rfl⟩
    clear C1 C2
    go_wp2_with (first
      | (at_builtin; refine push_ints rfl _ _ rfl w.heap.size (some ⟨w.heap.size, 0, none⟩) 0 [] (l.drop 1) rfl HO0.out (some ⟨b, o + 1, none⟩) (c - 1) (by rw [HDL.out]; rfl) lo hi HR1.out (by simp; omega) (by simp) ?_; intro A2 c2 w2 ho2 hb2; rw [List.nil_append] at ho2; have HO2 := Lib.hid (ho2.alloc (.cells #[.int .i64 t] 3)); have HB2 := Lib.hid ((HA.out.trans hb2).alloc (HA.out.trans hb2).size (.cells #[.int .i64 t] 3)); have s2 := (HA.out.trans hb2).size; clear hb2 ho2)
      | (at_builtin; go_loud (refine push_int rfl _ _ rfl w.heap.size A2 c2 (l.drop 1) t (by rw [HDL.out]; rfl) HO2.out w2.heap.size 1 rfl (by simp [go_sem]) (by omega) (by simp; omega) ?_; intro A3 c3 w3 ho3 hb3 _; have HO3 := Lib.hid ho3; have HB3 := Lib.hid (HB2.out.trans hb3); clear hb3 ho3)))
    go_wp2
    go_ret2
    have e9 : (Bs.addL l t).length = l.length := by rw [HD.out, List.length_append, HDL.out, List.length_singleton]; omega
    exact ⟨⟨A3, c3, by rw [e9, HO.out]; rfl, by rw [HD.out]; exact HO3.out⟩, HB3.out⟩
  · have hq0 : ((l.length : Int) == 6) = false := by rw [beq_eq_false_iff_ne]; omega
    have hD := HV.out
    rw [if_neg h0, List.drop_zero] at hD
    have HD := Lib.hid hD
    have h5 : l.length ≤ 100 := by omega
    clear h0 HV hD
    go_enter Try.func17, Try.ntmps17
    go_wp2_with fail
    with_reducible refine (C1.out).mono ?_
    rintro e w1 ⟨rfl, rfl⟩
    go_wp2_with fail
    with_reducible refine (C2.out _).mono ?_
    rintro e w1 ⟨rfl, rfl⟩
    clear C1 C2
    go_wp2_with (first
      | (at_builtin; refine push_ints rfl _ _ rfl w.heap.size (some ⟨w.heap.size, 0, none⟩) 0 [] l rfl HO0.out A c rfl lo hi HR.out (by simp; omega) (by simp) ?_; intro A2 c2 w2 ho2 hb2; rw [List.nil_append] at ho2; have HO2 := Lib.hid (ho2.alloc (.cells #[.int .i64 t] 3)); have HB2 := Lib.hid ((HA.out.trans hb2).alloc (HA.out.trans hb2).size (.cells #[.int .i64 t] 3)); have s2 := (HA.out.trans hb2).size; clear hb2 ho2)
      | (at_builtin; go_loud (refine push_int rfl _ _ rfl w.heap.size A2 c2 l t (by first | rfl | simp) HO2.out w2.heap.size 1 rfl (by simp [go_sem]) (by omega) (by simp; omega) ?_; intro A3 c3 w3 ho3 hb3 _; have HO3 := Lib.hid ho3; have HB3 := Lib.hid (HB2.out.trans hb3); clear hb3 ho3)))
    all_goals go_wp2
    all_goals go_ret2
    all_goals exact ⟨⟨A3, c3, by rw [HD.out, HO.out, List.length_append]; rfl, by rw [HD.out]; exact HO3.out⟩, HB3.out⟩
end Go.Proofs.Ytmdmemompjpmkaa
