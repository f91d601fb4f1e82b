/-
  WALKS: users that are valid; who comes next; fair parts, of the model.
-/
import Derived.Test.YtbmfhnijbdmjbaaW105
import Derived.Deep.RegionHeld3
namespace Go.Proofs.Ytbmfhnijbdmjbaa
open Go.RowKit
theorem users_all {l : List Bs.U} : Bs.usersOk l = (l.all Bs.uOk && decide (1 ≤ (l.length : Int) ∧ (l.length : Int) ≤ 5)) := by
  unfold Bs.usersOk
  rw [Bool.and_comm]
  congr 1
  rw [decide_eq_decide]
  omega
theorem all_tk {l : List Bs.U} {k : Nat} (hk : k < l.length) : (l.take (k + 1)).all Bs.uOk = ((l.take k).all Bs.uOk && Bs.uOk (Bs.gu l k)) := by
  rw [List.take_succ_eq_append_getElem hk, List.all_append, Bs.gu_at hk]
  simp
theorem all_bad {l : List Bs.U} {k : Nat} (hk : k < l.length) (h : Bs.uOk (Bs.gu l k) = false) : l.all Bs.uOk = false := by
  rw [List.all_eq_false]
  refine ⟨l[k], List.getElem_mem hk, ?_⟩
  rw [Bs.gu_at hk] at h
  simp [h]
set_option maxHeartbeats 1600000 in
theorem validUsersS_any (A : Option Addr) (c : Nat) (l : List Bs.U) (lo hi : Nat) (w : World) (h : RU w lo hi A l) (hl : l.length ≤ 9223372036854775807) :
    Calls Try.prog 32 #[.slice A l.length c] w fun e w' => e = .returned (.bool (Bs.usersOk l)) ∧ w = w' := by
  have HR := Lib.hid h
  have HE := Lib.hid (users_all (l := l))
  have HT := Lib.hid (fun k (hk : k < l.length) => all_tk (l := l) hk)
  have HB := Lib.hid (fun k (hk : k < l.length) h => all_bad (l := l) hk h)
  have HC := Lib.hid (fun (x a b : Int) W => inRange_any x a b W)
  have HUE := Lib.hid (fun k => show Bs.uOk (Bs.gu l k) = ((decide (1 ≤ (Bs.gu l k).share ∧ (Bs.gu l k).share ≤ 10) && decide (0 ≤ (Bs.gu l k).used ∧ (Bs.gu l k).used ≤ 10000)) && decide (0 ≤ (Bs.gu l k).waits ∧ (Bs.gu l k).waits ≤ 6)) from rfl)
  generalize Bs.usersOk l = V at *
  clear h
  go_enter Try.func32, Try.ntmps32
  go_wp2
  go_loop [3] (fun i => ∃ k : Nat, k ≤ l.length ∧ i = .int .i64 k ∧ (l.take k).all Bs.uOk = true) (fun i => l.length - (intOf i).toNat)
  case atStart => exact ⟨0, Nat.zero_le _, rfl, rfl⟩
  case round =>
    obtain ⟨k, hk, rfl, hall⟩ := hrel
    by_cases hlt : k < l.length
    · obtain ⟨b, o, rfl, _, _, q0, q1, q2⟩ := HR.out.at_ hlt
      have ht := HT.out k hlt
      have hbd := HB.out k hlt
      rw [hall, Bool.true_and] at ht
      have hue := HUE.out k
      have H1 := Lib.hid ht
      have H2 := Lib.hid (fun (h : Bs.uOk (Bs.gu l k) = false) => show V = false from by rw [HE.out, hbd h]; rfl)
      have HU := Lib.hid hue
      clear ht hbd hue hall HT HB HE HUE
      generalize Bs.uOk (Bs.gu l k) = u at *
      generalize (Bs.gu l k).share = us at *
      generalize (Bs.gu l k).used = uu at *
      generalize (Bs.gu l k).waits = uw at *
      have C1 := Lib.hid (HC.out us 1 10)
      have C2 := Lib.hid (HC.out uu 0 10000)
      have C3 := Lib.hid (HC.out uw 0 6)
      generalize decide (1 ≤ us ∧ us ≤ 10) = b1 at *
      generalize decide (0 ≤ uu ∧ uu ≤ 10000) = b2 at *
      generalize decide (0 ≤ uw ∧ uw ≤ 6) = b3 at *
      clear HC
      cases b1
      · have HF := Lib.hid (H2.out (by rw [HU.out]; rfl))
        clear H1 H2
        go_wp2_with fail
        with_reducible refine (C1.out _).mono ?_
        rintro e _ ⟨rfl, rfl⟩
        go_wp2
        go_ret
        exact ⟨ret_bool HF.out.symm, rfl⟩
      · cases b2
        · have HF := Lib.hid (H2.out (by rw [HU.out]; rfl))
          clear H1 H2
          go_wp2_with fail
          with_reducible refine (C1.out _).mono ?_
          rintro e _ ⟨rfl, rfl⟩
          go_wp2_with fail
          with_reducible refine (C2.out _).mono ?_
          rintro e _ ⟨rfl, rfl⟩
          go_wp2
          go_ret
          exact ⟨ret_bool HF.out.symm, rfl⟩
        · cases b3
          · have HF := Lib.hid (H2.out (by rw [HU.out]; rfl))
            clear H1 H2
            go_wp2_with fail
            with_reducible refine (C1.out _).mono ?_
            rintro e _ ⟨rfl, rfl⟩
            go_wp2_with fail
            with_reducible refine (C2.out _).mono ?_
            rintro e _ ⟨rfl, rfl⟩
            go_wp2_with fail
            with_reducible refine (C3.out _).mono ?_
            rintro e _ ⟨rfl, rfl⟩
            go_wp2
            go_ret
            exact ⟨ret_bool HF.out.symm, rfl⟩
          · have HF := Lib.hid (show (l.take (k + 1)).all Bs.uOk = true from by rw [H1.out, HU.out]; rfl)
            clear H1 H2
            go_wp2_with fail
            with_reducible refine (C1.out _).mono ?_
            rintro e _ ⟨rfl, rfl⟩
            go_wp2_with fail
            with_reducible refine (C2.out _).mono ?_
            rintro e _ ⟨rfl, rfl⟩
            go_wp2_with fail
            with_reducible refine (C3.out _).mono ?_
            rintro e _ ⟨rfl, rfl⟩
            go_wp2
            go_round
            case rel => exact ⟨k + 1, by omega, by go_num, HF.out⟩
            case measure => simp [intOf]; omega
    · obtain rfl : k = l.length := by omega
      rw [List.take_length] at hall
      have HF := Lib.hid (show V = decide (1 ≤ (l.length : Int) ∧ (l.length : Int) ≤ 5) from by rw [HE.out, hall, Bool.true_and])
      have C1 := Lib.hid (HC.out (l.length : Int) 1 5)
      clear hall
      go_wp2_with fail
      with_reducible refine (C1.out _).mono ?_
      rintro e _ ⟨rfl, rfl⟩
      go_wp2
      go_ret
      exact ⟨ret_bool (by rw [HF.out, Bool.decide_and]), rfl⟩
theorem ValidUsersS_any (A : Option Addr) (c : Nat) (l : List Bs.U) (lo hi : Nat) (w : World) (h : RU w lo hi A l) (hl : l.length ≤ 9223372036854775807) :
    Calls Try.prog 10 #[.slice A l.length c] w fun e w' => e = .returned (.bool (Bs.usersOk l)) ∧ w = w' := by
  have C1 := Lib.hid (validUsersS_any A c l lo hi w h hl)
  generalize Bs.usersOk l = V at *
  clear h
  go_enter Try.func10, Try.ntmps10
  go_wp2_with fail
  with_reducible refine (C1.out).mono ?_
  rintro e _ ⟨rfl, rfl⟩
  go_wp2
  go_ret
  exact ⟨rfl, rfl⟩
theorem poorer_any (a b : Bs.U) (w : World) (ha : Bs.uOk a = true) (hb : Bs.uOk b = true) :
    Calls Try.prog 50 #[.agg #[.int .i64 a.share, .int .i64 a.used, .int .i64 a.waits], .agg #[.int .i64 b.share, .int .i64 b.used, .int .i64 b.waits]] w fun e w' => e = .returned (.bool (Bs.poor a b)) ∧ Below w.heap.size w w' := by
  have p1 := Bs.uprod ha hb
  have p2 := Bs.uprod hb ha
  have HP := Lib.hid (show Bs.poor a b = decide (a.used * b.share < b.used * a.share) from rfl)
  generalize Bs.poor a b = V at *
  obtain ⟨sa, ua, wa⟩ := a
  obtain ⟨sb, ub, wb⟩ := b
  simp only at p1 p2
  have HB := Lib.hid ((Below.alloc (Below.refl w.heap.size w) (Nat.le_refl _) (.cells #[.int .i64 sa, .int .i64 ua, .int .i64 wa] 46)).alloc (by simp) (.cells #[.int .i64 sb, .int .i64 ub, .int .i64 wb] 46))
  have hw1 : IntKind.i64.wrap (ua * sb) = ua * sb := IntWalk.i64_in _ ⟨by omega, by omega⟩
  have hw2 : IntKind.i64.wrap (ub * sa) = ub * sa := IntWalk.i64_in _ ⟨by omega, by omega⟩
  clear ha hb p1 p2
  go_enter Try.func50, Try.ntmps50
  go_wp2
  go_ret
  exact ⟨ret_bool HP.out.symm, HB.out⟩
theorem nextK_succ (l : List Bs.U) (k : Nat) : Bs.nextK l (k + 1) = if decide (0 < (Bs.gu l k).waits) && (decide (Bs.nextK l k < 0) || Bs.poor (Bs.gu l k) (Bs.gu l (Bs.nextK l k).toNat)) then (k : Int) else Bs.nextK l k := rfl
set_option maxRecDepth 20000 in
set_option maxHeartbeats 3200000 in
theorem next_any (A : Option Addr) (c : Nat) (l : List Bs.U) (lo hi : Nat) (w : World) (h : RU w lo hi A l) (hh : hi ≤ w.heap.size) (hu : Bs.usersOk l = true) :
    Calls Try.prog 36 #[.slice A l.length c] w fun e w' => e = .returned (.int .i64 (Bs.nextC l)) ∧ Below w.heap.size w w' := by
  have HR := Lib.hid h
  have HK := Lib.hid (fun k => nextK_succ l k)
  have HKB := Lib.hid (fun k => Bs.nextK_b l k)
  have HU := Lib.hid (Bs.usersOk_iff.1 hu).2
  have h5 := (Bs.usersOk_iff.1 hu).1.2
  have HC := Lib.hid (fun a b W ha hb => poorer_any a b W ha hb)
  have H0 := Lib.hid (show Bs.nextK l 0 = -1 from rfl)
  have HF := Lib.hid (show Bs.nextC l = Bs.nextK l l.length from rfl)
  clear h hu
  generalize Bs.nextC l = V at *
  generalize Bs.nextK l = nx at *
  go_enter Try.func36, Try.ntmps36
  go_wp2
  go_loopw [3, 4] (fun av i wr => ∃ k : Nat, k ≤ l.length ∧ i = .int .i64 k ∧ av = .int .i64 (nx k) ∧ Below w.heap.size w wr) (fun _ i _ => l.length - (intOf i).toNat)
  case atStart => exact ⟨0, Nat.zero_le _, rfl, by rw [H0.out], Below.refl _ _⟩
  case round =>
    obtain ⟨k, hk, rfl, rfl, hb⟩ := hrel
    have sr := hb.size
    by_cases hlt : k < l.length
    · have hru := HR.out.below hb hh
      have hnk := HK.out k
      have hkb := HKB.out k
      have huk := HU.out k hlt
      have hrk := hru.at_ hlt
      have HRU := Lib.hid hru
      have HB := Lib.hid hb
      clear hru hb HK HKB
      by_cases hw : 0 < (Bs.gu l k).waits
      · rw [decide_eq_true hw, Bool.true_and] at hnk
        by_cases hn : nx k < 0
        · rw [decide_eq_true hn, Bool.true_or, if_pos rfl] at hnk
          obtain ⟨b, o, rfl, _, _, q0, q1, q2⟩ := hrk
          have HN := Lib.hid hnk
          have i0 : (0 : Int) ≤ (k : Int) := by omega
          have i1 : (k : Int) < (l.length : Int) := by omega
          clear hnk huk HC HU
          generalize (Bs.gu l k).waits = uw at *
          have d1 : decide (uw > 0) = true := by simp; omega
          have d2 : decide (0 < uw) = true := by simp; omega
          have d3 : decide (nx k < 0) = true := by simp; omega
          go_wp2
          go_quiet (fail)
          go_wp2
          go_roundw
          case rel => exact ⟨k + 1, by omega, by go_num, by rw [HN.out], HB.out.drewN _⟩
          case measure => simp [intOf]; omega
        · obtain ⟨m, hm⟩ : ∃ m : Nat, nx k = (m : Int) := ⟨(nx k).toNat, by omega⟩
          have hml : m < l.length := by omega
          rw [decide_eq_false hn, Bool.false_or, hm, Int.toNat_natCast] at hnk
          rw [hm]
          obtain ⟨b, o, rfl, _, hbh, q0, q1, q2⟩ := hrk
          obtain ⟨b', o', eb, _, _, r0, r1, r2⟩ := HRU.out.at_ hml
          cases eb
          have C1 := Lib.hid (fun W => HC.out (Bs.gu l k) (Bs.gu l m) W huk (HU.out m hml))
          have HN := Lib.hid hnk
          have kw : b < wr.heap.size := by omega
          have i0 : (0 : Int) ≤ (k : Int) := by omega
          have i1 : (k : Int) < (l.length : Int) := by omega
          have i2 : (0 : Int) ≤ (m : Int) := by omega
          have i3 : (m : Int) < (l.length : Int) := by omega
          have d3 : decide ((m : Int) < 0) = false := by simp
          have d1 : decide ((Bs.gu l k).waits > 0) = true := by simp; omega
          have d2 : decide (0 < (Bs.gu l k).waits) = true := by simp; omega
          clear hnk huk HC HU hm hn
          generalize Bs.poor (Bs.gu l k) (Bs.gu l m) = pv at *
          generalize (Bs.gu l k).share = ks at *
          generalize (Bs.gu l k).used = ku at *
          generalize (Bs.gu l k).waits = kwt at *
          generalize (Bs.gu l m).share = ms at *
          generalize (Bs.gu l m).used = mu at *
          generalize (Bs.gu l m).waits = mw at *
          go_wp2_with fail
          go_region_held3 (fun w' => w'.cell? ⟨b, o + k * 3, none⟩ = some (.int .i64 ks) ∧ w'.cell? ⟨b, o + k * 3 + 1, none⟩ = some (.int .i64 ku) ∧ w'.cell? ⟨b, o + k * 3 + 2, none⟩ = some (.int .i64 kwt) ∧ w'.cell? ⟨b, o + m * 3, none⟩ = some (.int .i64 ms) ∧ w'.cell? ⟨b, o + m * 3 + 1, none⟩ = some (.int .i64 mu) ∧ w'.cell? ⟨b, o + m * 3 + 2, none⟩ = some (.int .i64 mw))
            (first | go_keep | (go_split_ands; refine ⟨?_, ?_, ?_, ?_, ?_, ?_⟩; (exact (hb5.cell (p := ⟨b, o + k * 3, none⟩) kw).trans q0); (exact (hb5.cell (p := ⟨b, o + k * 3 + 1, none⟩) kw).trans q1); (exact (hb5.cell (p := ⟨b, o + k * 3 + 2, none⟩) kw).trans q2); (exact (hb5.cell (p := ⟨b, o + m * 3, none⟩) kw).trans r0); (exact (hb5.cell (p := ⟨b, o + m * 3 + 1, none⟩) kw).trans r1); (exact (hb5.cell (p := ⟨b, o + m * 3 + 2, none⟩) kw).trans r2)))
            (first | (go_at_call 50; (with_reducible refine (C1.out _).mono ?_); rintro e w5 ⟨rfl, hb5⟩))
          have HB5 := Lib.hid (HB.out.trans ((((Below.refl _ wr).drewN 1).trans hb5).mono sr))
          clear hb5 q0 q1 q2 r0 r1 r2 C1
          cases pv
          · have HN2 := Lib.hid (show nx (k + 1) = (m : Int) from by rw [HN.out]; rfl)
            go_wp2
            go_roundw
            case rel => exact ⟨k + 1, by omega, by go_num, by rw [HN2.out], HB5.out⟩
            case measure => simp [intOf]; omega
          · have HN2 := Lib.hid (show nx (k + 1) = (k : Int) from by rw [HN.out]; rfl)
            go_wp2
            go_roundw
            case rel => exact ⟨k + 1, by omega, by go_num, by rw [HN2.out], HB5.out⟩
            case measure => simp [intOf]; omega
      · rw [decide_eq_false hw, Bool.false_and] at hnk
        rw [if_neg (by simp)] at hnk
        obtain ⟨b, o, rfl, _, _, q0, q1, q2⟩ := hrk
        have HN := Lib.hid hnk
        have i0 : (0 : Int) ≤ (k : Int) := by omega
        have i1 : (k : Int) < (l.length : Int) := by omega
        clear hnk huk HC HU
        generalize (Bs.gu l k).waits = uw at *
        have d1 : decide (uw > 0) = false := by simp; omega
        have d2 : decide (0 < uw) = false := by simp; omega
        go_wp2
        go_quiet (fail)
        go_wp2
        go_roundw
        case rel => exact ⟨k + 1, by omega, by go_num, by rw [HN.out], HB.out.drewN _⟩
        case measure => simp [intOf]; omega
    · obtain rfl : k = l.length := by omega
      have HB := Lib.hid hb
      clear hb
      go_wp2
      go_ret
      exact ⟨ret_int HF.out.symm, HB.out⟩
theorem NextUserS_any (A : Option Addr) (c : Nat) (l : List Bs.U) (lo hi : Nat) (w : World) (h : RU w lo hi A l) (hh : hi ≤ w.heap.size) (hl : l.length ≤ 9223372036854775807) :
    Calls Try.prog 14 #[.slice A l.length c] w fun e w' => e = .returned (.int .i64 (Bs.nextL l)) ∧ Below w.heap.size w w' := by
  have q1 := validUsersS_any A c l lo hi w h hl
  cases hu : Bs.usersOk l
  · rw [hu] at q1
    have C1 := Lib.hid q1
    have HV := Lib.hid (Bs.nextL_no hu)
    clear q1 hu h
    go_enter Try.func14, Try.ntmps14
    go_wp2_with fail
    with_reducible refine (C1.out).mono ?_
    rintro e _ ⟨rfl, rfl⟩
    go_wp2
    go_ret
    exact ⟨ret_int HV.out.symm, Below.refl _ _⟩
  · rw [hu] at q1
    have C1 := Lib.hid q1
    have C2 := Lib.hid (next_any A c l lo hi w h hh hu)
    have HV := Lib.hid (Bs.nextL_yes hu)
    clear q1 hu h
    go_enter Try.func14, Try.ntmps14
    go_wp2_with fail
    with_reducible refine (C1.out).mono ?_
    rintro e _ ⟨rfl, rfl⟩
    go_wp2_with fail
    with_reducible refine (C2.out).mono ?_
    rintro e w2 ⟨rfl, hb⟩
    have HB := Lib.hid hb
    clear hb
    go_wp2
    go_ret
    exact ⟨ret_int HV.out.symm, HB.out⟩
end Go.Proofs.Ytbmfhnijbdmjbaa
