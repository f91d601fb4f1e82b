/-
  WALKS: one user is served; all are served, of the model.
-/
import Derived.Test.YtbmfhnijbdmjbaaR60
import Derived.Test.YtbmfhnijbdmjbaaMem9
namespace Go.Proofs.Ytbmfhnijbdmjbaa
open Go.RowKit
/-- the users behind NextUser's task, or none -/
def Bs.serL (l : List Bs.U) (t : Int) : List Bs.U := if Bs.seOk l t then Bs.srvL l t else []
def Bs.serA (l : List Bs.U) (t : Int) : Int := if Bs.seOk l t then Bs.nextC l else -1
/-- users, a number and a bool handed back -/
def RetUs (w : World) (l : List Bs.U) (t : Int) (e : Ending) (w' : World) : Prop := (∃ A c, e = .returned (.tuple #[.slice A (Bs.serL l t).length c, .int .i64 (Bs.serA l t), .bool (Bs.seOk l t)]) ∧ OR w' w.heap.size A c (Bs.serL l t)) ∧ Below w.heap.size w w'
theorem RetUs.no {w w' : World} {l : List Bs.U} {t : Int} (h : Bs.seOk l t = false) (hb : Below w.heap.size w w') : RetUs w l t (.returned (.tuple #[.slice none 0 0, .int .i64 (-1), .bool false])) w' := by
  unfold RetUs Bs.serL Bs.serA
  rw [h]
  exact ⟨⟨none, 0, rfl, OR.none_ w' _⟩, hb⟩
theorem RetUs.yes {w w' : World} {l : List Bs.U} {t : Int} {A : Option Addr} {c n : Nat} {k : Int} {S : List Bs.U} (h : Bs.seOk l t = true) (hk : k = Bs.nextC l) (hS : S = Bs.srvL l t) (hn : n = S.length) (ho : OR w' w.heap.size A c S) (hb : Below w.heap.size w w') : RetUs w l t (.returned (.tuple #[.slice A n c, .int .i64 k, .bool true])) w' := by
  subst hk hS hn
  unfold RetUs Bs.serL Bs.serA
  rw [h]
  exact ⟨⟨A, c, rfl, ho⟩, hb⟩
set_option maxRecDepth 20000 in
set_option maxHeartbeats 3200000 in
theorem ServeUserS_any (A : Option Addr) (c : Nat) (l : List Bs.U) (t : Int) (lo hi : Nat) (w : World) (h : RU w lo hi A l) (hh : hi ≤ w.heap.size) (hl : l.length ≤ 9223372036854775807) :
    Calls Try.prog 16 #[.slice A l.length c, .int .i64 t] w (RetUs w l t) := by
  have q1 := validUsersS_any A c l lo hi w h hl
  have q2 := fun W => inRange_any t 1 20 W
  cases hu : Bs.usersOk l
  · rw [hu] at q1
    have C1 := Lib.hid q1
    have HV := Lib.hid (show Bs.seOk l t = false from by unfold Bs.seOk Bs.srvOk; rw [hu]; rfl)
    clear q1 q2 hu h
    go_enter Try.func16, Try.ntmps16
    go_wp2_with fail
    with_reducible refine (C1.out).mono ?_
    rintro e _ ⟨rfl, rfl⟩
    go_wp2
    go_ret3
    exact RetUs.no HV.out (Below.refl _ _)
  · rw [hu] at q1
    have C1 := Lib.hid q1
    cases htt : decide (1 ≤ t ∧ t ≤ 20)
    · rw [htt] at q2
      have C2 := Lib.hid q2
      have HV := Lib.hid (show Bs.seOk l t = false from by unfold Bs.seOk Bs.srvOk; rw [htt, hu]; rfl)
      clear q1 q2 hu htt h
      go_enter Try.func16, Try.ntmps16
      go_wp2_with fail
      with_reducible refine (C1.out).mono ?_
      rintro e _ ⟨rfl, rfl⟩
      go_wp2_with fail
      with_reducible refine (C2.out _).mono ?_
      rintro e _ ⟨rfl, rfl⟩
      go_wp2
      go_ret3
      exact RetUs.no HV.out (Below.refl _ _)
    · rw [htt] at q2
      have C2 := Lib.hid q2
      have ht := of_decide_eq_true htt
      have C3 := Lib.hid (fun W (hb : Below w.heap.size w W) => next_any A c l lo hi W (h.below hb hh) (Nat.le_trans hh hb.size) hu)
      have HR := Lib.hid (fun W (hb : Below w.heap.size w W) => h.below hb hh)
      have hso : Bs.srvOk l t = true := Bs.srvOk_iff.2 ⟨hu, ht⟩
      by_cases h0 : Bs.nextC l < 0
      · have HV := Lib.hid (show Bs.seOk l t = false from by unfold Bs.seOk; rw [hso]; simp; omega)
        clear q1 q2 hu htt h hso
        generalize Bs.nextC l = N at *
        go_enter Try.func16, Try.ntmps16
        go_wp2_with fail
        with_reducible refine (C1.out).mono ?_
        rintro e _ ⟨rfl, rfl⟩
        go_wp2_with fail
        with_reducible refine (C2.out _).mono ?_
        rintro e _ ⟨rfl, rfl⟩
        have C4 := Lib.hid (C3.out _ (Below.refl _ _))
        clear C1 C2 C3
        go_wp2_with fail
        with_reducible refine (C4.out).mono ?_
        rintro e w2 ⟨rfl, hb⟩
        have HB := Lib.hid hb
        clear hb
        go_wp2
        go_ret3
        exact RetUs.no HV.out HB.out
      · have HV := Lib.hid (show Bs.seOk l t = true from Bs.seOk_iff.2 ⟨hso, by omega⟩)
        obtain ⟨hm, hwm⟩ := Bs.next_at hu (by omega)
        obtain ⟨m, em⟩ : ∃ m : Nat, Bs.nextC l = (m : Int) := ⟨(Bs.nextC l).toNat, by omega⟩
        have HM := Lib.hid em
        have hsv : Bs.srvL l t = l.set m (Bs.servU (Bs.gu l m) t) := by unfold Bs.srvL; rw [em]; rfl
        have hok := (Bs.usersOk_iff.1 hu).2 m (by rw [em] at hm; exact hm)
        obtain ⟨_, hus, hwt⟩ := Bs.uOk_iff.1 hok
        have h5 := (Bs.usersOk_iff.1 hu).1.2
        rw [em] at hm hwm C3
        have hm : m < l.length := hm
        have HSV := Lib.hid hsv
        clear q1 q2 hu htt hso hsv hok h0 hwm
        obtain ⟨b, o, rfl, _, _, _⟩ := h.at_ hm
        go_enter Try.func16, Try.ntmps16
        go_wp2_with fail
        with_reducible refine (C1.out).mono ?_
        rintro e _ ⟨rfl, rfl⟩
        go_wp2_with fail
        with_reducible refine (C2.out _).mono ?_
        rintro e _ ⟨rfl, rfl⟩
        have C4 := Lib.hid (C3.out _ (Below.refl _ _))
        have d0 : ¬ (m : Int) < 0 := by omega
        clear C1 C2
        go_wp2_with fail
        with_reducible refine (C4.out).mono ?_
        rintro e w2 ⟨rfl, hb2⟩
        have C5 := Lib.hid (C3.out w2 hb2)
        have HB2 := Lib.hid hb2
        have s2 := hb2.size
        clear C4 hb2 C3
        go_wp2_with fail
        with_reducible refine (C5.out).mono ?_
        rintro e w3 ⟨rfl, hb3⟩
        have s3 := hb3.size
        have hb03 := HB2.out.trans (hb3.mono s2)
        have HB3 := Lib.hid (hb03.alloc (Nat.le_trans s2 s3) (.cells #[] 46))
        have HC3 := Lib.hid ((HR.out _ HB3.out).cells)
        have HO3 := Lib.hid (OR.nil w3 w.heap.size (Nat.le_trans s2 s3))
        clear C5 hb3 hb03 HB2 h HR
        go_wp2_with (at_builtin; go_loud (refine push_usersO rfl _ _ rfl w.heap.size (some ⟨w3.heap.size, 0, none⟩) 0 [] l rfl HO3.out b o c rfl HC3.out (by simp; omega) (by simp; omega) ?_; intro A7 c7 w7 ho7 hb7; have HB7 := Lib.hid (HB3.out.trans hb7); have HO7 := Lib.hid ho7; clear hb7 ho7))
        rw [List.nil_append] at HO7
        obtain ⟨us, hus2⟩ : ∃ us, us = (Bs.gu l m).used := ⟨_, rfl⟩
        obtain ⟨wt, hwt2⟩ : ∃ wt, wt = (Bs.gu l m).waits := ⟨_, rfl⟩
        obtain ⟨us', hus'⟩ : ∃ us', us' = (if 10000 < us + t then 10000 else us + t) := ⟨_, rfl⟩
        obtain ⟨b7, rfl, hbb, hbl, k1, k2, k3, k4, k5, hO⟩ := HO7.out.set2 hm us' (wt - 1)
        have HSS := Lib.hid (show l.set m ⟨(Bs.gu l m).share, us', wt - 1⟩ = Bs.srvL l t from by rw [HSV.out, hus', hus2, hwt2]; rfl)
        rw [← hus2] at hus k1
        rw [← hwt2] at hwt k2 k4
        have HOO := Lib.hid hO
        have HBB := Lib.hid ((HB7.out.setCell (p := ⟨b7, m * 3 + 1, none⟩) hbb (.int .i64 us')).setCell (p := ⟨b7, m * 3 + 2, none⟩) hbb (.int .i64 (wt - 1)))
        have e1 := hus'.symm
        have hw1 : IntKind.i64.wrap (us + t) = us + t := IntWalk.i64_in _ ⟨by omega, by omega⟩
        have hw2 : IntKind.i64.wrap (wt - 1) = wt - 1 := IntWalk.i64_in _ ⟨by omega, by omega⟩
        have i0 : (0 : Int) ≤ (m : Int) := by omega
        have i1 : (m : Int) < (l.length : Int) := by omega
        have k3a := k3 (m * 3 + 1)
        have k4a := k4 (.int .i64 us')
        have k5a := k5 (.int .i64 us') (m * 3 + 2)
        have hmm : 0 ≤ (m : Int) ∧ (m : Int) < (l.length : Int) := ⟨i0, i1⟩
        clear hO hus' hus2 hwt2 HO7 HB7 k3 k4 k5 HSV HC3 HO3 HB3 em d0
        by_cases hc : 10000 < us + t
        · rw [if_pos hc] at e1
          subst e1
          go_wp2
          iterate 6 (try (unfold Oper.upon; go_simp; go_wp2))
          go_ret3
          exact RetUs.yes HV.out HM.out.symm HSS.out (by simp) HOO.out HBB.out
        · rw [if_neg hc] at e1
          subst e1
          go_wp2
          iterate 6 (try (unfold Oper.upon; go_simp; go_wp2))
          go_ret3
          exact RetUs.yes HV.out HM.out.symm HSS.out (by simp) HOO.out HBB.out
theorem serve_some {l : List Bs.U} {t : Int} (hu : Bs.usersOk l = true) (ht : 1 ≤ t ∧ t ≤ 20) (h0 : ¬ Bs.nextC l < 0) : Bs.seOk l t = true ∧ Bs.serL l t = Bs.srvL l t ∧ Bs.serA l t = Bs.nextC l := by
  have h : Bs.seOk l t = true := Bs.seOk_iff.2 ⟨Bs.srvOk_iff.2 ⟨hu, ht⟩, by omega⟩
  refine ⟨h, ?_, ?_⟩
  · unfold Bs.serL; rw [h]; rfl
  · unfold Bs.serA; rw [h]; rfl
set_option maxRecDepth 20000 in
set_option maxHeartbeats 3200000 in
theorem ServeAllS_any (A : Option Addr) (c : Nat) (l : List Bs.U) (t : Int) (lo hi : Nat) (w : World) (h : RU w lo hi A l) (hh : hi ≤ w.heap.size) (hl : l.length ≤ 9223372036854775807) :
    Calls Try.prog 20 #[.slice A l.length c, .int .i64 t] w (RetI w (Bs.seqL l t)) := by
  have hb0 : Below w.heap.size w (w.alloc (.cells #[] 3)) := (Below.refl _ _).alloc (Nat.le_refl _) _
  have q1 := validUsersS_any A c l lo hi _ (h.below hb0 hh) hl
  have q2 := fun W => inRange_any t 1 20 W
  have HB0 := Lib.hid hb0
  cases hu : Bs.usersOk l
  · rw [hu] at q1
    have C1 := Lib.hid q1
    have HV := Lib.hid (Bs.seqL_no (l := l) (t := t) (by unfold Bs.srvOk; rw [hu]; rfl))
    clear q1 q2 hu h hb0
    go_enter Try.func20, Try.ntmps20
    go_wp2_with fail
    with_reducible refine (C1.out).mono ?_
    rintro e _ ⟨rfl, rfl⟩
    go_wp2
    go_ret
    exact RetI.nil HB0.out HV.out
  · rw [hu] at q1
    have C1 := Lib.hid q1
    cases htt : decide (1 ≤ t ∧ t ≤ 20)
    · rw [htt] at q2
      have C2 := Lib.hid q2
      have HV := Lib.hid (Bs.seqL_no (l := l) (t := t) (by unfold Bs.srvOk; rw [htt]; simp))
      clear q1 q2 hu htt h hb0
      go_enter Try.func20, Try.ntmps20
      go_wp2_with fail
      with_reducible refine (C1.out).mono ?_
      rintro e _ ⟨rfl, rfl⟩
      go_wp2_with fail
      with_reducible refine (C2.out _).mono ?_
      rintro e _ ⟨rfl, rfl⟩
      go_wp2
      go_ret
      exact RetI.nil HB0.out HV.out
    · rw [htt] at q2
      have C2 := Lib.hid q2
      have ht := of_decide_eq_true htt
      obtain ⟨ALL, hALL⟩ : ∃ ALL, ALL = Bs.seqC l t := ⟨_, rfl⟩
      have HV := Lib.hid (show Bs.seqL l t = ALL from by rw [Bs.seqL_yes (Bs.srvOk_iff.2 ⟨hu, ht⟩), hALL])
      have HALL := Lib.hid (show [] ++ Bs.seqC l t = ALL from by rw [hALL]; rfl)
      have HAL := Lib.hid (show ALL.length ≤ 30 from by rw [hALL, Bs.seqC_len hu ht]; exact Bs.wN_le hu)
      have HU := Lib.hid hu
      have HM0 := Lib.hid (show LM w (w.alloc (.cells #[] 3)) lo A c l from .inl ((h.below hb0 hh).more (Nat.le_refl _) hh))
      have HO0 := Lib.hid (OI.new w w.heap.size (Nat.le_refl _))
      have hl5 := (Bs.usersOk_iff.1 hu).1.2
      by_cases hlo : lo ≤ w.heap.size
      rotate_left
      · exact absurd h (by
          intro h2
          have h1 := (Bs.usersOk_iff.1 hu).1.1
          obtain ⟨b, o, _, h3, h4, _⟩ := h2 0 (by omega)
          omega)
      clear q1 q2 hu htt h hb0 hALL
      go_enter Try.func20, Try.ntmps20
      go_wp2_with fail
      with_reducible refine (C1.out).mono ?_
      rintro e _ ⟨rfl, rfl⟩
      go_wp2_with fail
      with_reducible refine (C2.out _).mono ?_
      rintro e _ ⟨rfl, rfl⟩
      clear C1 C2
      go_wp2
      go_loopw [0, 5, 6, 7, 8] (fun v0 v5 _ _ _ wr => ∃ (A4 : Option Addr) (c4 : Nat) (lc : List Bs.U) (A5 : Option Addr) (c5 : Nat) (O : List Int), v0 = .slice A4 lc.length c4 ∧ v5 = .slice A5 O.length c5 ∧ LM w wr lo A4 c4 lc ∧ OI wr w.heap.size A5 c5 O ∧ Bs.usersOk lc = true ∧ O ++ Bs.seqC lc t = ALL ∧ Below w.heap.size w wr) (fun _ v5 _ _ _ _ => 31 - lenOf v5)
      case atStart => exact ⟨_, _, l, _, _, [], rfl, rfl, HM0.out, HO0.out, HU.out, HALL.out, HB0.out⟩
      case round =>
        clear HM0 HO0 HU HALL HB0
        obtain ⟨A4, c4, lc, A5, c5, O, rfl, rfl, hm, ho, hu, he, hb⟩ := hrel
        have sr := hb.size
        have hlc5 := (Bs.usersOk_iff.1 hu).1.2
        have C3 := Lib.hid (next_any A4 c4 lc lo wr.heap.size wr (hm.ru sr hlo) (Nat.le_refl _) hu)
        by_cases h0 : Bs.nextC lc < 0
        · have heO : O = ALL := by rw [← he, Bs.seqC_end hu h0, List.append_nil]
          subst heO
          have HO := Lib.hid (fun W (hbW : Below wr.heap.size wr W) => ho.below hbW (Nat.le_refl _))
          have HB := Lib.hid hb
          clear hm hu he ho hb
          generalize Bs.nextC lc = N at *
          go_wp2_with fail
          with_reducible refine (C3.out).mono ?_
          rintro e w2 ⟨rfl, hb2⟩
          have HO2 := Lib.hid (HO.out w2 hb2)
          have HB2 := Lib.hid (HB.out.trans (hb2.mono sr))
          have d1 : ¬ (0 : Int) ≤ N := by omega
          clear hb2 C3 HO HB
          go_wp2
          go_ret
          rw [HV.out]
          exact ⟨⟨A5, c5, rfl, HO2.out⟩, HB2.out⟩
        · obtain ⟨s1, s2, s3⟩ := serve_some (t := t) hu ht h0
          have hstep := Bs.seqC_step (t := t) hu (by omega)
          have hok2 := Bs.srvL_ok hu (by omega) ht
          have hlO : O.length + 1 ≤ 30 := by
            have h1 := congrArg List.length he
            rw [hstep, List.length_append, List.length_cons] at h1
            have := HAL.out
            omega
          have he2 : (O ++ [Bs.nextC lc]) ++ Bs.seqC (Bs.srvL lc t) t = ALL := by rw [List.append_assoc, List.singleton_append, ← hstep, he]
          have HE2 := Lib.hid he2
          have HOK2 := Lib.hid hok2
          have c4' := fun W (hbW : Below wr.heap.size wr W) => ServeUserS_any A4 c4 lc t lo wr.heap.size W ((hm.ru sr hlo).below hbW (Nat.le_refl _)) hbW.size (by omega)
          unfold RetUs at c4'
          rw [s1, s2, s3] at c4'
          have C4 := Lib.hid c4'
          have HO := Lib.hid (fun W (hbW : Below wr.heap.size wr W) => ho.below hbW (Nat.le_refl _))
          have HB := Lib.hid hb
          have hn1 : (Bs.srvL lc t).length = lc.length := Bs.srvL_len lc t
          have d1 : (0 : Int) ≤ Bs.nextC lc := by omega
          clear hm hu he he2 hok2 hstep ho hb c4' s1 s2 s3
          generalize Bs.nextC lc = N at *
          generalize Bs.srvL lc t = SL at *
          go_wp2_with fail
          with_reducible refine (C3.out).mono ?_
          rintro e w2 ⟨rfl, hb2⟩
          have s2 := hb2.size
          have C5 := Lib.hid (C4.out w2 hb2)
          have HO2 := Lib.hid (HO.out w2 hb2)
          have HB2 := Lib.hid (HB.out.trans (hb2.mono sr))
          clear hb2 C3 C4 HO HB
          go_wp2_with fail
          with_reducible refine (C5.out).mono ?_
          rintro e w3 ⟨⟨A7, c7, rfl, ho7⟩, hb3⟩
          have s3 := hb3.size
          have HO3 := Lib.hid (HO2.out.below hb3 (Nat.le_refl _))
          have HB3 := Lib.hid (HB2.out.trans (hb3.mono (Nat.le_trans sr s2)))
          have HL7 := Lib.hid (show OR w3 w.heap.size A7 c7 SL from OR.lower ho7 (Nat.le_trans sr s2))
          clear ho7 hb3 C5 HO2 HB2
          go_wp2_with (at_builtin; go_loud (refine push_int rfl _ _ rfl w.heap.size A5 c5 O N rfl (HO3.out.alloc _) w3.heap.size 1 rfl (by simp [go_sem]) (by omega) (by simp; omega) ?_; intro A8 c8 w8 ho8 hb8 hg8; have HL8 := Lib.hid ((HL7.out.alloc (.cells #[.int .i64 N] 3)).kept hg8 (OR.ne_oi (HL7.out.alloc _) (HO3.out.alloc (.cells #[.int .i64 N] 3)))); have HB8 := Lib.hid hb8; have HO8 := Lib.hid ho8; clear hb8 ho8 hg8))
          go_roundw
          case rel => exact ⟨A7, c7, SL, A8, c8, O ++ [N], by first | rfl | rw [hn1], by rw [List.length_append]; rfl, .inr HL8.out, HO8.out, HOK2.out, HE2.out, (HB3.out.alloc (Nat.le_trans sr (Nat.le_trans s2 s3)) _).trans HB8.out⟩
          case measure => simp [lenOf]; omega
end Go.Proofs.Ytbmfhnijbdmjbaa
