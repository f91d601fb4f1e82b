/-
  WALKS: fair parts; one user is served; all are served, of the model.
-/
import Derived.Test.YtbmfhnijbdmjbaaR60
import Derived.Test.YtbmfhnijbdmjbaaMem8
namespace Go.Proofs.Ytbmfhnijbdmjbaa
open Go.RowKit
theorem sumZ_tk (l : List Int) (k : Nat) (hk : k < l.length) : Bs.sumZ (l.take (k + 1)) = Bs.sumZ (l.take k) + l[k] := by
  rw [List.take_succ_eq_append_getElem hk, Bs.sumZ_append]
  simp [Bs.sumZ]
theorem ssum_any (A : Option Addr) (c : Nat) (l : List Int) (lo hi : Nat) (w : World) (h : RI w lo hi A l) (hl : l.length ≤ 1000) (hp : ∀ x ∈ l, 0 ≤ x ∧ x ≤ 1000000) :
    Calls Try.prog 42 #[.slice A l.length c] w fun e w' => e = .returned (.int .i64 (Bs.sumZ l)) ∧ w = w' := by
  have HR := Lib.hid h
  have HP := Lib.hid (fun k (hk : k < l.length) => hp _ (List.getElem_mem hk))
  have HS := Lib.hid (fun k hk => sumZ_tk l k hk)
  obtain ⟨V, hV⟩ : ∃ V, V = Bs.sumZ l := ⟨_, rfl⟩
  rw [← hV]
  have HV := Lib.hid hV
  clear h hp hV
  go_enter Try.func42, Try.ntmps42
  go_wp2
  go_loop [3, 4] (fun s i => ∃ (k : Nat) (t : Int), k ≤ l.length ∧ i = .int .i64 k ∧ s = .int .i64 t ∧ t = Bs.sumZ (l.take k) ∧ 0 ≤ t ∧ t ≤ 1000000 * k) (fun _ i => l.length - (intOf i).toNat)
  case atStart => exact ⟨0, 0, Nat.zero_le _, rfl, rfl, by simp [Bs.sumZ], by omega, by omega⟩
  case round =>
    obtain ⟨k, t, hk, rfl, rfl, ht, ht0, ht1⟩ := hrel
    by_cases hlt : k < l.length
    · obtain ⟨b, o, rfl, _, _, hc⟩ := HR.out.at_ hlt
      have hp := HP.out k hlt
      have hs := HS.out k hlt
      rw [← ht] at hs
      have HS1 := Lib.hid hs
      clear hs ht HP HS
      generalize l[k] = x at *
      have hw : IntKind.i64.wrap (t + x) = t + x := IntWalk.i64_in _ ⟨by omega, by omega⟩
      go_wp2
      go_round
      case rel => exact ⟨k + 1, t + x, by omega, by go_num, by first | rfl | rw [hw], HS1.out.symm, by omega, by omega⟩
      case measure => simp [intOf]; omega
    · rw [List.take_of_length_le (by omega), ← HV.out] at ht
      have HT := Lib.hid ht
      clear ht
      go_wp2
      go_ret
      exact ⟨ret_int HT.out, rfl⟩
theorem OI.len_pos {l : List Int} {k : Nat} (h : k < l.length) : 0 < l.length := by omega
set_option maxRecDepth 20000 in
set_option maxHeartbeats 3200000 in
theorem FairPartsS_any (A : Option Addr) (c : Nat) (l : List Bs.U) (a : Int) (lo hi : Nat) (w : World) (h : RU w lo hi A l) (hh : hi ≤ w.heap.size) (hl : l.length ≤ 9223372036854775807) :
    Calls Try.prog 25 #[.slice A l.length c, .int .i64 a] w (RetI w (Bs.partL l a)) := by
  have hb0 : Below w.heap.size w (w.alloc (.cells #[] 3)) := (Below.refl _ _).alloc (Nat.le_refl _) _
  have q1 := validUsersS_any A c l lo hi _ (h.below hb0 hh) hl
  have q2 := fun W => inRange_any a 0 10000 W
  have HB0 := Lib.hid hb0
  cases hu : Bs.usersOk l
  · rw [hu] at q1
    have C1 := Lib.hid q1
    have HV := Lib.hid (Bs.partL_no (partOk_no1 (a := a) hu))
    clear q1 q2 hu h hb0
    go_enter Try.func25, Try.ntmps25
    go_wp2_with fail
    refine (C1.out).mono ?_
    rintro e _ ⟨rfl, rfl⟩
    go_wp2
    go_ret
    exact RetI.nil HB0.out HV.out
  · rw [hu] at q1
    have C1 := Lib.hid q1
    cases hda : decide (0 ≤ a ∧ a ≤ 10000)
    · rw [hda] at q2
      have C2 := Lib.hid q2
      have HV := Lib.hid (Bs.partL_no (partOk_no2 (l := l) (a := a) (by simpa using hda)))
      clear q1 q2 hu h hb0 hda
      go_enter Try.func25, Try.ntmps25
      go_wp2_with fail
      refine (C1.out).mono ?_
      rintro e _ ⟨rfl, rfl⟩
      go_wp2_with fail
      with_reducible refine (C2.out _).mono ?_
      rintro e _ ⟨rfl, rfl⟩
      go_wp2
      go_ret
      exact RetI.nil HB0.out HV.out
    · rw [hda] at q2
      have C2 := Lib.hid q2
      have ha := of_decide_eq_true hda
      obtain ⟨h1, h5⟩ := (Bs.usersOk_iff.1 hu).1
      have HV := Lib.hid (Bs.partL_yes (Bs.partOk_iff.2 ⟨hu, ha⟩))
      have hS := Bs.shS_pos hu
      have HR := Lib.hid (h.below hb0 hh)
      have h0R := Lib.hid (fun W (hb : Below w.heap.size w W) => h.below hb hh)
      have HSK := Lib.hid (fun k (hk : k < l.length) => shK_succ l k hk)
      have HSB := Lib.hid (fun k (hk : k ≤ l.length) => shK_b hu k hk)
      have HSE := Lib.hid (show shK l l.length = Bs.shS l from shK_rs l _ (Nat.le_refl _))
      have HS0 := Lib.hid (shK_zero l)
      have HUS := Lib.hid (fun k (hk : k < l.length) => Bs.shF_b hu hk)
      have HFS := Lib.hid (fun k => show Bs.shF l k = (Bs.gu l k).share from rfl)
      have HF := Lib.hid (fun k (hk : k < l.length) => And.intro (Bs.flP_b hu ha hk).1 (Bs.flP_b hu ha hk).2.1)
      have HFE := Lib.hid (fun k => show Bs.flP l a k = a * (Bs.gu l k).share / Bs.shS l from rfl)
      have HPT := Lib.hid (fun k (hk : k < l.length) => Bs.partK_take (l := l) (a := a) hk)
      have HKS := Lib.hid (fun k (hk : k < l.length) => Bs.partK_succ (l := l) (a := a) hk)
      have HKL := Lib.hid (fun k => Bs.partK_len l a k)
      have HKG := Lib.hid (fun k i (hi : i < l.length) => Bs.partK_gi (l := l) (a := a) (k := k) hi)
      have HKZ := Lib.hid (fun k (hk : k ≤ l.length) => Bs.sum_part l a hk)
      have HRE := Lib.hid (And.intro (Bs.rest_b hu ha) (show Bs.restP l a = a - Bs.flS l a from rfl))
      have HPC := Lib.hid (show Bs.partC l a = Bs.partK l a (Bs.restP l a).toNat from rfl)
      have HO0 := Lib.hid (OI.new w w.heap.size (Nat.le_refl _))
      clear q1 q2 hu h hb0 hda
      generalize Bs.flP l a = fp at *
      generalize Bs.flS l a = FS at *
      generalize Bs.shS l = S at *
      generalize shK l = sk at *
      go_enter Try.func25, Try.ntmps25
      go_wp2_with fail
      refine (C1.out).mono ?_
      rintro e _ ⟨rfl, rfl⟩
      go_wp2_with fail
      with_reducible refine (C2.out _).mono ?_
      rintro e _ ⟨rfl, rfl⟩
      clear C1 C2
      go_wp2
      go_loop [6, 7] (fun s i => ∃ k : Nat, k ≤ l.length ∧ i = .int .i64 k ∧ s = .int .i64 (sk k)) (fun _ i => l.length - (intOf i).toNat)
      case atStart => exact ⟨0, Nat.zero_le _, rfl, by rw [HS0.out]⟩
      case round =>
        obtain ⟨k, hk, rfl, rfl⟩ := hrel
        by_cases hlt : k < l.length
        · obtain ⟨b, o, rfl, _, _, q0, q1, q2⟩ := HR.out.at_ hlt
          have hs := HSK.out k hlt
          have hsb := HSB.out k (by omega)
          have hus := HUS.out k hlt
          rw [HFS.out] at hus
          have HSS := Lib.hid hs
          clear hs HSK HSB HUS HSE HS0 q1 q2 HFE
          generalize (Bs.gu l k).share = us at *
          generalize sk k = t at *
          have hw : IntKind.i64.wrap (t + us) = t + us := IntWalk.i64_in _ ⟨by omega, by omega⟩
          go_wp2
          go_round
          case rel => exact ⟨k + 1, by omega, by go_num, by rw [HSS.out]⟩
          case measure => simp [intOf]; omega
        · obtain rfl : k = l.length := by omega
          rw [HSE.out]
          clear HSK HSB HSE HS0
          have hS0 : (S == 0) = false := by rw [beq_eq_false_iff_ne]; omega
          have hS1 : 1 ≤ S := hS.1
          go_wp2
          go_loopw [5, 8] (fun v i wr => ∃ (k : Nat) (A5 : Option Addr) (c5 : Nat), k ≤ l.length ∧ i = .int .i64 k ∧ v = .slice A5 ((Bs.partK l a 0).take k).length c5 ∧ OI wr w.heap.size A5 c5 ((Bs.partK l a 0).take k) ∧ Below w.heap.size w wr) (fun _ i _ => l.length - (intOf i).toNat)
          case atStart => exact ⟨0, _, _, Nat.zero_le _, rfl, rfl, HO0.out, HB0.out⟩
          case round =>
            obtain ⟨k, A5, c5, hk, rfl, rfl, ho, hb⟩ := hrel
            have sr := hb.size
            clear HO0
            by_cases hlt : k < l.length
            · obtain ⟨b, o, rfl, _, _, q0, q1, q2⟩ := (h0R.out wr hb).at_ hlt
              have hpt := HPT.out k hlt
              have hfe := HFE.out k
              have hff := HF.out k hlt
              have hus := HUS.out k hlt
              rw [HFS.out] at hus
              have hpl : ((Bs.partK l a 0).take k).length ≤ 5 := by rw [List.length_take, HKL.out]; omega
              have HO := Lib.hid ho
              have HB := Lib.hid hb
              have HPTk := Lib.hid hpt
              have HFEk := Lib.hid hfe
              clear ho hb hpt hfe q1 q2 HUS HF HFE HPT
              generalize (Bs.gu l k).share = us at *
              generalize fp k = y at *
              generalize (Bs.partK l a 0).take k = P at *
              have hp : 0 ≤ a * us := Int.mul_nonneg ha.1 (by omega)
              have hp2 : a * us ≤ 1000000000 := by
                calc a * us ≤ 10000 * us := Int.mul_le_mul_of_nonneg_right ha.2 (by omega)
                  _ ≤ 1000000000 := by omega
              have hw1 : IntKind.i64.wrap (a * us) = a * us := IntWalk.i64_in _ ⟨by omega, by omega⟩
              have hq : a * us / S = y := HFEk.out.symm
              go_wp2_with (at_builtin; go_loud (refine push_int rfl _ _ rfl w.heap.size A5 c5 P y rfl (HO.out.alloc _) wr.heap.size 1 rfl (by simp [go_sem]) (by omega) (by simp; omega) ?_; intro A7 c7 w7 ho7 hb7 _))
              go_roundw
              case rel => exact ⟨k + 1, A7, c7, by omega, by go_num, by rw [HPTk.out, List.length_append]; rfl, by rw [HPTk.out]; exact ho7, (HB.out.alloc sr _).trans hb7⟩
              case measure => simp [intOf]; omega
            · obtain rfl : k = l.length := by omega
              have e0 : (Bs.partK l a 0).take l.length = Bs.partK l a 0 := List.take_of_length_le (by rw [HKL.out]; exact Nat.le_refl _)
              rw [e0] at ho
              rw [e0, HKL.out]
              obtain ⟨b0, rfl, hbb0, x1, x2, x3⟩ := ho.setA (k := 0) (by rw [HKL.out]; omega)
              clear x1 x2 x3
              obtain ⟨⟨r0, r1⟩, re⟩ := HRE.out
              obtain ⟨r, hr⟩ : ∃ r : Nat, Bs.restP l a = (r : Int) := ⟨(Bs.restP l a).toNat, by omega⟩
              have HPE := Lib.hid (show Bs.partC l a = Bs.partK l a r from by rw [HPC.out, hr, Int.toNat_natCast])
              rw [hr] at r1 re
              have HO := Lib.hid ho
              have HB := Lib.hid hb
              clear ho hb hr e0 HPT HFE HUS HFS HR HPC HRE
              go_wp2
              go_loopw [9] (fun i wr2 => ∃ q : Nat, q ≤ r ∧ i = .int .i64 (q : Int) ∧ OI wr2 w.heap.size (some ⟨b0, 0, none⟩) c5 (Bs.partK l a q) ∧ Below w.heap.size w wr2) (fun i _ => r - (intOf i).toNat)
              case atStart => exact ⟨0, Nat.zero_le _, rfl, HO.out, HB.out⟩
              case round =>
                obtain ⟨q, hq, rfl, ho, hb⟩ := hrel
                have hql : q < l.length := by omega
                have hkl := HKL.out q
                have C3 := ssum_any (some ⟨b0, 0, none⟩) c5 (Bs.partK l a q) _ _ wr ho.ri (by rw [hkl]; omega) (by
                  intro x hx
                  obtain ⟨i, hi, rfl⟩ := List.mem_iff_getElem.1 hx
                  have hi2 : i < l.length := by rw [← hkl]; exact hi
                  rw [← Bs.gi_at hi, HKG.out q i hi2]
                  have := HF.out i hi2
                  split <;> omega)
                rw [HKZ.out q (by omega), hkl] at C3
                have C3 := Lib.hid C3
                have HBq := Lib.hid hb
                by_cases hqr : q < r
                · have hg := HKG.out q q hql
                  rw [if_neg (by omega), Int.add_zero] at hg
                  have hfb := HF.out q hql
                  rw [← hg] at hfb
                  obtain ⟨b', e', hbl', hbs', hc', hf', hO'⟩ := ho.setO (show q < (Bs.partK l a q).length by rw [hkl]; exact hql) (Bs.gi (Bs.partK l a q) q + 1)
                  cases e'
                  rw [← Bs.gi_at (by rw [hkl]; exact hql)] at hc'
                  rw [← HKS.out q hql] at hO'
                  have HS := Lib.hid hO'
                  have HB' := Lib.hid (hb.setCell (p := ⟨b0, q, none⟩) hbl' (.int .i64 (Bs.gi (Bs.partK l a q) q + 1)))
                  have d1 : FS + (q : Int) < a := by omega
                  have i0 : (0 : Int) ≤ (q : Int) := by omega
                  have i1 : (q : Int) < (l.length : Int) := by omega
                  clear ho hb hg hkl hO' HKG HKS HKL HKZ HF
                  generalize Bs.gi (Bs.partK l a q) q = x at *
                  have hw : IntKind.i64.wrap (x + 1) = x + 1 := IntWalk.i64_in _ ⟨by omega, by omega⟩
                  go_wp2_with fail
                  with_reducible refine (C3.out).mono ?_
                  rintro e _ ⟨rfl, rfl⟩
                  go_wp2
                  go_roundw
                  case rel => exact ⟨q + 1, by omega, by go_num, HS.out, HB'.out⟩
                  case measure => simp [intOf]; omega
                · obtain rfl : q = r := by omega
                  have d1 : ¬ FS + (q : Int) < a := by omega
                  have HOq := Lib.hid ho
                  have HL := Lib.hid hkl
                  clear ho hb hkl HKG HKS HKL HKZ HF
                  go_wp2_with fail
                  with_reducible refine (C3.out).mono ?_
                  rintro e _ ⟨rfl, rfl⟩
                  go_wp2
                  go_ret
                  rw [HV.out, HPE.out]
                  refine ⟨⟨_, _, ?_, HOq.out⟩, HBq.out⟩
                  rw [HL.out]
                  rfl
end Go.Proofs.Ytbmfhnijbdmjbaa
