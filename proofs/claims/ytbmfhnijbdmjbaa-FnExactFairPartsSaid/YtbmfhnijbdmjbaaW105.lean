/-
  WALKS: an amount is split by shares; one user is served, of the program.
-/
import Derived.Test.YtbmfhnijbdmjbaaW104
import Derived.Test.YtbmfhnijbdmjbaaMath82
import Derived.Test.YtbmfhnijbdmjbaaK8
namespace Go.Proofs.Ytbmfhnijbdmjbaa
open Go.RowKit
theorem shK_rs (l : List Bs.U) : ∀ k, k ≤ l.length → shK l k = Bs.rs k (Bs.shF l) := by
  intro k
  induction k with
  | zero => intro _; rw [shK_zero, Bs.rs_zero]
  | succ k ih => intro hk; rw [shK_succ l k (by omega), Bs.rs_succ, ih (by omega)]; rfl
theorem partOk_no1 {l : List Bs.U} {a : Int} (h : Bs.usersOk l = false) : Bs.partOk l a = false := by unfold Bs.partOk; rw [h]; rfl
theorem partOk_no2 {l : List Bs.U} {a : Int} (h : ¬ (0 ≤ a ∧ a ≤ 10000)) : Bs.partOk l a = false := by unfold Bs.partOk; rw [decide_eq_false h, Bool.and_false]
theorem flS_le {l : List Bs.U} {a : Int} (h : Bs.usersOk l = true) (ha : 0 ≤ a ∧ a ≤ 10000) : ∀ k, k ≤ l.length → 0 ≤ Bs.rs k (Bs.flP l a) ∧ Bs.rs k (Bs.flP l a) ≤ 100000 * k := by
  intro k
  induction k with
  | zero => intro _; rw [Bs.rs_zero]; omega
  | succ k ih =>
    intro hk
    rw [Bs.rs_succ]
    have := ih (by omega)
    have := Bs.flP_b h ha (i := k) (by omega)
    omega
set_option maxRecDepth 20000 in
set_option maxHeartbeats 3200000 in
theorem FairParts_any (A : Option Addr) (c : Nat) (l : List Bs.U) (a : Int) (lo hi : Nat) (w : World) (h : RU w lo hi A l) (hh : hi ≤ w.heap.size) (hl : l.length ≤ 9223372036854775807) :
    Calls Try.prog 26 #[.slice A l.length c, .int .i64 a] w (RetI w (Bs.partL l a)) := by
  have q1 := ValidUsers_any A c l lo hi w h hh hl
  cases hu : Bs.usersOk l
  · rw [hu] at q1
    have C1 := Lib.hid q1
    have HV := Lib.hid (Bs.partL_no (partOk_no1 (a := a) hu))
    clear q1 hu h
    go_enter Try.func26, Try.ntmps26
    go_wp2_with fail
    with_reducible refine (C1.out).mono ?_
    rintro e w1 ⟨rfl, hb⟩
    have HB := Lib.hid hb
    clear hb
    go_wp2
    go_ret
    exact RetI.nil HB.out HV.out
  · rw [hu] at q1
    have C1 := Lib.hid q1
    by_cases ha0 : a < 0
    · have HV := Lib.hid (Bs.partL_no (partOk_no2 (l := l) (a := a) (by omega)))
      clear q1 hu h
      go_enter Try.func26, Try.ntmps26
      go_wp2_with fail
      with_reducible refine (C1.out).mono ?_
      rintro e w1 ⟨rfl, hb⟩
      have HB := Lib.hid hb
      clear hb
      go_wp2
      go_ret
      exact RetI.nil HB.out HV.out
    by_cases ha1 : 10000 < a
    · have HV := Lib.hid (Bs.partL_no (partOk_no2 (l := l) (a := a) (by omega)))
      clear q1 hu h
      go_enter Try.func26, Try.ntmps26
      go_wp2_with fail
      with_reducible refine (C1.out).mono ?_
      rintro e w1 ⟨rfl, hb⟩
      have HB := Lib.hid hb
      clear hb
      go_wp2
      go_ret
      exact RetI.nil HB.out HV.out
    have ha : 0 ≤ a ∧ a ≤ 10000 := by omega
    obtain ⟨h1, h5⟩ := (Bs.usersOk_iff.1 hu).1
    have HV := Lib.hid (Bs.partL_yes (Bs.partOk_iff.2 ⟨hu, ha⟩))
    have c2 := fun W (hb : Below w.heap.size w W) => allShares_any A c l lo hi W (h.below hb hh) (Nat.le_trans hh hb.size) hu
    rw [show shK l l.length = Bs.shS l from shK_rs l _ (Nat.le_refl _)] at c2
    have C2 := Lib.hid c2
    have hmk := make_ints l.length (by omega)
    have hS := Bs.shS_pos hu
    have HR := Lib.hid h
    have HF := Lib.hid (fun k (hk : k < l.length) => And.intro (Bs.flP_b hu ha hk) (Bs.shF_b hu hk))
    have HFB := Lib.hid (fun k (hk : k < l.length) => And.intro (Bs.flP_b hu ha hk).1 (Bs.flP_b hu ha hk).2.1)
    have HFE := Lib.hid (fun k => show Bs.flP l a k = a * (Bs.gu l k).share / Bs.shS l from rfl)
    have HFS := Lib.hid (fun k => show Bs.shF l k = (Bs.gu l k).share from rfl)
    have HRS := Lib.hid (fun k => Bs.rs_succ k (Bs.flP l a))
    have HRB := Lib.hid (fun k (hk : k ≤ l.length) => flS_le hu ha k hk)
    have HPS := Lib.hid (fun k (hk : k < l.length) => Bs.prefP_succ (l := l) (a := a) hk)
    have HP0 := Lib.hid (Bs.prefP_zero l a)
    have HPF := Lib.hid (Bs.prefP_full l a)
    have HPL := Lib.hid (fun k => Bs.prefP_len l a k)
    have HPG := Lib.hid (fun k (hk : k < l.length) => show Bs.gi (Bs.prefP l a (k + 1)) k = Bs.flP l a k from by rw [Bs.prefP_gi hk, if_pos (by omega)])
    have HKS := Lib.hid (fun k (hk : k < l.length) => Bs.partK_succ (l := l) (a := a) hk)
    have HKL := Lib.hid (fun k => Bs.partK_len l a k)
    have HKG := Lib.hid (fun k (hk : k < l.length) => Bs.partK_gi (l := l) (a := a) (k := k) hk)
    have HRE := Lib.hid (And.intro (Bs.rest_b hu ha) (show Bs.restP l a = a - Bs.rs l.length (Bs.flP l a) from rfl))
    have HPC := Lib.hid (show Bs.partC l a = Bs.partK l a (Bs.restP l a).toNat from rfl)
    clear q1 c2 hu h ha0 ha1
    generalize Bs.flP l a = fp at *
    generalize Bs.shS l = S at *
    go_enter Try.func26, Try.ntmps26
    go_wp2_with fail
    with_reducible refine (C1.out).mono ?_
    rintro e w1 ⟨rfl, hb1⟩
    have s1 := hb1.size
    have hb1a : Below w.heap.size w (w1.alloc (.cells (intsA (List.replicate l.length 0)) 3)) := hb1.alloc s1 _
    have B1 : Arr (w1.alloc (.cells (intsA (List.replicate l.length 0)) 3)) w1.heap.size (Bs.prefP l a 0) := by rw [HP0.out]; exact Blk.new w1 3 _
    generalize (.cells (intsA (List.replicate l.length 0)) 3 : Obj) = ob at *
    have HB1 := Lib.hid B1
    have HBa := Lib.hid hb1a
    clear hb1 B1 hb1a C1
    go_wp2_with fail
    with_reducible refine (C2.out _ HBa.out).mono ?_
    rintro e w2 ⟨rfl, hb2⟩
    have HB2 := Lib.hid (HBa.out.trans (hb2.mono HBa.out.size))
    have HA2 := Lib.hid (HB1.out.below hb2 (by simp))
    clear hb2 C2 HB1 HBa hmk
    go_wp2
    go_loopw [7, 30] (fun rv i wr => ∃ k : Nat, k ≤ l.length ∧ i = .int .i64 k ∧ rv = .int .i64 (a - Bs.rs k fp) ∧ Arr wr w1.heap.size (Bs.prefP l a k) ∧ Below w.heap.size w wr) (fun _ i _ => l.length - (intOf i).toNat)
    case atStart => exact ⟨0, Nat.zero_le _, rfl, by rw [Bs.rs_zero, Int.sub_zero], HA2.out, HB2.out⟩
    case round =>
      obtain ⟨k, hk, rfl, rfl, hA, hb⟩ := hrel
      clear HA2 HB2
      have sr := hb.size
      by_cases hlt : k < l.length
      · obtain ⟨b, o, rfl, _, _, q0, q1, q2⟩ := (HR.out.below hb hh).at_ hlt
        obtain ⟨⟨f0, f1, f2, f3⟩, f4⟩ := HF.out k hlt
        have fe := HFE.out k
        have fs := HFS.out k
        have hrs := HRS.out k
        have hrb := HRB.out k (by omega)
        have hpl := HPL.out k
        have hpl2 := HPL.out (k + 1)
        have hA1 : Arr (wr.alloc (.cells #[.int .i64 (Bs.gu l k).share, .int .i64 (Bs.gu l k).used, .int .i64 (Bs.gu l k).waits] 46)) w1.heap.size (Bs.prefP l a k) := Blk.alloc hA _
        have kc := hA1.cell (i := k) (by rw [hpl]; exact hlt)
        have kf := hA1.frozen k
        rw [fs] at f2 f3 f4
        have hps := HPS.out k hlt
        have hA2 := hA1.set_ k (fp k)
        rw [← hps] at hA2
        have HS := Lib.hid hA2
        have HB := Lib.hid (((hb.alloc sr (.cells #[.int .i64 (Bs.gu l k).share, .int .i64 (Bs.gu l k).used, .int .i64 (Bs.gu l k).waits] 46))).setCell (p := ⟨w1.heap.size, k, none⟩) s1 (.int .i64 (fp k)))
        have HRSk := Lib.hid hrs
        have HFEk := Lib.hid fe
        have HLL := Lib.hid hpl
        clear hA hA1 hA2 hb fs hrs fe hps hpl hpl2 HF HFE HFS HRS HRB HPS HPG HP0 HPF HKS HKL HKG
        generalize (Bs.gu l k).share = us at *
        generalize (Bs.gu l k).used = uu at *
        generalize (Bs.gu l k).waits = uw at *
        have hp : 0 ≤ a * us := Int.mul_nonneg ha.1 (by omega)
        have hp2 : a * us ≤ 1000000000 := by
          calc a * us ≤ 10000 * us := Int.mul_le_mul_of_nonneg_right ha.2 (by omega)
            _ ≤ 1000000000 := by omega
        have hw1 : IntKind.i64.wrap (a * us) = a * us := IntWalk.i64_in _ ⟨by omega, by omega⟩
        have hS0 : (S == 0) = false := by rw [beq_eq_false_iff_ne]; omega
        have hS1 : 1 ≤ S := hS.1
        have hq : a * us / S = fp k := HFEk.out.symm
        clear f2 f3
        generalize fp k = y at *
        generalize Bs.rs k fp = z at *
        have hw2 : IntKind.i64.wrap (a - z - y) = a - z - y := IntWalk.i64_in _ ⟨by omega, by omega⟩
        have i0 : (0 : Int) ≤ (k : Int) := by omega
        have i1 : (k : Int) < (l.length : Int) := by omega
        go_wp2
        go_roundw
        case rel => exact ⟨k + 1, by omega, by go_num, by rw [HRSk.out]; congr 1; omega, HS.out, HB.out⟩
        case measure => simp [intOf]; omega
      · obtain rfl : k = l.length := by omega
        obtain ⟨⟨r0, r1⟩, re⟩ := HRE.out
        rw [← re]
        rw [HPF.out] at hA
        have HA := Lib.hid hA
        have HB := Lib.hid hb
        obtain ⟨r, hr⟩ : ∃ r : Nat, Bs.restP l a = (r : Int) := ⟨(Bs.restP l a).toNat, by omega⟩
        have HPE := Lib.hid (show Bs.partC l a = Bs.partK l a r from by rw [HPC.out, hr, Int.toNat_natCast])
        rw [hr] at r1
        rw [hr]
        clear hA hb re r0 hr HRE HPC HF HFE HFS HRS HRB HPS HPG HP0 HPF
        go_wp2
        go_loopw [10] (fun i wr2 => ∃ q : Nat, q ≤ r ∧ i = .int .i64 q ∧ Arr wr2 w1.heap.size (Bs.partK l a q) ∧ Below w.heap.size w wr2) (fun i _ => r - (intOf i).toNat)
        case atStart => exact ⟨0, Nat.zero_le _, rfl, HA.out, HB.out⟩
        case round =>
          obtain ⟨q, hq, rfl, hA, hb⟩ := hrel
          by_cases hqr : q < r
          · have hql : q < l.length := by omega
            have hkl := HKL.out q
            have kc := hA.cell (i := q) (by rw [hkl]; exact hql)
            have kf := hA.frozen q
            have hg := HKG.out q hql
            rw [if_neg (by omega), Int.add_zero] at hg
            have hA2 := hA.set_ q (Bs.gi (Bs.partK l a q) q + 1)
            rw [← HKS.out q hql] at hA2
            have HS := Lib.hid hA2
            have HB := Lib.hid (hb.setCell (p := ⟨w1.heap.size, q, none⟩) s1 (.int .i64 (Bs.gi (Bs.partK l a q) q + 1)))
            have hfb := HFB.out q hql
            rw [← hg] at hfb
            have d1 : (q : Int) < (r : Int) := by omega
            have i0 : (0 : Int) ≤ (q : Int) := by omega
            have i1 : (q : Int) < (l.length : Int) := by omega
            clear hA hA2 hb hg hkl HKG HKS HKL
            generalize Bs.gi (Bs.partK l a q) q = x at *
            have hw : IntKind.i64.wrap (x + 1) = x + 1 := IntWalk.i64_in _ ⟨by omega, by omega⟩
            go_wp2
            go_roundw
            case rel => exact ⟨q + 1, by omega, by go_num, HS.out, HB.out⟩
            case measure => simp [intOf]; omega
          · obtain rfl : q = r := by omega
            have hO := hA.oi (B := w.heap.size) s1 (by rw [HKL.out]; omega)
            rw [HKL.out] at hO
            have HO := Lib.hid hO
            have HB := Lib.hid hb
            have HL := Lib.hid (HKL.out q)
            clear hA hO hb HKG HKS HKL
            go_wp2
            go_ret
            rw [HV.out, HPE.out]
            refine ⟨⟨_, _, ?_, HO.out⟩, HB.out⟩
            rw [HL.out]
            rfl
end Go.Proofs.Ytbmfhnijbdmjbaa
