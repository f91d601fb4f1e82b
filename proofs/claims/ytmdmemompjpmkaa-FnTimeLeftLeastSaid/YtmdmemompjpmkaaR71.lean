/-
  WALKS: the time that is left, progress, of the model.
-/
import Derived.Test.YtmdmemompjpmkaaK4
import Derived.Test.YtmdmemompjpmkaaK8
import Derived.Test.YtmdmemompjpmkaaMath91
import Derived.Deep.RegionHeld3
namespace Go.Proofs.Ytmdmemompjpmkaa
open Go.RowKit
theorem isInE_q (A : Option Addr) (c : Nat) (l : List Int) (n : Int) (lo hi : Nat) (w : World) (h : RI w lo hi A l) (hl : l.length ≤ 9223372036854775807) (i j : Nat) :
    Calls Try.prog 56 #[.slice A l.length c, .int .i64 n] (w.drewN (i + j)) fun e w' => e = .returned (.bool (l.contains n)) ∧ ∃ m, w' = w.drewN (i + m) :=
  (isIn_any A c l n lo hi (w.drewN (i + j)) h hl).mono fun _ _ ⟨h1, h2⟩ => ⟨h1, j, h2.symm⟩
theorem toIntE_any (b : Bool) (w : World) : Calls Try.prog 55 #[.bool b] w fun e w' => e = .returned (.int .i64 (if b then 1 else 0)) ∧ w = w' := by
  cases b
  · go_enter Try.func55, Try.ntmps55
    go_wp2
    go_ret
    exact ⟨rfl, rfl⟩
  · go_enter Try.func55, Try.ntmps55
    go_wp2
    go_ret
    exact ⟨rfl, rfl⟩
theorem toIntE_q (b : Bool) (w : World) (i j : Nat) : Calls Try.prog 55 #[.bool b] (w.drewN (i + j)) fun e w' => e = .returned (.int .i64 (if b then 1 else 0)) ∧ ∃ m, w' = w.drewN (i + m) :=
  (toIntE_any b (w.drewN (i + j))).mono fun _ _ ⟨h1, h2⟩ => ⟨h1, j, h2.symm⟩
def lmS (g : List Bs.T) (R : List Int) (k : Nat) : Int := Bs.maxL ((R.take k).map fun x => Bs.gi (Bs.tailsC g) x.toNat)
theorem lmS_succ (g : List Bs.T) (R : List Int) (k : Nat) (hk : k < R.length) : lmS g R (k + 1) = max (lmS g R k) (Bs.gi (Bs.tailsC g) R[k].toNat) := by
  unfold lmS
  rw [List.take_succ_eq_append_getElem hk, List.map_append]
  exact Bs.maxL_snoc _ _
set_option maxHeartbeats 1600000 in
theorem timeLeftS_any (A : Option Addr) (c : Nat) (g : List Bs.T) (A' : Option Addr) (c' : Nat) (d : List Int) (lo hi lo' hi' : Nat) (w : World) (h : RG w lo hi A g) (hh : hi ≤ w.heap.size) (h' : RI w lo' hi' A' d) (hh' : hi' ≤ w.heap.size) (hvg : Bs.valid g = true) (hd : d.length ≤ 9223372036854775807) :
    Calls Try.prog 47 #[.slice A g.length c, .slice A' d.length c'] w fun e w' => e = .returned (.int .i64 (Bs.leftC g d)) ∧ Below w.heap.size w w' := by
  have hF := valid_fine hvg
  have h8 := Bs.fine_len hF
  have c2 := tailsS_ret A c g lo hi w h hh hvg
  have c3 := fun W (hb : Below w.heap.size w W) => ready_any A c g A' c' d lo hi lo' hi' W (h.below hb hh) (Nat.le_trans hh hb.size) (h'.below hb hh') (Nat.le_trans hh' hb.size) (by omega) hd
  have HTL := Lib.hid (show (Bs.tailsC g).length = g.length from (Bs.tailsC_spec hF (valid_full hvg)).len)
  have HS := Lib.hid (fun k hk => lmS_succ g (Bs.readyC g d) k hk)
  have HM := Lib.hid (fun k (hk : k < (Bs.readyC g d).length) => Bs.ready_nat (List.getElem_mem hk))
  have hrl := Bs.readyC_len g d
  have HV := Lib.hid (show lmS g (Bs.readyC g d) (Bs.readyC g d).length = Bs.leftC g d from by unfold lmS Bs.leftC; rw [List.take_length])
  have HL0 := Lib.hid (show lmS g (Bs.readyC g d) 0 = 0 from rfl)
  have C2 := Lib.hid c2
  have C3 := Lib.hid c3
  clear c2 c3 h h' hvg hF
  generalize Bs.readyC g d = R at *
  generalize lmS g R = lm at *
  generalize Bs.tailsC g = T at *
  go_enter Try.func47, Try.ntmps47
  go_wp2_with fail
  with_reducible refine (C2.out).mono ?_
  rintro e w2 ⟨⟨A2, c2, rfl, ho2⟩, hb2⟩
  have HB2 := Lib.hid hb2
  have HT2 := Lib.hid ho2.ri
  have C4 := Lib.hid (C3.out _ hb2)
  clear hb2 ho2 C2 C3
  go_wp2_with fail
  with_reducible refine (C4.out).mono ?_
  rintro e w3 ⟨⟨A3, c3, rfl, ho3⟩, hb3⟩
  have s2 := HB2.out.size
  have s3 := hb3.size
  have HT3 := Lib.hid (HT2.out.below hb3 (Nat.le_refl _))
  have HB3 := Lib.hid (HB2.out.trans (hb3.mono s2))
  have HR3 := Lib.hid ho3.ri
  clear hb3 ho3 C4 HT2 HB2
  go_wp2
  go_loop [5, 8] (fun s i => ∃ (k : Nat), k ≤ R.length ∧ s = .int .i64 (lm k) ∧ i = .int .i64 k) (fun _ i => R.length - (intOf i).toNat)
  case atStart => exact ⟨0, Nat.zero_le _, by rw [HL0.out], rfl⟩
  case round =>
    obtain ⟨k, hk, rfl, rfl⟩ := hrel
    by_cases hlt : k < R.length
    · obtain ⟨b, o, rfl, _, _, hc⟩ := HR3.out.at_ hlt
      obtain ⟨x, hx, hxv⟩ := HM.out k hlt
      have hst := HS.out k hlt
      rw [hxv] at hc hst
      rw [Int.toNat_natCast] at hst
      have hxt : x < T.length := by rw [HTL.out]; exact hx
      obtain ⟨b2, o2, rfl, _, _, hc2⟩ := HT3.out.at_ hxt
      rw [← gi_at hxt] at hc2
      have HST := Lib.hid hst
      have d1 : (k : Int) < (R.length : Int) := by omega
      have d2 : (x : Int) < (T.length : Int) := by omega
      clear hst hxv HS
      generalize Bs.gi T x = y at *
      generalize lm k = t at *
      go_wp2
      go_round
      case rel => exact ⟨k + 1, by omega, by rw [HST.out]; show Value.int _ _ = Value.int _ (max t y); congr 1; split <;> omega, by go_num⟩
      case measure => simp [intOf]; omega
    · obtain rfl : k = R.length := by omega
      rw [HV.out]
      go_wp2
      go_ret
      exact ⟨rfl, HB3.out⟩
theorem TimeLeftS_any (A : Option Addr) (c : Nat) (g : List Bs.T) (A' : Option Addr) (c' : Nat) (d : List Int) (lo hi lo' hi' : Nat) (w : World) (h : RG w lo hi A g) (hh : hi ≤ w.heap.size) (h' : RI w lo' hi' A' d) (hh' : hi' ≤ w.heap.size) (hl : g.length ≤ 9223372036854775807) (hd : d.length ≤ 9223372036854775807) :
    Calls Try.prog 22 #[.slice A g.length c, .slice A' d.length c'] w fun e w' => e = .returned (.int .i64 (Bs.leftL g d)) ∧ Below w.heap.size w w' := by
  have c1 := validDoneS_any A c g A' c' d lo hi lo' hi' w h hh h' hh' hl hd
  cases hv : Bs.vdone g d
  · rw [hv] at c1
    have C1 := Lib.hid c1
    have HV := Lib.hid (Bs.leftL_no hv)
    clear c1 hv h h'
    go_enter Try.func22, Try.ntmps22
    go_wp2_with fail
    with_reducible refine (C1.out).mono ?_
    rintro e w1 ⟨rfl, hb⟩
    have HB := Lib.hid hb
    clear hb
    go_wp2
    go_ret
    exact ⟨ret_int HV.out.symm, HB.out⟩
  · rw [hv] at c1
    have C1 := Lib.hid c1
    have HV := Lib.hid (Bs.leftL_yes hv)
    have C2 := Lib.hid (fun W (hb : Below w.heap.size w W) => timeLeftS_any A c g A' c' d lo hi lo' hi' W (h.below hb hh) (Nat.le_trans hh hb.size) (h'.below hb hh') (Nat.le_trans hh' hb.size) (Bs.vdone_valid hv) hd)
    clear c1 hv h h'
    go_enter Try.func22, Try.ntmps22
    go_wp2_with fail
    with_reducible refine (C1.out).mono ?_
    rintro e w1 ⟨rfl, hb⟩
    have HB := Lib.hid hb
    clear hb
    go_wp2_with fail
    with_reducible refine (C2.out _ HB.out).mono ?_
    rintro e w2 ⟨rfl, hb2⟩
    have HB2 := Lib.hid (HB.out.trans (hb2.mono HB.out.size))
    clear hb2
    go_wp2
    go_ret
    exact ⟨ret_int HV.out.symm, HB2.out⟩
set_option maxHeartbeats 1600000 in
theorem ProgressOfS_any (A : Option Addr) (c : Nat) (g : List Bs.T) (A' : Option Addr) (c' : Nat) (d : List Int) (lo hi lo' hi' : Nat) (w : World) (h : RG w lo hi A g) (hh : hi ≤ w.heap.size) (h' : RI w lo' hi' A' d) (hh' : hi' ≤ w.heap.size) (hl : g.length ≤ 9223372036854775807) (hd : d.length ≤ 9223372036854775807) :
    Calls Try.prog 28 #[.slice A g.length c, .slice A' d.length c'] w fun e w' => e = .returned (.int .i64 (Bs.progL g d)) ∧ Below w.heap.size w w' := by
  have c1 := validDoneS_any A c g A' c' d lo hi lo' hi' w h hh h' hh' hl hd
  cases hv : Bs.vdone g d
  · rw [hv] at c1
    have C1 := Lib.hid c1
    have HV := Lib.hid (Bs.progL_no hv)
    clear c1 hv h h'
    go_enter Try.func28, Try.ntmps28
    go_wp2_with fail
    with_reducible refine (C1.out).mono ?_
    rintro e w1 ⟨rfl, hb⟩
    have HB := Lib.hid hb
    clear hb
    go_wp2
    go_ret
    exact ⟨ret_int HV.out.symm, HB.out⟩
  rw [hv] at c1
  have C1 := Lib.hid c1
  obtain ⟨hvg, hin, _⟩ := Bs.vdone_iff.1 hv
  have hF := valid_fine hvg
  have h8 := Bs.fine_len hF
  have HT := Lib.hid (fun i (hi : i < g.length) => Bs.fine_time' hF hi)
  have HTE := Lib.hid (fun i (hi : i < g.length) => Bs.timeOf_eq (g := g) hi)
  have HDS := Lib.hid (fun k => Bs.dnK_succ g d k)
  have HAS := Lib.hid (fun k => Bs.rs_succ k (Bs.timeOf g))
  have HDB := Lib.hid (fun k hk => Bs.dnK_b hF d k hk)
  have HV0 := Lib.hid (fun h0 : g.length = 0 => show Bs.progL g d = 1000 from by rw [Bs.progL_yes hv]; unfold Bs.progC; rw [if_pos h0])
  have HV1 := Lib.hid (fun h0 : ¬ g.length = 0 => show Bs.progL g d = Bs.dnK g d g.length * 1000 / Bs.rs g.length (Bs.timeOf g) from by rw [Bs.progL_yes hv]; unfold Bs.progC; rw [if_neg h0]; rfl)
  have HG := Lib.hid h
  have HD := Lib.hid h'
  clear c1 hv h h' hvg hin hF
  go_enter Try.func28, Try.ntmps28
  go_wp2_with fail
  with_reducible refine (C1.out).mono ?_
  rintro e w1 ⟨rfl, hb1⟩
  have HB := Lib.hid hb1
  clear hb1 C1
  go_wp2
  go_loopw [5, 6, 7] (fun s t i wr => ∃ (k m : Nat), k ≤ g.length ∧ i = .int .i64 k ∧ s = .int .i64 (Bs.dnK g d k) ∧ t = .int .i64 (Bs.rs k (Bs.timeOf g)) ∧ wr = w1.drewN m) (fun _ _ i _ => g.length - (intOf i).toNat)
  case atStart => exact ⟨0, 0, Nat.zero_le _, rfl, rfl, rfl, rfl⟩
  case round =>
    obtain ⟨k, m, hk, rfl, rfl, rfl, rfl⟩ := hrel
    have hdb := HDB.out k hk
    by_cases hlt : k < g.length
    · obtain ⟨bg, og, N, cN, rfl, _, _, k0, k1, k2, k3, hnc, hcN, hN⟩ := (HG.out.below HB.out hh) k hlt
      have q4 := fun j => isInE_q A' c' d (k : Int) lo' hi' w1 (HD.out.below HB.out hh') hd m j
      have hds := HDS.out k
      have has := HAS.out k
      have htt := HT.out k hlt
      rw [HTE.out k hlt] at hds has
      have HA1 := Lib.hid has
      have d1 : (k : Int) < (g.length : Int) := by omega
      have d2 : (0 : Int) ≤ (k : Int) := by omega
      clear hN hnc has HV0 HV1 HDB HDS HAS k1 k2 k3
      generalize Bs.dnK g d k = s0 at *
      generalize Bs.rs k (Bs.timeOf g) = t0 at *
      cases hq : d.contains (k : Int)
      · rw [hq] at q4 hds
        have q5 := fun j => toIntE_q false w1 m j
        simp only [Bool.false_eq_true, if_false] at hds q5
        have C4 := fun j => Lib.hid (q4 j)
        have C5 := fun j => Lib.hid (q5 j)
        have HD1 := Lib.hid hds
        clear q4 q5 hq hds
        generalize g[k].time = tv at *
        have hw1 : IntKind.i64.wrap (t0 + tv) = t0 + tv := IntWalk.i64_in _ ⟨by omega, by omega⟩
        have hw2 : IntKind.i64.wrap (tv * 0) = 0 := by rw [Int.mul_zero]; exact IntWalk.i64_in _ ⟨by omega, by omega⟩
        have hw3 : IntKind.i64.wrap (s0 + 0) = s0 := by rw [Int.add_zero]; exact IntWalk.i64_in _ ⟨by omega, by omega⟩
        have hw4 : IntKind.i64.wrap s0 = s0 := IntWalk.i64_in _ ⟨by omega, by omega⟩
        go_wp2
        go_quiet ((first | (go_at_call 56; with_reducible exact (C4 _).out) | (go_at_call 55; with_reducible exact (C5 _).out)))
        go_wp2
        go_roundw
        case rel => exact ⟨k + 1, _, by omega, by go_num, by rw [HD1.out]; first | rfl | simp, by rw [HA1.out], by first | rfl | rw [World.drewN_drewN]⟩
        case measure => simp [intOf]; omega
      · rw [hq] at q4 hds
        have q5 := fun j => toIntE_q true w1 m j
        simp only [if_true] at hds q5
        have C4 := fun j => Lib.hid (q4 j)
        have C5 := fun j => Lib.hid (q5 j)
        have HD1 := Lib.hid hds
        clear q4 q5 hq hds
        generalize g[k].time = tv at *
        have hw1 : IntKind.i64.wrap (t0 + tv) = t0 + tv := IntWalk.i64_in _ ⟨by omega, by omega⟩
        have hw2 : IntKind.i64.wrap (tv * 1) = tv := by rw [Int.mul_one]; exact IntWalk.i64_in _ ⟨by omega, by omega⟩
        have hw3 : IntKind.i64.wrap (s0 + tv) = s0 + tv := IntWalk.i64_in _ ⟨by omega, by omega⟩
        go_wp2
        go_quiet ((first | (go_at_call 56; with_reducible exact (C4 _).out) | (go_at_call 55; with_reducible exact (C5 _).out)))
        go_wp2
        go_roundw
        case rel => exact ⟨k + 1, _, by omega, by go_num, by rw [HD1.out], by rw [HA1.out], by first | rfl | rw [World.drewN_drewN]⟩
        case measure => simp [intOf]; omega
    · obtain rfl : k = g.length := by omega
      by_cases h0 : g.length = 0
      · have HV := Lib.hid (HV0.out h0)
        have hz : Bs.rs g.length (Bs.timeOf g) = 0 := by rw [h0]; rfl
        rw [hz]
        clear h0 hz HV0 HV1 HDB HDS HAS
        go_wp2
        go_ret
        exact ⟨ret_int HV.out.symm, HB.out.drewN _⟩
      · have HV := Lib.hid (HV1.out h0)
        clear HV0 HV1 HDB HDS HAS
        generalize Bs.dnK g d g.length = p at *
        generalize Bs.rs g.length (Bs.timeOf g) = q at *
        have hz : (q == 0) = false := by rw [beq_eq_false_iff_ne]; omega
        have hw1 : IntKind.i64.wrap (1000 * p) = p * 1000 := by rw [Int.mul_comm]; exact IntWalk.i64_in _ ⟨by omega, by omega⟩
        have e2 : Int.tdiv (p * 1000) q = p * 1000 / q := Int.tdiv_eq_ediv_of_nonneg (by omega)
        have hdb2 : 0 ≤ p * 1000 / q ∧ p * 1000 / q ≤ 1000000 := ⟨Int.ediv_nonneg (by omega) (by omega), Int.le_trans (Int.ediv_le_self _ (by omega)) (by omega)⟩
        have hw3 : IntKind.i64.wrap (p * 1000 / q) = p * 1000 / q := IntWalk.i64_in _ ⟨by omega, by omega⟩
        go_wp2
        go_ret
        exact ⟨ret_int (by rw [HV.out]), HB.out.drewN _⟩
end Go.Proofs.Ytmdmemompjpmkaa
