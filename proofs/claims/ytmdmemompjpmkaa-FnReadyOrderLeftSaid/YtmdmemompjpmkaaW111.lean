/-
  WALKS: the time that is left, progress, of the program.
-/
import Derived.Test.YtmdmemompjpmkaaK8
import Derived.Test.YtmdmemompjpmkaaK7
import Derived.Test.YtmdmemompjpmkaaMath91
namespace Go.Proofs.Ytmdmemompjpmkaa
open Go.RowKit
theorem laterOf_e (a b : Int) (w : World) : Calls Try.prog 45 #[.int .i64 a, .int .i64 b] w fun e w' => e = .returned (.int .i64 (max a b)) ∧ w = w' := by
  go_enter Try.func45, Try.ntmps45
  go_wp2
  all_goals go_ret
  all_goals exact ⟨ret_int (by omega), rfl⟩
set_option maxHeartbeats 800000 in
theorem allTimes_e (A : Option Addr) (c : Nat) (g : List Bs.T) (lo hi : Nat) (w : World) (h : RG w lo hi A g) (hh : hi ≤ w.heap.size) (hF : Bs.fine g = true) :
    Calls Try.prog 54 #[.slice A g.length c] w fun e w' => e = .returned (.int .i64 (Bs.alT g)) ∧ Below w.heap.size w w' := by
  have h8 := Bs.fine_len hF
  have HS := Lib.hid (fun k => Bs.rs_succ k (Bs.timeOf g))
  have HB := Lib.hid (fun k hk => (Bs.dnK_b hF [] k hk).2.2)
  have HT := Lib.hid (fun i (hi : i < g.length) => Bs.fine_time' hF hi)
  have HTE := Lib.hid (fun i (hi : i < g.length) => Bs.timeOf_eq (g := g) hi)
  have HE := Lib.hid (show Bs.alT g = Bs.rs g.length (Bs.timeOf g) from rfl)
  have HG := Lib.hid h
  clear h hF
  go_enter Try.func54, Try.ntmps54
  go_wp2
  go_loopw [3, 8] (fun s i wr => ∃ (k : Nat) (t : Int), k ≤ g.length ∧ s = .int .i64 t ∧ i = .int .i64 k ∧ t = Bs.rs k (Bs.timeOf g) ∧ Below w.heap.size w wr) (fun _ i _ => g.length - (intOf i).toNat)
  case atStart => exact ⟨0, 0, Nat.zero_le _, rfl, rfl, rfl, Below.refl _ _⟩
  case round =>
    obtain ⟨k, t, hk, rfl, rfl, ht, hb⟩ := hrel
    have sr := hb.size
    by_cases hlt : k < g.length
    · obtain ⟨bg, og, N, cN, rfl, _, _, k0, k1, k2, k3, hnc, hcN, hN⟩ := (HG.out.below hb hh) k hlt
      have hst := HS.out k
      rw [← ht, HTE.out k hlt] at hst
      have htb := HB.out k hk
      rw [← ht] at htb
      have htt := HT.out k hlt
      clear HTE
      have H1 := Lib.hid hst
      have HB1 := Lib.hid hb
      have d1 : (k : Int) < (g.length : Int) := by omega
      clear hN hnc ht hb hst
      generalize g[k].pool = pv at *
      generalize g[k].time = tv at *
      generalize g[k].units = uv at *
      have hw1 : IntKind.i64.wrap (t + tv) = t + tv := IntWalk.i64_in _ ⟨by omega, by omega⟩
      go_wp2
      go_roundw
      case rel => exact ⟨k + 1, t + tv, by omega, rfl, by go_num, H1.out.symm, HB1.out.alloc sr _⟩
      case measure => simp [intOf]; omega
    · obtain rfl : k = g.length := by omega
      have HVT := Lib.hid (show t = Bs.alT g from by rw [HE.out, ht])
      clear ht
      go_wp2
      go_ret
      exact ⟨ret_int HVT.out, hb⟩
/-- the sum of the times of the first tasks of a list -/
def tsK (g : List Bs.T) (L : List Int) (k : Nat) : Int := Bs.sumZ ((L.take k).map fun x => Bs.timeOf g x.toNat)
theorem tsK_succ (g : List Bs.T) (L : List Int) (k : Nat) (hk : k < L.length) : tsK g L (k + 1) = tsK g L k + Bs.timeOf g L[k].toNat := Bs.sumZ_take L (fun x => Bs.timeOf g x.toNat) k hk
theorem tsK_b {g : List Bs.T} {L : List Int} (hF : Bs.fine g = true) (hL : ∀ x ∈ L, 0 ≤ x ∧ x < g.length) : ∀ k : Nat, k ≤ L.length → 0 ≤ tsK g L k ∧ tsK g L k ≤ 20 * k := by
  intro k
  induction k with
  | zero => intro _; simp [tsK, Bs.sumZ]
  | succ k ih =>
    intro hk
    have h1 := ih (by omega)
    have h2 := hL _ (List.getElem_mem (show k < L.length by omega))
    have h3 := Bs.fine_time hF (i := L[k].toNat) (by omega)
    rw [tsK_succ g L k (by omega)]
    omega
set_option maxHeartbeats 800000 in
theorem timesOf_any (A : Option Addr) (c : Nat) (g : List Bs.T) (A' : Option Addr) (c' : Nat) (L : List Int) (lo hi lo' hi' : Nat) (w : World) (h : RG w lo hi A g) (hh : hi ≤ w.heap.size) (h' : RI w lo' hi' A' L) (hh' : hi' ≤ w.heap.size) (hF : Bs.fine g = true) (hL : ∀ x ∈ L, 0 ≤ x ∧ x < g.length) (hl : L.length ≤ 1000) :
    Calls Try.prog 53 #[.slice A g.length c, .slice A' L.length c'] w fun e w' => e = .returned (.int .i64 (Bs.sumZ (L.map fun x => Bs.timeOf g x.toNat))) ∧ Below w.heap.size w w' := by
  have h8 := Bs.fine_len hF
  have HS := Lib.hid (fun k hk => tsK_succ g L k hk)
  have HB := Lib.hid (fun k hk => tsK_b hF hL k hk)
  have HT := Lib.hid (fun i (hi : i < g.length) => Bs.fine_time' hF hi)
  have HTE := Lib.hid (fun i (hi : i < g.length) => Bs.timeOf_eq (g := g) hi)
  have HE := Lib.hid (show tsK g L L.length = Bs.sumZ (L.map fun x => Bs.timeOf g x.toNat) from by unfold tsK; rw [List.take_length])
  have HM := Lib.hid (fun k (hk : k < L.length) => hL _ (List.getElem_mem hk))
  have HG := Lib.hid h
  have HR := Lib.hid h'
  clear h h' hF hL
  go_enter Try.func53, Try.ntmps53
  go_wp2
  go_loopw [5, 10] (fun s i wr => ∃ (k : Nat), k ≤ L.length ∧ s = .int .i64 (tsK g L k) ∧ i = .int .i64 k ∧ Below w.heap.size w wr) (fun _ i _ => L.length - (intOf i).toNat)
  case atStart => exact ⟨0, Nat.zero_le _, rfl, rfl, Below.refl _ _⟩
  case round =>
    obtain ⟨k, hk, rfl, rfl, hb⟩ := hrel
    have sr := hb.size
    by_cases hlt : k < L.length
    · obtain ⟨b', o', rfl, _, _, hc⟩ := (HR.out.below hb hh').at_ hlt
      have hm := HM.out k hlt
      have hst := HS.out k hlt
      obtain ⟨x, hx⟩ : ∃ x : Nat, L[k] = (x : Int) := ⟨L[k].toNat, by omega⟩
      rw [hx] at hc hm hst
      rw [Int.toNat_natCast] at hst
      have hxl : x < g.length := by omega
      obtain ⟨bg, og, N, cN, rfl, _, _, k0, k1, k2, k3, hnc, hcN, hN⟩ := (HG.out.below hb hh) x hxl
      have htb := HB.out k hk
      have htt := HT.out x hxl
      rw [HTE.out x hxl] at hst
      have H1 := Lib.hid hst
      have HB1 := Lib.hid hb
      have d1 : (k : Int) < (L.length : Int) := by omega
      have d2 : (x : Int) < (g.length : Int) := by omega
      clear hN hnc hb hst hx
      generalize g[x].pool = pv at *
      generalize g[x].time = tv at *
      generalize g[x].units = uv at *
      generalize tsK g L k = t at *
      have hw1 : IntKind.i64.wrap (t + tv) = t + tv := IntWalk.i64_in _ ⟨by omega, by omega⟩
      go_wp2
      go_roundw
      case rel => exact ⟨k + 1, by omega, by rw [H1.out], by go_num, HB1.out⟩
      case measure => simp [intOf]; omega
    · obtain rfl : k = L.length := by omega
      rw [HE.out]
      go_wp2
      go_ret
      exact ⟨rfl, hb⟩
def lmK (g : List Bs.T) (R : List Int) (k : Nat) : Int := Bs.maxL ((R.take k).map fun x => Bs.gi (Bs.tailsC g) x.toNat)
theorem lmK_succ (g : List Bs.T) (R : List Int) (k : Nat) (hk : k < R.length) : lmK g R (k + 1) = max (lmK g R k) (Bs.gi (Bs.tailsC g) R[k].toNat) := by
  unfold lmK
  rw [List.take_succ_eq_append_getElem hk, List.map_append]
  exact Bs.maxL_snoc _ _
set_option maxHeartbeats 1600000 in
theorem TimeLeft_any (A : Option Addr) (c : Nat) (g : List Bs.T) (A' : Option Addr) (c' : Nat) (d : List Int) (lo hi lo' hi' : Nat) (w : World) (h : RG w lo hi A g) (hh : hi ≤ w.heap.size) (h' : RI w lo' hi' A' d) (hh' : hi' ≤ w.heap.size) (hl : g.length ≤ 9223372036854775807) (hd : d.length ≤ 9223372036854775807) :
    Calls Try.prog 21 #[.slice A g.length c, .slice A' d.length c'] w fun e w' => e = .returned (.int .i64 (Bs.leftL g d)) ∧ Below w.heap.size w w' := by
  have c1 := ValidDone_any A c g A' c' d lo hi lo' hi' w h hh h' hh' hl hd
  cases hv : Bs.vdone g d
  · rw [hv] at c1
    have C1 := Lib.hid c1
    have HV := Lib.hid (Bs.leftL_no hv)
    clear c1 hv h h'
    go_enter Try.func21, Try.ntmps21
    go_wp2_with fail
    with_reducible refine (C1.out).mono ?_
    rintro e w1 ⟨rfl, hb⟩
    have HB := Lib.hid hb
    clear hb
    go_wp2
    go_ret
    exact ⟨ret_int HV.out.symm, HB.out⟩
  have hvg := Bs.vdone_valid hv
  have hF := valid_fine hvg
  have h8 := Bs.fine_len hF
  rw [hv] at c1
  have c2 := fun W (hb : Below w.heap.size w W) => TailTimes_any A c g lo hi W (h.below hb hh) (Nat.le_trans hh hb.size) hl
  rw [if_pos hvg] at c2
  have c3 := fun W (hb : Below w.heap.size w W) => ReadyTasks_any A c g A' c' d lo hi lo' hi' W (h.below hb hh) (Nat.le_trans hh hb.size) (h'.below hb hh') (Nat.le_trans hh' hb.size) hl hd
  rw [show Bs.readyL g d = Bs.readyC g d from by unfold Bs.readyL; rw [hv]; rfl] at c3
  have HTL := Lib.hid (show (Bs.tailsC g).length = g.length from (Bs.tailsC_spec hF (valid_full hvg)).len)
  have HTP := Lib.hid (fun i (hi : i < g.length) => And.intro (Bs.tail_pos hvg hi).1 (Bs.tail_le_long hvg hi))
  have HS := Lib.hid (fun k hk => lmK_succ g (Bs.readyC g d) k hk)
  have HM := Lib.hid (fun k (hk : k < (Bs.readyC g d).length) => Bs.ready_nat (List.getElem_mem hk))
  have hrl := Bs.readyC_len g d
  have HV := Lib.hid (show lmK g (Bs.readyC g d) (Bs.readyC g d).length = Bs.leftL g d from by rw [Bs.leftL_yes hv]; unfold lmK Bs.leftC; rw [List.take_length])
  have HL0 := Lib.hid (show lmK g (Bs.readyC g d) 0 = 0 from rfl)
  have C1 := Lib.hid c1
  have C2 := Lib.hid c2
  have C3 := Lib.hid c3
  have HLN := Lib.hid (fun k => show 0 ≤ lmK g (Bs.readyC g d) k from Bs.maxL_nonneg _)
  clear c1 c2 c3 h h' hvg hF hv
  generalize Bs.readyC g d = R at *
  generalize lmK g R = lm at *
  generalize Bs.tailsC g = T at *
  go_enter Try.func21, Try.ntmps21
  go_wp2_with fail
  with_reducible refine (C1.out).mono ?_
  rintro e w1 ⟨rfl, hb⟩
  have HB := Lib.hid hb
  clear hb
  go_wp2_with fail
  with_reducible refine (C2.out _ HB.out).mono ?_
  rintro e w2 ⟨⟨A2, c2, rfl, ho2⟩, hb2⟩
  have hb02 := HB.out.trans (hb2.mono HB.out.size)
  have HB2 := Lib.hid hb02
  have HT2 := Lib.hid ho2.ri
  have C4 := Lib.hid (C3.out _ hb02)
  clear hb2 hb02 ho2 C1 C2 C3
  go_wp2_with fail
  with_reducible refine (C4.out).mono ?_
  rintro e w3 ⟨⟨A3, c3, rfl, ho3⟩, hb3⟩
  have s2 := HB2.out.size
  have s3 := hb3.size
  have HT3 := Lib.hid (HT2.out.below hb3 (Nat.le_refl _))
  have HB3 := Lib.hid (HB2.out.trans (hb3.mono s2))
  have HR3 := Lib.hid ho3.ri
  clear hb3 ho3 C4 HT2 HB2
  go_wp2
  go_loop [6, 19] (fun s i => ∃ (k : Nat), k ≤ R.length ∧ s = .int .i64 (lm k) ∧ i = .int .i64 k) (fun _ i => R.length - (intOf i).toNat)
  case atStart => exact ⟨0, Nat.zero_le _, by rw [HL0.out], rfl⟩
  case round =>
    obtain ⟨k, hk, rfl, rfl⟩ := hrel
    by_cases hlt : k < R.length
    · obtain ⟨b, o, rfl, _, _, hc⟩ := HR3.out.at_ hlt
      obtain ⟨x, hx, hxv⟩ := HM.out k hlt
      have hst := HS.out k hlt
      rw [hxv] at hc hst
      rw [Int.toNat_natCast] at hst
      have hxt : x < T.length := by rw [HTL.out]; exact hx
      obtain ⟨b2, o2, rfl, _, _, hc2⟩ := HT3.out.at_ hxt
      rw [← gi_at hxt] at hc2
      have HST := Lib.hid hst
      have d1 : (k : Int) < (R.length : Int) := by omega
      have d2 : (x : Int) < (T.length : Int) := by omega
      clear hst hxv HS
      generalize Bs.gi T x = y at *
      generalize lm k = t at *
      go_wp2_with fail
      with_reducible refine (laterOf_e t y _).mono ?_
      rintro e w4 ⟨rfl, rfl⟩
      go_wp2
      go_round
      case rel => exact ⟨k + 1, by omega, by rw [HST.out], by go_num⟩
      case measure => simp [intOf]; omega
    · obtain rfl : k = R.length := by omega
      rw [HV.out]
      go_wp2
      go_ret
      exact ⟨rfl, HB3.out⟩
set_option maxHeartbeats 1600000 in
theorem ProgressOf_any (A : Option Addr) (c : Nat) (g : List Bs.T) (A' : Option Addr) (c' : Nat) (d : List Int) (lo hi lo' hi' : Nat) (w : World) (h : RG w lo hi A g) (hh : hi ≤ w.heap.size) (h' : RI w lo' hi' A' d) (hh' : hi' ≤ w.heap.size) (hl : g.length ≤ 9223372036854775807) (hd : d.length ≤ 9223372036854775807) :
    Calls Try.prog 27 #[.slice A g.length c, .slice A' d.length c'] w fun e w' => e = .returned (.int .i64 (Bs.progL g d)) ∧ Below w.heap.size w w' := by
  have c1 := ValidDone_any A c g A' c' d lo hi lo' hi' w h hh h' hh' hl hd
  cases hv : Bs.vdone g d
  · rw [hv] at c1
    have C1 := Lib.hid c1
    have HV := Lib.hid (Bs.progL_no hv)
    clear c1 hv h h'
    go_enter Try.func27, Try.ntmps27
    go_wp2_with fail
    with_reducible refine (C1.out).mono ?_
    rintro e w1 ⟨rfl, hb⟩
    have HB := Lib.hid hb
    clear hb
    go_wp2
    go_ret
    exact ⟨ret_int HV.out.symm, HB.out⟩
  rw [hv] at c1
  have C1 := Lib.hid c1
  by_cases h0 : g.length = 0
  · have HV := Lib.hid (show Bs.progL g d = 1000 from by rw [Bs.progL_yes hv]; unfold Bs.progC; rw [if_pos h0])
    have hq0 : ((g.length : Int) == 0) = true := by simp [h0]
    clear c1 hv h h' h0
    go_enter Try.func27, Try.ntmps27
    go_wp2_with fail
    with_reducible refine (C1.out).mono ?_
    rintro e w1 ⟨rfl, hb⟩
    have HB := Lib.hid hb
    clear hb
    go_wp2
    go_ret
    exact ⟨ret_int HV.out.symm, HB.out⟩
  have hq0 : ((g.length : Int) == 0) = false := by rw [beq_eq_false_iff_ne]; omega
  obtain ⟨hvg, hin, _⟩ := Bs.vdone_iff.1 hv
  have hF := valid_fine hvg
  have h8 := Bs.fine_len hF
  have hdl := Bs.inG_len hin
  have c2 := fun W (hb : Below w.heap.size w W) => timesOf_any A c g A' c' d lo hi lo' hi' W (h.below hb hh) (Nat.le_trans hh hb.size) (h'.below hb hh') (Nat.le_trans hh' hb.size) hF (Bs.inG_mem hin) (by omega)
  rw [Bs.done_sum hin] at c2
  have C2 := Lib.hid c2
  have C3 := Lib.hid (fun W (hb : Below w.heap.size w W) => allTimes_e A c g lo hi W (h.below hb hh) (Nat.le_trans hh hb.size) hF)
  have HV := Lib.hid (show Bs.progL g d = Bs.dnK g d g.length * 1000 / Bs.alT g from by rw [Bs.progL_yes hv]; unfold Bs.progC; rw [if_neg h0])
  have hb := Bs.dnK_b hF d g.length (Nat.le_refl _)
  rw [show Bs.rs g.length (Bs.timeOf g) = Bs.alT g from rfl] at hb
  clear c1 c2 hv h h' hvg hin hF
  generalize Bs.dnK g d g.length = p at *
  generalize Bs.alT g = q at *
  have hz : (q == 0) = false := by rw [beq_eq_false_iff_ne]; omega
  have hw1 : IntKind.i64.wrap (p * 1000) = p * 1000 := IntWalk.i64_in _ ⟨by omega, by omega⟩
  have e2 : Int.tdiv (p * 1000) q = p * 1000 / q := Int.tdiv_eq_ediv_of_nonneg (by omega)
  have hdb : 0 ≤ p * 1000 / q ∧ p * 1000 / q ≤ 1000000 := ⟨Int.ediv_nonneg (by omega) (by omega), Int.le_trans (Int.ediv_le_self _ (by omega)) (by omega)⟩
  have hw3 : IntKind.i64.wrap (p * 1000 / q) = p * 1000 / q := IntWalk.i64_in _ ⟨by omega, by omega⟩
  go_enter Try.func27, Try.ntmps27
  go_wp2_with fail
  with_reducible refine (C1.out).mono ?_
  rintro e w1 ⟨rfl, hb1⟩
  have HB := Lib.hid hb1
  clear hb1
  go_wp2_with fail
  with_reducible refine (C2.out _ HB.out).mono ?_
  rintro e w2 ⟨rfl, hb2⟩
  have HB2 := Lib.hid (HB.out.trans (hb2.mono HB.out.size))
  clear hb2
  go_wp2_with fail
  with_reducible refine (C3.out _ HB2.out).mono ?_
  rintro e w3 ⟨rfl, hb3⟩
  have HB3 := Lib.hid (HB2.out.trans (hb3.mono HB2.out.size))
  clear hb3
  go_wp2
  go_ret
  exact ⟨ret_int (by rw [HV.out]), HB3.out⟩
end Go.Proofs.Ytmdmemompjpmkaa
