/-
  WALKS: the least time, of the program.
-/
import Derived.Test.YtfholjgndpefdaaK14
import Derived.Test.YtfholjgndpefdaaK27
import Derived.Test.YtfholjgndpefdaaK8
namespace Go.Proofs.Ytfholjgndpefdaa
open Go.RowKit
def leastK (g : List Bs.T) (m : List Int) (wk : Int) : Nat → Int
  | 0 => max (longC g) ((Bs.sumT g + wk - 1) / wk)
  | k + 1 => max (leastK g m wk k) (Bs.poolT g k (Bs.giZ m k))
def leastL (g : List Bs.T) (m : List Int) (wk : Int) : Int := if Bs.canV g m wk then leastK g m wk 3 else -1
theorem leastL_no {g : List Bs.T} {m : List Int} {wk : Int} (h : Bs.canV g m wk = false) : leastL g m wk = -1 := by unfold leastL; rw [h]; rfl
theorem leastL_yes {g : List Bs.T} {m : List Int} {wk : Int} (h : Bs.canV g m wk = true) : leastL g m wk = leastK g m wk 3 := by unfold leastL; rw [h]; rfl
set_option maxHeartbeats 800000 in
theorem allTimes_any (A : Option Addr) (c : Nat) (g : List Bs.T) (lo hi : Nat) (w : World) (h : RG w lo hi A g) (hh : hi ≤ w.heap.size) (hF : Bs.fine g = true) :
    Calls Try.prog 115 #[.slice A g.length c] w fun e w' => e = .returned (.int .i64 (Bs.sumT g)) ∧ Below w.heap.size w w' := by
  have h8 := Bs.fine_len hF
  have HS := Lib.hid (fun k hk => Bs.sumZ_takeT g Bs.T.time k hk)
  have HB := Lib.hid (fun k hk => Bs.sumT_b hF k hk)
  have HT := Lib.hid (fun i (hi : i < g.length) => Bs.fine_time' hF hi)
  have HG := Lib.hid h
  clear h hF
  go_enter Try.func115, Try.ntmps115
  go_wp2
  go_loopw [3, 8] (fun s i wr => ∃ (k : Nat) (t : Int), k ≤ g.length ∧ s = .int .i64 t ∧ i = .int .i64 k ∧ t = Bs.sumZ ((g.take k).map Bs.T.time) ∧ Below w.heap.size w wr) (fun _ i _ => g.length - (intOf i).toNat)
  case atStart => exact ⟨0, 0, Nat.zero_le _, rfl, rfl, rfl, Below.refl _ _⟩
  case round =>
    obtain ⟨k, t, hk, rfl, rfl, ht, hb⟩ := hrel
    have sr := hb.size
    by_cases hlt : k < g.length
    · obtain ⟨bg, og, N, cN, rfl, _, _, k0, k1, k2, k3, hnc, hcN, hN⟩ := (HG.out.below hb hh) k hlt
      have hst := HS.out k hlt
      rw [← ht] at hst
      have htb := HB.out k hk
      rw [← ht] at htb
      have htt := HT.out k hlt
      have H1 := Lib.hid hst
      have HB1 := Lib.hid hb
      have d1 : (k : Int) < (g.length : Int) := by omega
      clear hN hnc ht hb hst
      generalize g[k].pool = pv at *
      generalize g[k].time = tv at *
      generalize g[k].units = uv at *
      have hw1 : IntKind.i64.wrap (t + tv) = t + tv := IntWalk.i64_in _ ⟨by omega, by omega⟩
      go_wp2
      go_roundw
      case rel => exact ⟨k + 1, t + tv, by omega, rfl, by go_num, H1.out.symm, HB1.out.alloc sr _⟩
      case measure => simp [intOf]; omega
    · have e : g.take k = g := List.take_of_length_le (by omega)
      rw [e] at ht
      have HVT := Lib.hid (show t = Bs.sumT g from ht)
      clear ht e
      go_wp2
      go_ret
      exact ⟨ret_int HVT.out, hb⟩
set_option maxHeartbeats 800000 in
theorem LeastTime_any (A : Option Addr) (c : Nat) (g : List Bs.T) (A1 : Option Addr) (c1 : Nat) (m : List Int) (wk : Int) (lo hi l1 h1 : Nat) (w : World) (h : RG w lo hi A g) (hh : hi ≤ w.heap.size) (hm : RI w l1 h1 A1 m) (hh1 : h1 ≤ w.heap.size) (hl : g.length ≤ 9223372036854775807) (hml : m.length ≤ 9223372036854775807) :
    Calls Try.prog 96 #[.slice A g.length c, .slice A1 m.length c1, .int .i64 wk] w fun e w' => e = .returned (.int .i64 (leastL g m wk)) ∧ Below w.heap.size w w' := by
  have q1 := canPlan_any A c g A1 c1 m wk lo hi l1 h1 w h hh hm hh1 hl hml
  cases hv : Bs.canV g m wk
  · rw [hv] at q1
    have C1 := Lib.hid q1
    have HV := Lib.hid (leastL_no hv)
    clear q1 hv h hm
    go_enter Try.func96, Try.ntmps96
    go_wp2_with fail
    with_reducible refine (C1.out).mono ?_
    rintro e w1 ⟨rfl, hb⟩
    have HB := Lib.hid hb
    clear hb
    go_wp2
    go_ret
    exact ⟨ret_int HV.out.symm, HB.out⟩
  rw [hv] at q1
  have C1 := Lib.hid q1
  have HV := Lib.hid (leastL_yes hv)
  obtain ⟨hval, hroom, hw1, hw4⟩ := Bs.canV_iff.1 hv
  have hF := valid_fine hval
  have h8 := Bs.fine_len hF
  have hm3 := Bs.roomOk_len hroom
  have q2 := fun W (hb : Below w.heap.size w W) => LongestTime_any A c g lo hi W (h.below hb hh) (Nat.le_trans hh hb.size) hl
  have hlong : longL g = longC g := by unfold longL; rw [hval]; rfl
  rw [hlong] at q2
  have q3 := fun W (hb : Below w.heap.size w W) => allTimes_any A c g lo hi W (h.below hb hh) (Nat.le_trans hh hb.size) hF
  have C4 := Lib.hid (fun (p r : Int) W (hb : Below w.heap.size w W) => PoolTime_any A c g p r lo hi W (h.below hb hh) (Nat.le_trans hh hb.size) hl)
  have hsb := Bs.sumT_b hF g.length (Nat.le_refl _)
  rw [List.take_length] at hsb
  have hsb2 : 0 ≤ Bs.sumT g ∧ Bs.sumT g ≤ 160 := ⟨hsb.1, by have h1 := hsb.2; unfold Bs.sumT; omega⟩
  have HL0 := Lib.hid (show leastK g m wk 0 = max (longC g) ((Bs.sumT g + wk - 1) / wk) from rfl)
  have HLK := Lib.hid (fun k => show leastK g m wk (k + 1) = max (leastK g m wk k) (Bs.poolT g (k : Nat) (Bs.giZ m k)) from rfl)
  have HM := Lib.hid hm
  have C2 := Lib.hid q2
  have C3 := Lib.hid q3
  clear q1 q2 q3 hval hroom hF hv h hm hsb hlong hl hml
  have HM3 := Lib.hid hm3
  clear hm3
  generalize Bs.sumT g = sm at *
  generalize longC g = lg at *
  have hq : (wk == 0) = false := by rw [beq_eq_false_iff_ne]; omega
  have hx1 : IntKind.i64.wrap (sm + wk) = sm + wk := IntWalk.i64_in _ ⟨by omega, by omega⟩
  have hx2 : IntKind.i64.wrap (sm + wk - 1) = sm + wk - 1 := IntWalk.i64_in _ ⟨by omega, by omega⟩
  have e2 : Int.tdiv (sm + wk - 1) wk = (sm + wk - 1) / wk := Int.tdiv_eq_ediv_of_nonneg (by omega)
  have hdb : 0 ≤ (sm + wk - 1) / wk ∧ (sm + wk - 1) / wk ≤ 1000 := ⟨Int.ediv_nonneg (by omega) (by omega), Int.le_trans (Int.ediv_le_self _ (by omega)) (by omega)⟩
  go_enter Try.func96, Try.ntmps96
  go_wp2_with fail
  with_reducible refine (C1.out).mono ?_
  rintro e w1 ⟨rfl, hb⟩
  have HB := Lib.hid hb
  clear hb
  go_wp2_with fail
  with_reducible refine (C2.out _ HB.out).mono ?_
  rintro e w2 ⟨rfl, hb2⟩
  have HB2 := Lib.hid (HB.out.trans (hb2.mono HB.out.size))
  clear hb2
  go_wp2_with fail
  with_reducible refine (C3.out _ HB2.out).mono ?_
  rintro e w3 ⟨rfl, hb3⟩
  have HB3 := Lib.hid (HB2.out.trans (hb3.mono HB2.out.size))
  clear hb3 C1 C2 C3
  go_wp2_with fail
  generalize hdd : (sm + wk - 1) / wk = dd at *
  have HX := Lib.hid (show IntKind.i64.wrap dd = dd from IntWalk.i64_in _ ⟨by omega, by omega⟩)
  first
    | with_reducible refine (laterOf_any lg dd _).mono ?_
    | (rw [e2]; with_reducible refine (laterOf_any lg dd _).mono ?_)
    | (rw [HX.out]; with_reducible refine (laterOf_any lg dd _).mono ?_)
    | (rw [e2, HX.out]; with_reducible refine (laterOf_any lg dd _).mono ?_)
  rintro e w4 ⟨rfl, rfl⟩
  go_wp2
  go_loopw [7, 27] (fun s i wr => ∃ (k : Nat) (t : Int), k ≤ 3 ∧ s = .int .i64 t ∧ i = .int .i64 k ∧ t = leastK g m wk k ∧ Below w.heap.size w wr) (fun _ i _ => 3 - (intOf i).toNat)
  case atStart => exact ⟨0, max lg dd, by omega, rfl, rfl, HL0.out.symm, HB3.out⟩
  case round =>
    obtain ⟨k, t, hk, rfl, rfl, ht, hb⟩ := hrel
    clear hx1 hx2 e2 hdb hdd
    by_cases hlt : k < 3
    · have hml3 : k < m.length := by have := HM3.out; omega
      have hmlz : (k : Int) < (m.length : Int) := by omega
      obtain ⟨b, o, rfl, _, _, hc⟩ := (HM.out.below hb hh1).at_ hml3
      rw [← Bs.giZ_at hml3] at hc
      have hst := HLK.out k
      rw [← ht] at hst
      have C6 := Lib.hid (C4.out (k : Int) (Bs.giZ m k) wr hb)
      have H1 := Lib.hid hst
      have HB1 := Lib.hid hb
      clear hst hb ht C4
      generalize Bs.giZ m k = mk at *
      generalize Bs.poolT g (k : Nat) mk = y at *
      go_wp2_with fail
      with_reducible refine (C6.out).mono ?_
      rintro e w5 ⟨rfl, hb5⟩
      have HB5 := Lib.hid (HB1.out.trans (hb5.mono HB1.out.size))
      clear hb5 C6
      go_wp2_with fail
      with_reducible refine (laterOf_any t y _).mono ?_
      rintro e w6 ⟨rfl, rfl⟩
      go_wp2
      go_roundw
      case rel => exact ⟨k + 1, max t y, by omega, rfl, by go_num, H1.out.symm, HB5.out⟩
      case measure => simp [intOf]; omega
    · obtain rfl : k = 3 := by omega
      have hn3 : ¬ ((3 : Int) < (m.length : Int)) := by have := HM3.out; omega
      have HVT := Lib.hid (show t = leastL g m wk from by rw [HV.out, ht])
      clear ht
      go_wp2
      go_ret
      exact ⟨ret_int HVT.out, hb⟩
end Go.Proofs.Ytfholjgndpefdaa
