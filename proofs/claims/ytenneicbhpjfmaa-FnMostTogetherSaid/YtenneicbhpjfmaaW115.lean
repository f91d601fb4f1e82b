/-
  WALKS: what runs together by a log, of the program.
-/
import Derived.Test.YtenneicbhpjfmaaW114
namespace Go.Proofs.Ytenneicbhpjfmaa
open Go.RowKit
set_option maxRecDepth 20000 in
set_option maxHeartbeats 1600000 in
theorem endsTime_any (A1 : Option Addr) (c1 : Nat) (l : List Bs.E) (k : Nat) (l1 h1 : Nat) (w : World) (hm : RE w l1 h1 A1 l) (hk : k < l.length) (h16 : l.length ≤ 16) (hmo : k + 1 < l.length → (Bs.ge l k).at_ ≤ (Bs.ge l (k + 1)).at_) :
    Calls Try.prog 66 #[.slice A1 l.length c1, .int .i64 (k : Int)] w fun e w' => e = .returned (.bool (Bs.lastT l k)) ∧ Below w.heap.size w w' := by
  obtain ⟨b, o, rfl, _, _, k0, k1, k2⟩ := hm.at_ hk
  have HNX := Lib.hid (fun (hx : k + 1 < l.length) => show w.cell? ⟨b, o + (k + 1) * 3, none⟩ = some (.int .i64 (Bs.ge l (k + 1)).at_) from by
    obtain ⟨b', o', e', _, _, j0, _, _⟩ := hm.at_ hx
    cases e'
    exact j0)
  have hla : Bs.lastT l k = (decide (k + 1 = l.length) || decide ((Bs.ge l k).at_ < (Bs.ge l (k + 1)).at_)) := rfl
  have HMO := Lib.hid hmo
  generalize hq : Bs.lastT l k = la at *
  generalize (Bs.ge l k).at_ = xa at *
  generalize (Bs.ge l (k + 1)).at_ = xb at *
  clear hq hm k1 k2 hmo
  have i0 : (0 : Int) ≤ (k : Int) := by omega
  have i1 : (k : Int) < (l.length : Int) := by omega
  have hwk2 : IntKind.i64.wrap ((k : Int) + 1) = (k : Int) + 1 := IntWalk.i64_in _ ⟨by omega, by omega⟩
  have hkt : ((k : Int) + 1).toNat = k + 1 := by omega
  by_cases hk1 : k + 1 = l.length
  · have d1 : ((k : Int) + 1 == (l.length : Int)) = true := by rw [beq_iff_eq]; omega
    have HV := Lib.hid (show la = true from by rw [hla, show decide (k + 1 = l.length) = true from decide_eq_true hk1]; rfl)
    clear hla HNX hk1 HMO
    go_enter Try.func66, Try.ntmps66
    go_wp2
    go_quiet (fail)
    go_wp2
    go_ret
    exact ⟨ret_bool HV.out.symm, (Below.refl _ _).drewN _⟩
  · have d1 : ((k : Int) + 1 == (l.length : Int)) = false := by rw [beq_eq_false_iff_ne]; omega
    have kn := HNX.out (by omega)
    have hmo := HMO.out (by omega)
    have j0 : (0 : Int) ≤ (k : Int) + 1 := by omega
    have j1 : (k : Int) + 1 < (l.length : Int) := by omega
    rw [show decide (k + 1 = l.length) = false from decide_eq_false hk1, Bool.false_or] at hla
    have HV := Lib.hid (show (xa != xb) = la from by
      rw [hla]
      by_cases hx : xa < xb
      · rw [decide_eq_true hx, bne_iff_ne]; omega
      · rw [decide_eq_false hx, bne_eq_false_iff_eq]; omega)
    clear hla HNX hk1 HMO hmo
    obtain ⟨ne, hne⟩ : ∃ ne, (xa != xb) = ne := ⟨_, rfl⟩
    rw [hne] at HV
    go_enter Try.func66, Try.ntmps66
    go_wp2
    go_quiet (fail)
    go_wp2
    go_ret
    exact ⟨ret_bool HV.out, (Below.refl _ _).drewN _⟩
theorem run_len {g : List Bs.T} {l : List Bs.E} {k : Nat} (h : Bs.LI g l k) (h8 : g.length ≤ 8) : (((Bs.pick 8 (fun j => (runN (Bs.bits (Bs.bgL l k)) (Bs.bits (Bs.ovL l k))).testBit j)).length : Nat) : Int) = Bs.rnK l k := by
  rw [← Bs.run_count h h8]
  congr 2
  refine Bs.pick_congr _ _ _ (fun i _ => ?_)
  unfold runN
  rw [Bs.minus_test _ _ (Bs.bits_lt _ (h.b8 h8)) (Bs.bits_lt _ (h.o8 h8)), Bs.bits_test _ (fun x hx => (h.b8 h8 x hx).1), Bs.bits_test _ (fun x hx => (h.o8 h8 x hx).1)]
set_option maxRecDepth 20000 in
set_option maxHeartbeats 3200000 in
theorem MostTogether_any (A : Option Addr) (c : Nat) (g : List Bs.T) (A1 : Option Addr) (c1 : Nat) (l : List Bs.E) (lo hi l1 h1 : Nat) (w : World) (h : RG w lo hi A g) (hh : hi ≤ w.heap.size) (hm : RE w l1 h1 A1 l) (hh1 : h1 ≤ w.heap.size) (hl : g.length ≤ 9223372036854775807) (hll : l.length ≤ 9223372036854775807) :
    Calls Try.prog 37 #[.slice A g.length c, .slice A1 l.length c1] w fun e w' => e = .returned (.int .i64 (Bs.mtL g l)) ∧ Below w.heap.size w w' := by
  have q1 := ValidLog_any A c g A1 c1 l lo hi l1 h1 w h hh hm hh1 hl hll
  cases hv : Bs.logV g l
  · rw [hv] at q1
    have C1 := Lib.hid q1
    have HV := Lib.hid (Bs.mtL_no hv)
    clear q1 hv h hm
    go_enter Try.func37, Try.ntmps37
    go_wp2_with fail
    with_reducible refine (C1.out).mono ?_
    rintro e w1 ⟨rfl, hb⟩
    have HB := Lib.hid hb
    clear hb
    go_wp2
    go_ret
    exact ⟨ret_int HV.out.symm, HB.out⟩
  rw [hv] at q1
  have C1 := Lib.hid q1
  obtain ⟨hgv, h16, hev⟩ := Bs.logV_iff.1 hv
  have hF := valid_fine hgv
  have h8 := Bs.fine_len hF
  have HV := Lib.hid (Bs.mtL_yes hv)
  have HLI := Lib.hid (fun k (hk : k ≤ l.length) => Bs.LI.of hF k (Bs.evK_le hk hev))
  have HEV := Lib.hid (fun k (hk : k < l.length) => Bs.evOk_iff.1 (Bs.evK_at hk hev))
  have HMS := Lib.hid (fun k => show Bs.mtK l (k + 1) = if Bs.lastT l k then max (Bs.mtK l k) (Bs.rnK l (k + 1)) else Bs.mtK l k from rfl)
  have HR := Lib.hid hm
  have CE := Lib.hid (fun k (hk : k < l.length) W (hb : Below w.heap.size w W) => endsTime_any A1 c1 l k l1 h1 W (hm.below hb hh1) hk h16 (fun hx => by
    have := (Bs.evOk_iff.1 (Bs.evK_at hx hev)).2.2.1
    rcases this with h0 | h0
    · omega
    · exact h0))
  clear q1 hv h hm hgv hev hF
  go_enter Try.func37, Try.ntmps37
  go_wp2_with fail
  with_reducible refine (C1.out).mono ?_
  rintro e w1 ⟨rfl, hb⟩
  have HS1 := Lib.hid (LS.new w1 0 z8 0 0)
  have HB1 := Lib.hid (hb.alloc hb.size (.cells (lsA 0 z8 0 0) 63))
  rw [lsZero] at HS1 HB1
  have s1 := hb.size
  clear hb C1
  go_wp2
  go_loopw [5, 17] (fun m i wr => ∃ (k : Nat), k ≤ l.length ∧ i = .int .i64 k ∧ m = .int .i64 (Bs.mtK l k) ∧ LS wr w1.heap.size (Bs.nwK l k) (Bs.bgF l k) (Bs.bits (Bs.bgL l k)) (Bs.bits (Bs.ovL l k)) ∧ Below w.heap.size w wr) (fun _ i _ => l.length - (intOf i).toNat)
  case atStart => exact ⟨0, Nat.zero_le _, rfl, rfl, HS1.out, HB1.out⟩
  case round =>
    obtain ⟨k, hk, rfl, rfl, hls, hb⟩ := hrel
    clear HS1 HB1
    by_cases hlt : k < l.length
    · have hli := HLI.out k hk
      have hli2 := HLI.out (k + 1) hlt
      have he := HEV.out k hlt
      obtain ⟨b, o, rfl, _, _, q0, q1, q2⟩ := (HR.out.below hb hh1).at_ hlt
      have HLS := Lib.hid (hls.alloc (.cells #[.int .i64 (Bs.ge l k).at_, .int .i64 (Bs.ge l k).task, .bool (Bs.ge l k).over] 30))
      have HEV2 := Lib.hid (show EV (wr.alloc (.cells #[.int .i64 (Bs.ge l k).at_, .int .i64 (Bs.ge l k).task, .bool (Bs.ge l k).over] 30)) wr.heap.size (Bs.ge l k) from Blk.new wr _ _)
      have hevb : Blk (wr.alloc (.cells #[.int .i64 (Bs.ge l k).at_, .int .i64 (Bs.ge l k).task, .bool (Bs.ge l k).over] 30)) wr.heap.size 30 #[.int .i64 (Bs.ge l k).at_, .int .i64 (Bs.ge l k).task, .bool (Bs.ge l k).over] := Blk.new wr _ _
      have HBA := Lib.hid (hb.alloc hb.size (.cells #[.int .i64 (Bs.ge l k).at_, .int .i64 (Bs.ge l k).task, .bool (Bs.ge l k).over] 30))
      have i0 : (0 : Int) ≤ (k : Int) := by omega
      have i1 : (k : Int) < (l.length : Int) := by omega
      have C3 := Lib.hid (fun W => after_any l k (Bs.nwK l k) W (hli.b8 h8) (hli.o8 h8) (by omega))
      have c4 := fun W => running_any (Bs.nwK l (k + 1)) (Bs.bgF l (k + 1)) (Bs.bits (Bs.bgL l (k + 1))) (Bs.bits (Bs.ovL l (k + 1))) W (Bs.bits_lt _ (hli2.b8 h8)) (Bs.bits_lt _ (hli2.o8 h8))
      have c5 := fun W => listOf_any (runN (Bs.bits (Bs.bgL l (k + 1))) (Bs.bits (Bs.ovL l (k + 1)))) W (runN_lt (Bs.bits_lt _ (hli2.b8 h8)))
      have HRL := Lib.hid (run_len hli2 h8)
      have C4 := Lib.hid c4
      have C5 := Lib.hid c5
      have hms := HMS.out k
      have C6 := Lib.hid (CE.out k hlt)
      have slt := hls.lt
      clear hls hb hli hli2 he c4 c5 HLI HEV HMS CE hevb
      generalize Bs.nwK l k = nw at *
      generalize Bs.bgF l k = bf at *
      generalize Bs.bits (Bs.bgL l k) = bb at *
      generalize Bs.bits (Bs.ovL l k) = ob at *
      generalize hnw2 : Bs.nwK l (k + 1) = nw2 at *
      generalize hbf2 : Bs.bgF l (k + 1) = bf2 at *
      generalize hbb2 : Bs.bits (Bs.bgL l (k + 1)) = bb2 at *
      generalize hob2 : Bs.bits (Bs.ovL l (k + 1)) = ob2 at *
      have HN1 := Lib.hid hnw2
      have HN2 := Lib.hid hbf2
      have HN3 := Lib.hid hbb2
      have HN4 := Lib.hid hob2
      clear hnw2 hbf2 hbb2 hob2
      generalize Bs.pick 8 (fun j => (runN bb2 ob2).testBit j) = RL at *
      generalize hmq : Bs.mtK l k = mq at *
      generalize hnq : Bs.rnK l (k + 1) = nq at *
      have hrl := HRL.out
      generalize hla : Bs.lastT l k = la at *
      clear hmq hnq hla
      go_wp2_with (first
        | (refine ls_load rfl _ rfl w1.heap.size nw bf bb ob rfl HLS.out ?_))
      with_reducible refine (C3.out _).mono ?_
      rintro e w6 ⟨rfl, hb6⟩
      have HB6 := Lib.hid (HBA.out.trans (hb6.mono HBA.out.size))
      have HLS6 := Lib.hid (HLS.out.below hb6 HLS.out.lt)
      clear hb6
      go_wp2_with (first
        | (refine ls_store rfl _ _ rfl w1.heap.size nw nw2 bf bf2 bb bb2 ob ob2 rfl rfl HLS6.out ?_; intro w9 h9 o9; have H9 := Lib.hid h9; have HB9 := Lib.hid (HB6.out.trans (o9.below s1)); clear h9 o9)
        | (refine ls_load rfl _ rfl w1.heap.size nw2 bf2 bb2 ob2 rfl H9.out ?_))
      with_reducible refine (C4.out _).mono ?_
      rintro e w10 ⟨rfl, hb10⟩
      have HB10 := Lib.hid (HB9.out.trans (hb10.mono HB9.out.size))
      have H10 := Lib.hid (H9.out.below hb10 H9.out.lt)
      clear hb10
      go_wp2_with fail
      with_reducible refine (C5.out _).mono ?_
      rintro e w11 ⟨⟨A11, c11, rfl, _⟩, hb11⟩
      have HB11 := Lib.hid (HB10.out.trans (hb11.mono HB10.out.size))
      have H11 := Lib.hid (H10.out.below hb11 H10.out.lt)
      clear hb11
      go_wp2_with fail
      with_reducible refine (C6.out _ HB11.out).mono ?_
      rintro e w12 ⟨rfl, hb12⟩
      have HB12 := Lib.hid (HB11.out.trans (hb12.mono HB11.out.size))
      have H12 := Lib.hid (H11.out.below hb12 H11.out.lt)
      have h12 : LS w12 w1.heap.size (Bs.nwK l (k + 1)) (Bs.bgF l (k + 1)) (Bs.bits (Bs.bgL l (k + 1))) (Bs.bits (Bs.ovL l (k + 1))) := by rw [HN1.out, HN2.out, HN3.out, HN4.out]; exact H12.out
      have HX12 := Lib.hid h12
      clear hb12 h12
      cases la
      · simp only [Bool.false_eq_true, if_false] at hms
        have HMSr := Lib.hid hms
        clear hms hrl
        go_wp2
        go_roundw
        case rel => exact ⟨k + 1, by omega, by go_num, by rw [HMSr.out], HX12.out, HB12.out⟩
        case measure => simp [intOf]; omega
      · simp only [if_true] at hms
        by_cases hx : mq < nq
        · have e1 : decide (mq < nq) = true := decide_eq_true (by omega)
          have HMSr := Lib.hid (show Bs.mtK l (k + 1) = nq from by rw [hms, Int.max_def]; split <;> omega)
          clear hms hrl hx
          go_wp2
          go_roundw
          case rel => exact ⟨k + 1, by omega, by go_num, by rw [HMSr.out], HX12.out, HB12.out⟩
          case measure => simp [intOf]; omega
        · have e1 : decide (mq < nq) = false := decide_eq_false (by omega)
          have HMSr := Lib.hid (show Bs.mtK l (k + 1) = mq from by rw [hms, Int.max_def]; split <;> omega)
          clear hms hrl hx
          go_wp2
          go_roundw
          case rel => exact ⟨k + 1, by omega, by go_num, by rw [HMSr.out], HX12.out, HB12.out⟩
          case measure => simp [intOf]; omega
    · obtain rfl : k = l.length := by omega
      have HB := Lib.hid hb
      clear hls hb
      go_wp2
      go_ret
      exact ⟨ret_int HV.out.symm, HB.out⟩
end Go.Proofs.Ytenneicbhpjfmaa
