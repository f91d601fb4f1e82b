/-
  MERGED TEXTS: W115 W116 W117.
-/
import Derived.Test.YtihgakbopkaemaaK41
namespace Go.Proofs.Ytihgakbopkaemaa
open Go.RowKit
set_option maxRecDepth 20000 in
set_option maxHeartbeats 1600000 in
theorem endsTime_any (A1 : Option Addr) (c1 : Nat) (l : List Bs.E) (k : Nat) (l1 h1 : Nat) (w : World) (hm : RE w l1 h1 A1 l) (hk : k < l.length) (h16 : l.length ≤ 16) (hmo : k + 1 < l.length → (Bs.ge l k).at_ ≤ (Bs.ge l (k + 1)).at_) :
    Calls Try.prog 56 #[.slice A1 l.length c1, .int .i64 (k : Int)] w fun e w' => e = .returned (.bool (Bs.lastT l k)) ∧ Below w.heap.size w w' := by
  obtain ⟨b, o, rfl, _, _, k0, k1, k2⟩ := hm.at_ hk
  have HNX := Lib.hid (fun (hx : k + 1 < l.length) => show w.cell? ⟨b, o + (k + 1) * 3, none⟩ = some (.int .i64 (Bs.ge l (k + 1)).at_) from by
    obtain ⟨b', o', e', _, _, j0, _, _⟩ := hm.at_ hx
    cases e'
    exact j0)
  have hla : Bs.lastT l k = (decide (k + 1 = l.length) || decide ((Bs.ge l k).at_ < (Bs.ge l (k + 1)).at_)) := rfl
  have HMO := Lib.hid hmo
  generalize hq : Bs.lastT l k = la at *
  generalize (Bs.ge l k).at_ = xa at *
  generalize (Bs.ge l (k + 1)).at_ = xb at *
  clear hq hm k1 k2 hmo
  have i0 : (0 : Int) ≤ (k : Int) := by omega
  have i1 : (k : Int) < (l.length : Int) := by omega
  have hwk2 : IntKind.i64.wrap ((k : Int) + 1) = (k : Int) + 1 := IntWalk.i64_in _ ⟨by omega, by omega⟩
  have hkt : ((k : Int) + 1).toNat = k + 1 := by omega
  by_cases hk1 : k + 1 = l.length
  · have d1 : ((k : Int) + 1 == (l.length : Int)) = true := by rw [beq_iff_eq]; omega
    have HV := Lib.hid (show la = true from by rw [hla, show decide (k + 1 = l.length) = true from decide_eq_true hk1]; rfl)
    clear hla HNX hk1 HMO
    go_enter Try.func56, Try.ntmps56
    go_wp2
    go_quiet (fail)
    go_wp2
    go_ret
    exact ⟨ret_bool HV.out.symm, (Below.refl _ _).drewN _⟩
  · have d1 : ((k : Int) + 1 == (l.length : Int)) = false := by rw [beq_eq_false_iff_ne]; omega
    have kn := HNX.out (by omega)
    have hmo := HMO.out (by omega)
    have j0 : (0 : Int) ≤ (k : Int) + 1 := by omega
    have j1 : (k : Int) + 1 < (l.length : Int) := by omega
    rw [show decide (k + 1 = l.length) = false from decide_eq_false hk1, Bool.false_or] at hla
    have HV := Lib.hid (show (xa != xb) = la from by
      rw [hla]
      by_cases hx : xa < xb
      · rw [decide_eq_true hx, bne_iff_ne]; omega
      · rw [decide_eq_false hx, bne_eq_false_iff_eq]; omega)
    clear hla HNX hk1 HMO hmo
    obtain ⟨ne, hne⟩ : ∃ ne, (xa != xb) = ne := ⟨_, rfl⟩
    rw [hne] at HV
    go_enter Try.func56, Try.ntmps56
    go_wp2
    go_quiet (fail)
    go_wp2
    go_ret
    exact ⟨ret_bool HV.out, (Below.refl _ _).drewN _⟩
theorem run_len {g : List Bs.T} {l : List Bs.E} {k : Nat} (h : Bs.LI g l k) (h8 : g.length ≤ 8) : (((Bs.pick 8 (fun j => (runN (Bs.bits (Bs.bgL l k)) (Bs.bits (Bs.ovL l k))).testBit j)).length : Nat) : Int) = Bs.rnK l k := by
  rw [← Bs.run_count h h8]
  congr 2
  refine Bs.pick_congr _ _ _ (fun i _ => ?_)
  unfold runN
  rw [Bs.minus_test _ _ (Bs.bits_lt _ (h.b8 h8)) (Bs.bits_lt _ (h.o8 h8)), Bs.bits_test _ (fun x hx => (h.b8 h8 x hx).1), Bs.bits_test _ (fun x hx => (h.o8 h8 x hx).1)]
set_option maxRecDepth 20000 in
set_option maxHeartbeats 3200000 in
theorem MostTogether_any (A : Option Addr) (c : Nat) (g : List Bs.T) (A1 : Option Addr) (c1 : Nat) (l : List Bs.E) (lo hi l1 h1 : Nat) (w : World) (h : RG w lo hi A g) (hh : hi ≤ w.heap.size) (hm : RE w l1 h1 A1 l) (hh1 : h1 ≤ w.heap.size) (hl : g.length ≤ 9223372036854775807) (hll : l.length ≤ 9223372036854775807) :
    Calls Try.prog 25 #[.slice A g.length c, .slice A1 l.length c1] w fun e w' => e = .returned (.int .i64 (Bs.mtL g l)) ∧ Below w.heap.size w w' := by
  have q1 := ValidLog_any A c g A1 c1 l lo hi l1 h1 w h hh hm hh1 hl hll
  cases hv : Bs.logV g l
  · rw [hv] at q1
    have C1 := Lib.hid q1
    have HV := Lib.hid (Bs.mtL_no hv)
    clear q1 hv h hm
    go_enter Try.func25, Try.ntmps25
    go_wp2_with fail
    with_reducible refine (C1.out).mono ?_
    rintro e w1 ⟨rfl, hb⟩
    have HB := Lib.hid hb
    clear hb
    go_wp2
    go_ret
    exact ⟨ret_int HV.out.symm, HB.out⟩
  rw [hv] at q1
  have C1 := Lib.hid q1
  obtain ⟨hgv, h16, hev⟩ := Bs.logV_iff.1 hv
  have hF := valid_fine hgv
  have h8 := Bs.fine_len hF
  have HV := Lib.hid (Bs.mtL_yes hv)
  have HLI := Lib.hid (fun k (hk : k ≤ l.length) => Bs.LI.of hF k (Bs.evK_le hk hev))
  have HEV := Lib.hid (fun k (hk : k < l.length) => Bs.evOk_iff.1 (Bs.evK_at hk hev))
  have HMS := Lib.hid (fun k => show Bs.mtK l (k + 1) = if Bs.lastT l k then max (Bs.mtK l k) (Bs.rnK l (k + 1)) else Bs.mtK l k from rfl)
  have HR := Lib.hid hm
  have CE := Lib.hid (fun k (hk : k < l.length) W (hb : Below w.heap.size w W) => endsTime_any A1 c1 l k l1 h1 W (hm.below hb hh1) hk h16 (fun hx => by
    have := (Bs.evOk_iff.1 (Bs.evK_at hx hev)).2.2.1
    rcases this with h0 | h0
    · omega
    · exact h0))
  clear q1 hv h hm hgv hev hF
  go_enter Try.func25, Try.ntmps25
  go_wp2_with fail
  with_reducible refine (C1.out).mono ?_
  rintro e w1 ⟨rfl, hb⟩
  have HS1 := Lib.hid (LS.new w1 0 z8 0 0)
  have HB1 := Lib.hid (hb.alloc hb.size (.cells (lsA 0 z8 0 0) 61))
  rw [lsZero] at HS1 HB1
  have s1 := hb.size
  clear hb C1
  go_wp2
  go_loopw [5, 17] (fun m i wr => ∃ (k : Nat), k ≤ l.length ∧ i = .int .i64 k ∧ m = .int .i64 (Bs.mtK l k) ∧ LS wr w1.heap.size (Bs.nwK l k) (Bs.bgF l k) (Bs.bits (Bs.bgL l k)) (Bs.bits (Bs.ovL l k)) ∧ Below w.heap.size w wr) (fun _ i _ => l.length - (intOf i).toNat)
  case atStart => exact ⟨0, Nat.zero_le _, rfl, rfl, HS1.out, HB1.out⟩
  case round =>
    obtain ⟨k, hk, rfl, rfl, hls, hb⟩ := hrel
    clear HS1 HB1
    by_cases hlt : k < l.length
    · have hli := HLI.out k hk
      have hli2 := HLI.out (k + 1) hlt
      have he := HEV.out k hlt
      obtain ⟨b, o, rfl, _, _, q0, q1, q2⟩ := (HR.out.below hb hh1).at_ hlt
      have HLS := Lib.hid (hls.alloc (.cells #[.int .i64 (Bs.ge l k).at_, .int .i64 (Bs.ge l k).task, .bool (Bs.ge l k).over] 33))
      have HEV2 := Lib.hid (show EV (wr.alloc (.cells #[.int .i64 (Bs.ge l k).at_, .int .i64 (Bs.ge l k).task, .bool (Bs.ge l k).over] 33)) wr.heap.size (Bs.ge l k) from Blk.new wr _ _)
      have hevb : Blk (wr.alloc (.cells #[.int .i64 (Bs.ge l k).at_, .int .i64 (Bs.ge l k).task, .bool (Bs.ge l k).over] 33)) wr.heap.size 33 #[.int .i64 (Bs.ge l k).at_, .int .i64 (Bs.ge l k).task, .bool (Bs.ge l k).over] := Blk.new wr _ _
      have HBA := Lib.hid (hb.alloc hb.size (.cells #[.int .i64 (Bs.ge l k).at_, .int .i64 (Bs.ge l k).task, .bool (Bs.ge l k).over] 33))
      have i0 : (0 : Int) ≤ (k : Int) := by omega
      have i1 : (k : Int) < (l.length : Int) := by omega
      have C3 := Lib.hid (fun W => after_any l k (Bs.nwK l k) W (hli.b8 h8) (hli.o8 h8) (by omega))
      have c4 := fun W => running_any (Bs.nwK l (k + 1)) (Bs.bgF l (k + 1)) (Bs.bits (Bs.bgL l (k + 1))) (Bs.bits (Bs.ovL l (k + 1))) W (Bs.bits_lt _ (hli2.b8 h8)) (Bs.bits_lt _ (hli2.o8 h8))
      have c5 := fun W => listOf_any (runN (Bs.bits (Bs.bgL l (k + 1))) (Bs.bits (Bs.ovL l (k + 1)))) W (runN_lt (Bs.bits_lt _ (hli2.b8 h8)))
      have HRL := Lib.hid (run_len hli2 h8)
      have C4 := Lib.hid c4
      have C5 := Lib.hid c5
      have hms := HMS.out k
      have C6 := Lib.hid (CE.out k hlt)
      have slt := hls.lt
      clear hls hb hli hli2 he c4 c5 HLI HEV HMS CE hevb
      generalize Bs.nwK l k = nw at *
      generalize Bs.bgF l k = bf at *
      generalize Bs.bits (Bs.bgL l k) = bb at *
      generalize Bs.bits (Bs.ovL l k) = ob at *
      generalize hnw2 : Bs.nwK l (k + 1) = nw2 at *
      generalize hbf2 : Bs.bgF l (k + 1) = bf2 at *
      generalize hbb2 : Bs.bits (Bs.bgL l (k + 1)) = bb2 at *
      generalize hob2 : Bs.bits (Bs.ovL l (k + 1)) = ob2 at *
      have HN1 := Lib.hid hnw2
      have HN2 := Lib.hid hbf2
      have HN3 := Lib.hid hbb2
      have HN4 := Lib.hid hob2
      clear hnw2 hbf2 hbb2 hob2
      generalize Bs.pick 8 (fun j => (runN bb2 ob2).testBit j) = RL at *
      generalize hmq : Bs.mtK l k = mq at *
      generalize hnq : Bs.rnK l (k + 1) = nq at *
      have hrl := HRL.out
      generalize hla : Bs.lastT l k = la at *
      clear hmq hnq hla
      go_wp2_with (first
        | (refine ls_load rfl _ rfl w1.heap.size nw bf bb ob rfl HLS.out ?_))
      with_reducible refine (C3.out _).mono ?_
      rintro e w6 ⟨rfl, hb6⟩
      have HB6 := Lib.hid (HBA.out.trans (hb6.mono HBA.out.size))
      have HLS6 := Lib.hid (HLS.out.below hb6 HLS.out.lt)
      clear hb6
      go_wp2_with (first
        | (refine ls_store rfl _ _ rfl w1.heap.size nw nw2 bf bf2 bb bb2 ob ob2 rfl rfl HLS6.out ?_; intro w9 h9 o9; have H9 := Lib.hid h9; have HB9 := Lib.hid (HB6.out.trans (o9.below s1)); clear h9 o9)
        | (refine ls_load rfl _ rfl w1.heap.size nw2 bf2 bb2 ob2 rfl H9.out ?_))
      with_reducible refine (C4.out _).mono ?_
      rintro e w10 ⟨rfl, hb10⟩
      have HB10 := Lib.hid (HB9.out.trans (hb10.mono HB9.out.size))
      have H10 := Lib.hid (H9.out.below hb10 H9.out.lt)
      clear hb10
      go_wp2_with fail
      with_reducible refine (C5.out _).mono ?_
      rintro e w11 ⟨⟨A11, c11, rfl, _⟩, hb11⟩
      have HB11 := Lib.hid (HB10.out.trans (hb11.mono HB10.out.size))
      have H11 := Lib.hid (H10.out.below hb11 H10.out.lt)
      clear hb11
      go_wp2_with fail
      with_reducible refine (C6.out _ HB11.out).mono ?_
      rintro e w12 ⟨rfl, hb12⟩
      have HB12 := Lib.hid (HB11.out.trans (hb12.mono HB11.out.size))
      have H12 := Lib.hid (H11.out.below hb12 H11.out.lt)
      have h12 : LS w12 w1.heap.size (Bs.nwK l (k + 1)) (Bs.bgF l (k + 1)) (Bs.bits (Bs.bgL l (k + 1))) (Bs.bits (Bs.ovL l (k + 1))) := by rw [HN1.out, HN2.out, HN3.out, HN4.out]; exact H12.out
      have HX12 := Lib.hid h12
      clear hb12 h12
      cases la
      · simp only [Bool.false_eq_true, if_false] at hms
        have HMSr := Lib.hid hms
        clear hms hrl
        go_wp2
        go_roundw
        case rel => exact ⟨k + 1, by omega, by go_num, by rw [HMSr.out], HX12.out, HB12.out⟩
        case measure => simp [intOf]; omega
      · simp only [if_true] at hms
        by_cases hx : mq < nq
        · have e1 : decide (mq < nq) = true := decide_eq_true (by omega)
          have HMSr := Lib.hid (show Bs.mtK l (k + 1) = nq from by rw [hms, Int.max_def]; split <;> omega)
          clear hms hrl hx
          go_wp2
          go_roundw
          case rel => exact ⟨k + 1, by omega, by go_num, by rw [HMSr.out], HX12.out, HB12.out⟩
          case measure => simp [intOf]; omega
        · have e1 : decide (mq < nq) = false := decide_eq_false (by omega)
          have HMSr := Lib.hid (show Bs.mtK l (k + 1) = mq from by rw [hms, Int.max_def]; split <;> omega)
          clear hms hrl hx
          go_wp2
          go_roundw
          case rel => exact ⟨k + 1, by omega, by go_num, by rw [HMSr.out], HX12.out, HB12.out⟩
          case measure => simp [intOf]; omega
    · obtain rfl : k = l.length := by omega
      have HB := Lib.hid hb
      clear hls hb
      go_wp2
      go_ret
      exact ⟨ret_int HV.out.symm, HB.out⟩
end Go.Proofs.Ytihgakbopkaemaa
namespace Go.Proofs.Ytihgakbopkaemaa
open Go.RowKit
theorem or_bit_lt {b v : Nat} (hb : b < 256) (hv : v < 8) : (b ||| 1 <<< v) < 256 := by
  have h1 : (1 : Nat) <<< v < 2 ^ 8 := by
    rw [Nat.shiftLeft_eq, Nat.one_mul]
    exact Nat.pow_lt_pow_right (by decide) hv
  exact Nat.or_lt_two_pow (n := 8) hb h1
theorem pick_cut (p : Nat → Bool) (n : Nat) : ∀ m, n ≤ m → (∀ i, n ≤ i → i < m → p i = false) → Bs.pick m p = Bs.pick n p := by
  intro m
  induction m with
  | zero =>
    intro h _
    have hn : n = 0 := by omega
    rw [hn]
  | succ m ih =>
    intro h hp
    by_cases hm : n = m + 1
    · rw [hm]
    · rw [Bs.pick_skip m p (hp m (by omega) (by omega))]
      exact ih (by omega) (fun i h1 h2 => hp i h1 (by omega))
theorem done_bits {g : List Bs.T} {l : List Bs.E} {now : Int} (h : Bs.LI g l l.length) (h8 : g.length ≤ 8) : Bs.pick 8 (fun j => (Bs.bits (Bs.ovN l now l.length)).testBit j) = Bs.doneC g l now := by
  have hin := fun (x : Int) (hx : x ∈ Bs.ovN l now l.length) => h.oin x (Bs.ovN_sub l.length x hx)
  unfold Bs.doneC
  rw [← pick_cut (fun t => (Bs.ovN l now l.length).contains (t : Int)) g.length 8 h8 (fun i h1 _ => by
    rw [Bool.eq_false_iff]
    intro hc
    have := hin (i : Int) (by simpa using hc)
    omega)]
  refine Bs.pick_congr _ _ _ (fun i _ => ?_)
  exact Bs.bits_test _ (fun x hx => (hin x hx).1) i
set_option maxRecDepth 20000 in
set_option maxHeartbeats 3200000 in
theorem DoneBy_any (A : Option Addr) (c : Nat) (g : List Bs.T) (A1 : Option Addr) (c1 : Nat) (l : List Bs.E) (now : Int) (lo hi l1 h1 : Nat) (w : World) (h : RG w lo hi A g) (hh : hi ≤ w.heap.size) (hm : RE w l1 h1 A1 l) (hh1 : h1 ≤ w.heap.size) (hl : g.length ≤ 9223372036854775807) (hll : l.length ≤ 9223372036854775807) :
    Calls Try.prog 16 #[.slice A g.length c, .slice A1 l.length c1, .int .i64 now] w (RetI w (Bs.doneL g l now)) := by
  have q1 := ValidLog_any A c g A1 c1 l lo hi l1 h1 w h hh hm hh1 hl hll
  cases hv : Bs.logV g l
  · rw [hv] at q1
    have C1 := Lib.hid q1
    have HV := Lib.hid (Bs.doneL_no (now := now) hv)
    clear q1 hv h hm
    go_enter Try.func16, Try.ntmps16
    go_wp2_with fail
    with_reducible refine (C1.out).mono ?_
    rintro e w1 ⟨rfl, hb⟩
    have HB := Lib.hid hb
    clear hb
    go_wp2
    go_ret
    exact RetI.nil HB.out HV.out
  rw [hv] at q1
  have C1 := Lib.hid q1
  obtain ⟨hgv, h16, hev⟩ := Bs.logV_iff.1 hv
  have hF := valid_fine hgv
  have h8 := Bs.fine_len hF
  have HV := Lib.hid (show Bs.pick 8 (fun j => (Bs.bits (Bs.ovN l now l.length)).testBit j) = Bs.doneL g l now from (done_bits (Bs.LI.of hF _ hev) h8).trans (Bs.doneL_yes hv).symm)
  have HEV := Lib.hid (fun k (hk : k < l.length) => Bs.evOk_iff.1 (Bs.evK_at hk hev))
  have HOB := Lib.hid (fun k (hk : k ≤ l.length) => Bs.bits_lt (Bs.ovN l now k) (fun x hx => (Bs.LI.of hF k (Bs.evK_le hk hev)).o8 h8 x (Bs.ovN_sub k x hx)))
  have HOS := Lib.hid (fun k => show Bs.ovN l now (k + 1) = if (Bs.ge l k).over && decide ((Bs.ge l k).at_ ≤ now) then Bs.ovN l now k ++ [(Bs.ge l k).task] else Bs.ovN l now k from rfl)
  have HR := Lib.hid hm
  clear q1 hv h hm hgv hev hF
  go_enter Try.func16, Try.ntmps16
  go_wp2_with fail
  with_reducible refine (C1.out).mono ?_
  rintro e w1 ⟨rfl, hb⟩
  have HS1 := Lib.hid (LS.new w1 0 z8 0 0)
  have HB1 := Lib.hid (hb.alloc hb.size (.cells (lsA 0 z8 0 0) 61))
  rw [lsZero] at HS1 HB1
  have s1 := hb.size
  clear hb C1
  go_wp2
  go_loopw [17] (fun i wr => ∃ (k : Nat) (nw : Int) (bf : Nat → Int) (bb : Nat), k ≤ l.length ∧ i = .int .i64 k ∧ bb < 256 ∧ LS wr w1.heap.size nw bf bb (Bs.bits (Bs.ovN l now k)) ∧ Below w.heap.size w wr) (fun i _ => l.length - (intOf i).toNat)
  case atStart => exact ⟨0, 0, z8, 0, Nat.zero_le _, rfl, by omega, HS1.out, HB1.out⟩
  case round =>
    obtain ⟨k, nw, bf, bb, hk, rfl, hbb, hls, hb⟩ := hrel
    clear HS1 HB1
    have hob := HOB.out k hk
    by_cases hlt : k < l.length
    · have he := HEV.out k hlt
      obtain ⟨b, o, rfl, _, _, q0, q1, q2⟩ := (HR.out.below hb hh1).at_ hlt
      have hos := HOS.out k
      generalize Bs.ovN l now k = ON at *
      generalize (Bs.ge l k).at_ = xa at *
      generalize hxt : (Bs.ge l k).task = xt at *
      generalize (Bs.ge l k).over = xo at *
      obtain ⟨v, rfl⟩ : ∃ v : Nat, xt = (v : Int) := ⟨xt.toNat, by omega⟩
      have hv8 : v < 8 := by omega
      have HLS := Lib.hid (hls.alloc (.cells #[.int .i64 xa, .int .i64 (v : Int), .bool xo] 33))
      have hevb : Blk (wr.alloc (.cells #[.int .i64 xa, .int .i64 (v : Int), .bool xo] 33)) wr.heap.size 33 #[.int .i64 xa, .int .i64 (v : Int), .bool xo] := Blk.new wr _ _
      have e0 : (wr.alloc (.cells #[.int .i64 xa, .int .i64 (v : Int), .bool xo] 33)).cell? ⟨wr.heap.size, 0, none⟩ = some (.int .i64 xa) := (Blk.cell hevb 0).trans rfl
      have HBA := Lib.hid (hb.alloc hb.size (.cells #[.int .i64 xa, .int .i64 (v : Int), .bool xo] 33))
      have i0 : (0 : Int) ≤ (k : Int) := by omega
      have i1 : (k : Int) < (l.length : Int) := by omega
      have slt := hls.lt
      clear hls hb he HEV HOB HOS hevb hxt
      by_cases hx : xa ≤ now
      rotate_left
      · have d1 : decide (xa ≤ now) = false := decide_eq_false hx
        rw [d1, Bool.and_false] at hos
        have HON := Lib.hid hos
        clear hos hx
        go_wp2
        go_roundw
        case rel => exact ⟨k + 1, nw, bf, bb, by omega, by go_num, hbb, by rw [HON.out]; exact HLS.out, HBA.out⟩
        case measure => simp [intOf]; omega
      · have d1 : decide (xa ≤ now) = true := decide_eq_true hx
        rw [d1, Bool.and_true] at hos
        clear hx
        cases xo
        · have C3 := Lib.hid (fun W => after_begin nw bf bb (Bs.bits ON) xa (v : Int) v W hv8 hbb rfl)
          have HON := Lib.hid hos
          clear hos
          generalize hbo : Bs.bits ON = bo at *
          go_wp2_with (first
            | (refine ls_load rfl _ rfl w1.heap.size nw bf bb bo rfl HLS.out ?_))
          with_reducible refine (C3.out _).mono ?_
          rintro e w6 ⟨rfl, hb6⟩
          have HB6 := Lib.hid (HBA.out.trans (hb6.mono HBA.out.size))
          have HLS6 := Lib.hid (HLS.out.below hb6 HLS.out.lt)
          clear hb6
          go_wp2_with (first
            | (refine ls_store rfl _ _ rfl w1.heap.size nw xa bf (Bs.upd bf v xa) bb (bb ||| 1 <<< v) bo bo rfl rfl HLS6.out ?_; intro w9 h9 o9; have H9 := Lib.hid h9; have HB9 := Lib.hid (HB6.out.trans (o9.below s1)); clear h9 o9))
          go_roundw
          case rel => exact ⟨k + 1, xa, Bs.upd bf v xa, bb ||| 1 <<< v, by omega, by go_num, or_bit_lt hbb hv8, by rw [HON.out]; simp only [Bool.false_eq_true, if_false]; rw [hbo]; exact H9.out, HB9.out⟩
          case measure => simp [intOf]; omega
        · have C3 := Lib.hid (fun W => after_over nw bf bb (Bs.bits ON) xa (v : Int) v W hv8 hob rfl)
          have HON := Lib.hid hos
          clear hos
          generalize hbo : Bs.bits ON = bo at *
          go_wp2_with (first
            | (refine ls_load rfl _ rfl w1.heap.size nw bf bb bo rfl HLS.out ?_))
          with_reducible refine (C3.out _).mono ?_
          rintro e w6 ⟨rfl, hb6⟩
          have HB6 := Lib.hid (HBA.out.trans (hb6.mono HBA.out.size))
          have HLS6 := Lib.hid (HLS.out.below hb6 HLS.out.lt)
          clear hb6
          go_wp2_with (first
            | (refine ls_store rfl _ _ rfl w1.heap.size nw xa bf bf bb bb bo (bo ||| 1 <<< v) rfl rfl HLS6.out ?_; intro w9 h9 o9; have H9 := Lib.hid h9; have HB9 := Lib.hid (HB6.out.trans (o9.below s1)); clear h9 o9))
          go_roundw
          case rel => exact ⟨k + 1, xa, bf, bb, by omega, by go_num, hbb, by rw [HON.out]; simp only [if_true]; rw [Bs.bits_snoc, hbo, Int.toNat_natCast]; exact H9.out, HB9.out⟩
          case measure => simp [intOf]; omega
    · obtain rfl : k = l.length := by omega
      have C4 := Lib.hid (listOf_any (Bs.bits (Bs.ovN l now l.length)) wr hob)
      rw [HV.out] at C4
      have HB := Lib.hid hb
      have k10 := hls.all_.2.2.2.2.2.2.2.2.2.2
      generalize Bs.bits (Bs.ovN l now l.length) = bo at *
      generalize hDL : Bs.doneL g l now = DL at *
      clear hls hb hDL
      go_wp2_with fail
      with_reducible refine (C4.out).mono ?_
      intro e w5 hr5
      have HR5 := Lib.hid (RetI.after HB.out hr5 rfl)
      obtain ⟨⟨A5, c5, rfl, _⟩, _⟩ := hr5
      go_wp2
      go_ret
      exact HR5.out
end Go.Proofs.Ytihgakbopkaemaa
namespace Go.Proofs.Ytihgakbopkaemaa
open Go.RowKit
def tmK (g : List Bs.T) (L : List Int) (k : Nat) : Int := Bs.sumZ ((L.take k).map fun x => Bs.timeOf g x.toNat)
theorem tmK_succ (g : List Bs.T) (L : List Int) {k : Nat} (hk : k < L.length) : tmK g L (k + 1) = tmK g L k + Bs.timeOf g L[k].toNat := by
  unfold tmK
  rw [List.take_succ_eq_append_getElem hk, List.map_append, Bs.sumZ_append]
  simp [Bs.sumZ]
theorem tmK_b {g : List Bs.T} {L : List Int} (hF : Bs.fine g = true) (hL : ∀ x ∈ L, 0 ≤ x ∧ x < g.length) : ∀ k, k ≤ L.length → 0 ≤ tmK g L k ∧ tmK g L k ≤ 20 * k := by
  intro k
  induction k with
  | zero => intro _; simp [tmK, Bs.sumZ]
  | succ k ih =>
    intro hk
    have h1 := ih (by omega)
    have h2 := hL L[k] (List.getElem_mem _)
    obtain ⟨v, hv⟩ : ∃ v : Nat, L[k] = (v : Int) := ⟨L[k].toNat, by omega⟩
    have h3 := Bs.fine_time' hF (i := v) (by omega)
    rw [tmK_succ g L (by omega), hv, Int.toNat_natCast, Bs.timeOf_eq (by omega)]
    omega
set_option maxRecDepth 20000 in
set_option maxHeartbeats 1600000 in
theorem timesOf_any2 (A : Option Addr) (c : Nat) (g : List Bs.T) (A1 : Option Addr) (c1 : Nat) (L : List Int) (lo hi l1 h1 : Nat) (w : World) (h : RG w lo hi A g) (hh : hi ≤ w.heap.size) (hm : RI w l1 h1 A1 L) (hh1 : h1 ≤ w.heap.size) (hF : Bs.fine g = true) (hL : ∀ x ∈ L, 0 ≤ x ∧ x < g.length) (hLl : L.length ≤ 1000) :
    Calls Try.prog 59 #[.slice A g.length c, .slice A1 L.length c1] w fun e w' => e = .returned (.int .i64 (Bs.sumZ (L.map fun x => Bs.timeOf g x.toNat))) ∧ Below w.heap.size w w' := by
  have h8 := Bs.fine_len hF
  have HV := Lib.hid (show tmK g L L.length = Bs.sumZ (L.map fun x => Bs.timeOf g x.toNat) from by unfold tmK; rw [List.take_length])
  have HS := Lib.hid (fun k (hk : k < L.length) => tmK_succ g L hk)
  have HB := Lib.hid (fun k (hk : k ≤ L.length) => tmK_b hF hL k hk)
  have HT := Lib.hid (fun k (hk : k < g.length) => Bs.fine_time' hF hk)
  have HIN := Lib.hid (fun k (hk : k < L.length) => hL L[k] (List.getElem_mem _))
  have HG := Lib.hid h
  have HR := Lib.hid hm
  generalize Bs.sumZ (L.map fun x => Bs.timeOf g x.toNat) = V at *
  clear h hm hL hF
  go_enter Try.func59, Try.ntmps59
  go_wp2
  go_loopw [5, 10] (fun v i wr => ∃ (k : Nat), k ≤ L.length ∧ i = .int .i64 (k : Int) ∧ v = .int .i64 (tmK g L k) ∧ Below w.heap.size w wr) (fun _ i _ => L.length - (intOf i).toNat)
  case atStart => exact ⟨0, Nat.zero_le _, rfl, rfl, Below.refl _ _⟩
  case round =>
    obtain ⟨k, hk, rfl, rfl, hb⟩ := hrel
    by_cases hlt : k < L.length
    · obtain ⟨b, o, rfl, _, _, k0⟩ := (HR.out.below hb hh1).at_ hlt
      have hin := HIN.out k hlt
      have hbb := HB.out k hk
      have hbs := HS.out k hlt
      obtain ⟨v, hvv⟩ : ∃ v : Nat, L[k] = (v : Int) := ⟨L[k].toNat, by omega⟩
      have hvl : v < g.length := by omega
      have hti := HT.out v hvl
      rw [hvv] at k0 hbs
      rw [Int.toNat_natCast, Bs.timeOf_eq hvl] at hbs
      obtain ⟨bg, og, N, cN, rfl, _, _, g0, _, _, _, _, _, _⟩ := (HG.out.below hb hh) v hvl
      have HBr := Lib.hid hb
      have i0 : (0 : Int) ≤ (k : Int) := by omega
      have i1 : (k : Int) < (L.length : Int) := by omega
      have v0 : (0 : Int) ≤ (v : Int) := by omega
      have v1 : (v : Int) < (g.length : Int) := by omega
      generalize g[v].time = tv at *
      clear hin hvv hb HB HS HT HIN
      generalize hq : tmK g L k = bq at *
      clear hq
      have hw1 : IntKind.i64.wrap (bq + tv) = bq + tv := IntWalk.i64_in _ ⟨by omega, by omega⟩
      have HBSr := Lib.hid hbs
      clear hbs hti hbb
      go_wp2
      go_roundw
      case rel => exact ⟨k + 1, by omega, by go_num, by rw [HBSr.out], HBr.out⟩
      case measure => simp [intOf]; omega
    · obtain rfl : k = L.length := by omega
      have HBr := Lib.hid hb
      clear hb
      go_wp2
      go_ret
      exact ⟨ret_int HV.out, HBr.out⟩
set_option maxHeartbeats 1600000 in
theorem BusyTime_any (A : Option Addr) (c : Nat) (g : List Bs.T) (A1 : Option Addr) (c1 : Nat) (l : List Bs.E) (lo hi l1 h1 : Nat) (w : World) (h : RG w lo hi A g) (hh : hi ≤ w.heap.size) (hm : RE w l1 h1 A1 l) (hh1 : h1 ≤ w.heap.size) (hl : g.length ≤ 9223372036854775807) (hll : l.length ≤ 9223372036854775807) :
    Calls Try.prog 27 #[.slice A g.length c, .slice A1 l.length c1] w fun e w' => e = .returned (.int .i64 (Bs.busL g l)) ∧ Below w.heap.size w w' := by
  have q1 := ValidLog_any A c g A1 c1 l lo hi l1 h1 w h hh hm hh1 hl hll
  cases hv : Bs.logV g l
  · rw [hv] at q1
    have C1 := Lib.hid q1
    have HV := Lib.hid (Bs.busL_no hv)
    clear q1 hv h hm
    go_enter Try.func27, Try.ntmps27
    go_wp2_with fail
    with_reducible refine (C1.out).mono ?_
    rintro e w1 ⟨rfl, hb⟩
    have HB := Lib.hid hb
    clear hb
    go_wp2
    go_ret
    exact ⟨ret_int HV.out.symm, HB.out⟩
  rw [hv] at q1
  have C1 := Lib.hid q1
  have hF := valid_fine (Bs.logV_iff.1 hv).1
  have h8 := Bs.fine_len hF
  have C2 := Lib.hid (fun W (hb : Below w.heap.size w W) => DoneBy_any A c g A1 c1 l 200 lo hi l1 h1 W (h.below hb hh) (Nat.le_trans hh hb.size) (hm.below hb hh1) (Nat.le_trans hh1 hb.size) hl hll)
  have HV := Lib.hid (show Bs.sumZ ((Bs.doneL g l 200).map fun x => Bs.timeOf g x.toNat) = Bs.busL g l from by rw [Bs.doneL_yes hv, Bs.done_busy hv, Bs.busL_yes hv])
  have hdl := Bs.doneL_len g l 200
  have C3 := Lib.hid (fun (A5 : Option Addr) (c5 : Nat) (B : Nat) W (hb : Below w.heap.size w W) (hr : RI W B W.heap.size A5 (Bs.doneL g l 200)) => timesOf_any2 A c g A5 c5 (Bs.doneL g l 200) lo hi B W.heap.size W (h.below hb hh) (Nat.le_trans hh hb.size) hr (Nat.le_refl _) hF (by
    rw [Bs.doneL_yes hv]
    intro x hx
    unfold Bs.doneC at hx
    obtain ⟨i, hi, _, rfl⟩ := (Bs.mem_pick _ _ _).1 hx
    omega) (by omega))
  rw [HV.out] at C3
  generalize Bs.doneL g l 200 = DL at *
  clear HV q1 hv h hm hF
  go_enter Try.func27, Try.ntmps27
  go_wp2_with fail
  with_reducible refine (C1.out).mono ?_
  rintro e w1 ⟨rfl, hb⟩
  have HB1 := Lib.hid hb
  clear hb C1
  go_wp2_with fail
  with_reducible refine (C2.out _ HB1.out).mono ?_
  rintro e w2 ⟨⟨A5, c5, rfl, ho5⟩, hb5⟩
  have hr5 := ho5.ri
  have HB2 := Lib.hid (HB1.out.trans (hb5.mono HB1.out.size))
  have C4 := Lib.hid (C3.out A5 c5 _ w2 HB2.out hr5)
  clear ho5 hr5 hb5 C2 C3
  go_wp2_with fail
  with_reducible refine (C4.out).mono ?_
  rintro e w3 ⟨rfl, hb3⟩
  have HB3 := Lib.hid (HB2.out.trans (hb3.mono HB2.out.size))
  clear hb3 C4
  go_wp2
  go_ret
  exact ⟨rfl, HB3.out⟩
end Go.Proofs.Ytihgakbopkaemaa
