/-
  WALKS: deadlines of the model: latest beginnings and late tasks.
-/
import Derived.Test.YthbajjkggfgogaaR80
import Derived.Test.YthbajjkggfgogaaK8
import Derived.Test.YthbajjkggfgogaaK11
namespace Go.Proofs.Ythbajjkggfgogaa
open Go.RowKit
set_option maxHeartbeats 1600000 in
theorem latestS_any (A : Option Addr) (c : Nat) (g : List Bs.T) (d : Int) (lo hi : Nat) (w : World) (h : RG w lo hi A g) (hh : hi ≤ w.heap.size) (hv : Bs.valid g = true) (hd : Bs.dlOk d = true) :
    Calls Try.prog 44 #[.slice A g.length c, .int .i64 d] w (RetI w (Bs.latC g d)) := by
  have hF := valid_fine hv
  have h8 := Bs.fine_len hF
  have htl := Bs.tailsC_len hv
  have C1 := Lib.hid (fun W (hb : Below w.heap.size w W) => tailsS_any A c g lo hi W (h.below hb hh) (Nat.le_trans hh hb.size) hF (valid_full hv))
  have HDB := Lib.hid (show 0 ≤ d ∧ d ≤ 200 from by unfold Bs.dlOk at hd; exact of_decide_eq_true hd)
  have HTB := Lib.hid (fun i (hi : i < g.length) => tails_law (g := g) (L := Bs.tailsC g) (by rw [hv]; rfl) htl i hi)
  have HLL := Lib.hid (show (Bs.latC g d).length = g.length from by rw [Bs.latC_len, htl])
  have HLA := Lib.hid (fun i (hi : i < g.length) => Bs.latC_at (g := g) (d := d) (i := i) (by omega))
  have HTL := Lib.hid htl
  have HZ := Lib.hid (OI.new w w.heap.size (Nat.le_refl _))
  have HB0 := Lib.hid ((Below.refl w.heap.size w).alloc (Nat.le_refl _) (.cells #[] 3))
  clear h hv hd hF htl
  generalize Bs.latC g d = LC at *
  generalize Bs.tailsC g = TL at *
  go_enter Try.func44, Try.ntmps44
  have C2 := Lib.hid (C1.out (w.alloc (.cells #[] 3)) HB0.out)
  go_wp2_with fail
  with_reducible refine (C2.out).mono ?_
  rintro e w2 ⟨⟨A2, c2, rfl, ho2⟩, hb2⟩
  have HB2 := Lib.hid (HB0.out.trans (hb2.mono HB0.out.size))
  have HT2 := Lib.hid ho2.ri
  have HZ2 := Lib.hid (HZ.out.below hb2 (Nat.le_refl _))
  have s2 := hb2.size
  have hw2 : w.heap.size ≤ w2.heap.size := Nat.le_trans HB0.out.size s2
  clear ho2 hb2 C1 C2 HB0 HZ
  generalize (w.alloc (.cells #[] 3)).heap.size = B1 at *
  go_wp2
  go_loopw [5, 7] (fun vo i wr => ∃ (k : Nat) (A' : Option Addr) (c' : Nat) (q : List Int), k ≤ g.length ∧ vo = .slice A' q.length c' ∧ i = .int .i64 k ∧ q = LC.take k ∧ (q = [] → OI wr w.heap.size A' c' []) ∧ OZ wr w2.heap.size A' c' q ∧ RI wr B1 w2.heap.size A2 TL ∧ Below w.heap.size w wr ∧ w2.heap.size ≤ wr.heap.size) (fun _ i _ => g.length - (intOf i).toNat)
  case atStart => exact ⟨0, _, _, [], Nat.zero_le _, rfl, rfl, by simp, fun _ => HZ2.out, .inl ⟨rfl, rfl⟩, HT2.out, HB2.out, Nat.le_refl _⟩
  case round =>
    clear HT2 HB2 HZ2
    obtain ⟨k, A5, c5, q, hk, rfl, rfl, hq, hz, hO, hT, hb, hs5⟩ := hrel
    have HZr := Lib.hid hz
    clear hz
    have hll := HLL.out
    by_cases hlt : k < g.length
    · have htl := HTL.out
      obtain ⟨b4, o4, rfl, _, _, k4⟩ := hT.at_ (k := k) (by omega)
      have hgi : TL[k] = Bs.gi TL k := (gi_at (by omega)).symm
      rw [hgi] at k4
      obtain ⟨t0, t1, _⟩ := HTB.out k hlt
      have hdb := HDB.out
      have hla := HLA.out k hlt
      rw [Bs.giZ_at (by omega)] at hla
      have hp := List.take_succ_eq_append_getElem (l := LC) (i := k) (by omega)
      rw [← hq, hla] at hp
      have hql : q.length ≤ k := by rw [hq, List.length_take]; omega
      have HO := Lib.hid hO
      have HTr := Lib.hid hT
      have HBb := Lib.hid hb
      have HQL := Lib.hid hql
      have HP := Lib.hid hp.symm
      have sr := hb.size
      have i0 : (0 : Int) ≤ (k : Int) := by omega
      have i1 : (k : Int) < (g.length : Int) := by omega
      have i2 : (k : Int) < (TL.length : Int) := by omega
      clear hq hO hT hb hql hll htl hgi hla hp HLA HTB
      generalize Bs.gi TL k = tk at *
      have hw : IntKind.i64.wrap (d - tk) = d - tk := IntWalk.i64_in _ ⟨by omega, by omega⟩
      have HO2 := Lib.hid (HO.out.alloc (.cells #[.int .i64 (d - tk)] 3))
      have HBb2 := Lib.hid (HBb.out.alloc sr (.cells #[.int .i64 (d - tk)] 3))
      go_wp2_with (first
        | (at_builtin; refine push_z rfl _ _ rfl w2.heap.size A5 c5 q (d - tk) rfl HO2.out wr.heap.size 1 rfl (by simp [go_sem]) (by have := HQL.out; omega) (by simp; omega) ?_; intro A6 c6 w6 ho6 hb6; have HO6 := Lib.hid ho6; have HBb6 := Lib.hid (HBb2.out.trans (hb6.mono hw2)); have HT6 := Lib.hid ((HTr.out.below ((Below.refl w2.heap.size wr).alloc hs5 (.cells #[.int .i64 (d - tk)] 3)) (Nat.le_refl _)).below hb6 (Nat.le_refl _)); have s6 := hb6.size; rw [World.size_alloc] at s6; clear ho6 hb6))
      go_roundw
      case rel => exact ⟨k + 1, A6, c6, q ++ [d - tk], by omega, by rw [List.length_append]; rfl, by go_num, HP.out, fun e => by simp at e, .inr HO6.out, HT6.out, HBb6.out, by omega⟩
      case measure => simp [intOf]; omega
    · obtain rfl : k = g.length := by omega
      have hqe : q = LC := by rw [hq, List.take_of_length_le (by omega)]
      have HQE := Lib.hid hqe
      have HO := Lib.hid (show OI wr w.heap.size A5 c5 q from by
        rcases hO with ⟨e, _⟩ | h
        · have := HZr.out e; rw [e]; exact this
        · exact h.base hw2)
      have HB := Lib.hid hb
      clear hO hT hb hq hqe hll HLL HTL
      go_wp2
      go_ret
      rw [← HQE.out]
      exact ⟨⟨A5, c5, rfl, HO.out⟩, HB.out⟩
set_option maxHeartbeats 1600000 in
theorem LatestStartsS_any (A : Option Addr) (c : Nat) (g : List Bs.T) (d : Int) (lo hi : Nat) (w : World) (h : RG w lo hi A g) (hh : hi ≤ w.heap.size) (hl : g.length ≤ 9223372036854775807) :
    Calls Try.prog 17 #[.slice A g.length c, .int .i64 d] w (RetI w (Bs.latL g d)) := by
  have q1 := validGraphS_any A c g lo hi w h hh hl
  have q2 := fun W => inRange_any d 0 200 W
  have hdd : decide (0 ≤ d ∧ d ≤ 200) = Bs.dlOk d := rfl
  rw [hdd] at q2
  clear hdd
  cases hv : Bs.valid g
  · rw [hv] at q1
    have C1 := Lib.hid q1
    have HV := Lib.hid (Bs.latL_no1 (d := d) hv)
    clear q1 q2 hv h
    go_enter Try.func17, Try.ntmps17
    go_wp2_with fail
    with_reducible refine (C1.out).mono ?_
    rintro e w1 ⟨rfl, hb⟩
    have HB := Lib.hid hb
    clear hb
    go_wp2
    go_ret
    exact RetI.nil HB.out HV.out
  rw [hv] at q1
  have C1 := Lib.hid q1
  cases hd : Bs.dlOk d
  · rw [hd] at q2
    have C2 := Lib.hid q2
    have HV := Lib.hid (Bs.latL_no2 (g := g) hd)
    clear q1 q2 hv h hd
    go_enter Try.func17, Try.ntmps17
    go_wp2_with fail
    with_reducible refine (C1.out).mono ?_
    rintro e w1 ⟨rfl, hb⟩
    have HB := Lib.hid hb
    clear hb
    go_wp2_with fail
    with_reducible refine (C2.out _).mono ?_
    rintro e w2 ⟨rfl, rfl⟩
    go_wp2
    go_ret
    exact RetI.nil HB.out HV.out
  rw [hd] at q2
  have C2 := Lib.hid q2
  have C3 := Lib.hid (fun W (hb : Below w.heap.size w W) => latestS_any A c g d lo hi W (h.below hb hh) (Nat.le_trans hh hb.size) hv hd)
  have HV := Lib.hid (Bs.latL_yes hv hd)
  clear q1 q2 hv h hd
  go_enter Try.func17, Try.ntmps17
  go_wp2_with fail
  with_reducible refine (C1.out).mono ?_
  rintro e w1 ⟨rfl, hb⟩
  have HB := Lib.hid hb
  have s1 := hb.size
  clear hb
  go_wp2_with fail
  with_reducible refine (C2.out _).mono ?_
  rintro e w2 ⟨rfl, rfl⟩
  go_wp2_with fail
  with_reducible refine (C3.out _ HB.out).mono ?_
  rintro e w3 ⟨⟨A3, c3, rfl, ho3⟩, hb3⟩
  have HO3 := Lib.hid (ho3.base s1)
  have HB3 := Lib.hid (HB.out.trans (hb3.mono s1))
  clear ho3 hb3
  go_wp2
  go_ret
  rw [HV.out]
  exact ⟨⟨A3, c3, rfl, HO3.out⟩, HB3.out⟩
set_option maxHeartbeats 1600000 in
theorem LateTasksS_any (A : Option Addr) (c : Nat) (g : List Bs.T) (A1 : Option Addr) (c1 : Nat) (m : List Int) (A2 : Option Addr) (c2 : Nat) (S : List Int) (wk d : Int) (lo hi l1 h1 l2 h2 : Nat) (w : World) (h : RG w lo hi A g) (hh : hi ≤ w.heap.size) (hm : RI w l1 h1 A1 m) (hh1 : h1 ≤ w.heap.size) (hs : RI w l2 h2 A2 S) (hh2 : h2 ≤ w.heap.size) (hl : g.length ≤ 9223372036854775807) (hml : m.length ≤ 9223372036854775807) (hsl : S.length ≤ 9223372036854775807) :
    Calls Try.prog 23 #[.slice A g.length c, .slice A1 m.length c1, .int .i64 wk, .slice A2 S.length c2, .int .i64 d] w (RetI w (Bs.lateL g m wk S d)) := by
  have HZ := Lib.hid (OI.new w w.heap.size (Nat.le_refl _))
  have HB0 := Lib.hid ((Below.refl w.heap.size w).alloc (Nat.le_refl _) (.cells #[] 3))
  have q1 := fun W (hb : Below w.heap.size w W) => validStartsS_any A c g A1 c1 m A2 c2 S wk lo hi l1 h1 l2 h2 W (h.below hb hh) (Nat.le_trans hh hb.size) (hm.below hb hh1) (Nat.le_trans hh1 hb.size) (hs.below hb hh2) (Nat.le_trans hh2 hb.size) hl hml hsl
  have q2 := fun W => inRange_any d 0 200 W
  have hdd : decide (0 ≤ d ∧ d ≤ 200) = Bs.dlOk d := rfl
  rw [hdd] at q2
  clear hdd
  cases hv : Bs.stV g m wk S
  · rw [hv] at q1
    have C1 := Lib.hid (q1 (w.alloc (.cells #[] 3)) HB0.out)
    have HV := Lib.hid (Bs.lateL_no1 (d := d) hv)
    clear q1 q2 hv h hm hs HZ
    go_enter Try.func23, Try.ntmps23
    go_wp2_with fail
    with_reducible refine (C1.out).mono ?_
    rintro e w1 ⟨rfl, hb⟩
    have HB := Lib.hid (HB0.out.trans (hb.mono HB0.out.size))
    clear hb
    go_wp2
    go_ret
    exact RetI.nil HB.out HV.out
  rw [hv] at q1
  have C1 := Lib.hid (q1 (w.alloc (.cells #[] 3)) HB0.out)
  cases hd : Bs.dlOk d
  · rw [hd] at q2
    have C2 := Lib.hid q2
    have HV := Lib.hid (Bs.lateL_no2 (g := g) (m := m) (wk := wk) (S := S) hd)
    clear q1 q2 hv h hm hs hd HZ
    go_enter Try.func23, Try.ntmps23
    go_wp2_with fail
    with_reducible refine (C1.out).mono ?_
    rintro e w1 ⟨rfl, hb⟩
    have HB := Lib.hid (HB0.out.trans (hb.mono HB0.out.size))
    clear hb
    go_wp2_with fail
    with_reducible refine (C2.out _).mono ?_
    rintro e w2 ⟨rfl, rfl⟩
    go_wp2
    go_ret
    exact RetI.nil HB.out HV.out
  rw [hd] at q2
  have C2 := Lib.hid q2
  obtain ⟨hcan, hck, _⟩ := Bs.stV_iff.1 hv
  have hval := (Bs.canV_iff.1 hcan).1
  have hF := valid_fine hval
  have h8 := Bs.fine_len hF
  have hSl := Bs.clk_len hck
  have htl := Bs.tailsC_len hval
  have C3 := Lib.hid (fun W (hb : Below w.heap.size w W) => latestS_any A c g d lo hi W (h.below hb hh) (Nat.le_trans hh hb.size) hval hd)
  have HLL := Lib.hid (show (Bs.latC g d).length = g.length from by rw [Bs.latC_len, htl])
  have HLA := Lib.hid (fun i (hi : i < g.length) => Bs.latC_at (g := g) (d := d) (i := i) (by omega))
  have HPE := Lib.hid (fun i => show Bs.lateP g S d i = decide (d - Bs.gi (Bs.tailsC g) i < Bs.giZ S i) from rfl)
  have HV := Lib.hid (Bs.lateL_yes hv hd)
  have HVC := Lib.hid (show Bs.lateC g S d = Bs.pick g.length (Bs.lateP g S d) from rfl)
  have HSL := Lib.hid hSl
  have HS := Lib.hid hs
  clear q1 q2 hv hd h hm hs hcan hck hval hF hSl htl
  generalize Bs.latC g d = LC at *
  go_enter Try.func23, Try.ntmps23
  go_wp2_with fail
  with_reducible refine (C1.out).mono ?_
  rintro e w1 ⟨rfl, hb⟩
  have HB := Lib.hid (HB0.out.trans (hb.mono HB0.out.size))
  have HZ1 := Lib.hid (HZ.out.below hb (Nat.le_refl _))
  have s1 := hb.size
  clear hb HB0 HZ
  go_wp2_with fail
  with_reducible refine (C2.out _).mono ?_
  rintro e w2 ⟨rfl, rfl⟩
  have C4 := Lib.hid (C3.out w1 HB.out)
  clear C1 C2 C3
  go_wp2_with fail
  with_reducible refine (C4.out).mono ?_
  rintro e w3 ⟨⟨A3, c3, rfl, ho3⟩, hb3⟩
  have HB3 := Lib.hid (HB.out.trans (hb3.mono HB.out.size))
  have HT3 := Lib.hid ho3.ri
  have HZ3 := Lib.hid (HZ1.out.below hb3 (Nat.le_refl _))
  have s3 := hb3.size
  have hw3 : w.heap.size ≤ w3.heap.size := Nat.le_trans HB.out.size s3
  clear ho3 hb3 C4 HB HZ1
  go_wp2
  go_loopw [11, 13] (fun vo i wr => ∃ (k : Nat) (A' : Option Addr) (c' : Nat) (q : List Int), k ≤ g.length ∧ vo = .slice A' q.length c' ∧ i = .int .i64 k ∧ q = Bs.pick k (Bs.lateP g S d) ∧ (q = [] → OI wr w.heap.size A' c' []) ∧ OZ wr w3.heap.size A' c' q ∧ RI wr w1.heap.size w3.heap.size A3 LC ∧ Below w.heap.size w wr ∧ w3.heap.size ≤ wr.heap.size) (fun _ i _ => g.length - (intOf i).toNat)
  case atStart => exact ⟨0, _, _, [], Nat.zero_le _, rfl, rfl, rfl, fun _ => HZ3.out, .inl ⟨rfl, rfl⟩, HT3.out, HB3.out, Nat.le_refl _⟩
  case round =>
    clear HT3 HB3 HZ3
    obtain ⟨k, A5, c5, q, hk, rfl, rfl, hq, hz, hO, hT, hb, hs5⟩ := hrel
    have HZr := Lib.hid hz
    clear hz
    have hll := HLL.out
    by_cases hlt : k < g.length
    · have hsl2 := HSL.out
      obtain ⟨b4, o4, rfl, _, _, k4⟩ := hT.at_ (k := k) (by omega)
      obtain ⟨b5, o5, rfl, _, _, k5⟩ := (HS.out.below hb hh2).at_ (k := k) (by omega)
      rw [← Bs.giZ_at (by omega), HLA.out k hlt] at k4
      rw [← Bs.giZ_at (by omega)] at k5
      have hp := Bs.pick_succ k (Bs.lateP g S d)
      rw [← hq, HPE.out] at hp
      have hql : q.length ≤ k := by rw [hq]; exact Bs.pick_len _ _
      have HO := Lib.hid hO
      have HTr := Lib.hid hT
      have HBb := Lib.hid hb
      have HQL := Lib.hid hql
      have sr := hb.size
      have i0 : (0 : Int) ≤ (k : Int) := by omega
      have i1 : (k : Int) < (g.length : Int) := by omega
      have i2 : (k : Int) < (LC.length : Int) := by omega
      have i3 : (k : Int) < (S.length : Int) := by omega
      clear hq hO hT hb hql hll hsl2 HLA HPE
      generalize d - Bs.gi (Bs.tailsC g) k = x at *
      generalize Bs.giZ S k = y at *
      by_cases hxy : x < y
      · have d1 : decide (x < y) = true := decide_eq_true hxy
        have d2 : decide (y > x) = true := decide_eq_true hxy
        rw [d1] at hp
        simp only [if_true] at hp
        have HP := Lib.hid hp.symm
        clear hp hxy
        go_wp2
        go_quiet (fail)
        have HO1 := Lib.hid (HO.out.drewN nq)
        have HBb1 := Lib.hid (HBb.out.drewN nq)
        have HT1 := Lib.hid (show RI (wr.drewN nq) w1.heap.size w3.heap.size _ LC from HTr.out)
        have hs6 : w3.heap.size ≤ (wr.drewN nq).heap.size := hs5
        clear HO HBb HTr k4 k5 HZr
        generalize wr.drewN nq = W1 at *
        have sr1 := HBb1.out.size
        have HO2 := Lib.hid (HO1.out.alloc (.cells #[.int .i64 (k : Int)] 3))
        have HBb2 := Lib.hid (HBb1.out.alloc sr1 (.cells #[.int .i64 (k : Int)] 3))
        go_wp2_with (first
          | (at_builtin; refine push_z rfl _ _ rfl w3.heap.size A5 c5 q (k : Int) rfl HO2.out W1.heap.size 1 rfl (by simp [go_sem]) (by have := HQL.out; omega) (by simp; omega) ?_; intro A6 c6 w6 ho6 hb6; have HO6 := Lib.hid ho6; have HBb6 := Lib.hid (HBb2.out.trans (hb6.mono hw3)); have HT6 := Lib.hid ((HT1.out.below ((Below.refl w3.heap.size W1).alloc hs6 (.cells #[.int .i64 (k : Int)] 3)) (Nat.le_refl _)).below hb6 (Nat.le_refl _)); have s6 := hb6.size; rw [World.size_alloc] at s6; clear ho6 hb6))
        go_roundw
        case rel => exact ⟨k + 1, A6, c6, q ++ [(k : Int)], by omega, by rw [List.length_append]; rfl, by go_num, HP.out, fun e => by simp at e, .inr HO6.out, HT6.out, HBb6.out, by omega⟩
        case measure => simp [intOf]; omega
      · have d1 : decide (x < y) = false := decide_eq_false hxy
        have d2 : decide (y > x) = false := decide_eq_false hxy
        rw [d1] at hp
        simp only [Bool.false_eq_true, if_false] at hp
        have HP := Lib.hid hp.symm
        clear hp hxy
        go_wp2
        go_quiet (fail)
        go_wp2
        go_roundw
        case rel => exact ⟨k + 1, A5, c5, q, by omega, rfl, by go_num, HP.out, fun e => (HZr.out e).drewN _, HO.out.drewN _, HTr.out, HBb.out.drewN _, hs5⟩
        case measure => simp [intOf]; omega
    · obtain rfl : k = g.length := by omega
      have HQE := Lib.hid (hq.trans HVC.out.symm)
      have HO := Lib.hid (show OI wr w.heap.size A5 c5 q from by
        rcases hO with ⟨e, _⟩ | h
        · have := HZr.out e; rw [e]; exact this
        · exact h.base hw3)
      have HB := Lib.hid hb
      clear hO hT hb hq hll HLL
      go_wp2
      go_ret
      rw [HV.out, ← HQE.out]
      exact ⟨⟨A5, c5, rfl, HO.out⟩, HB.out⟩
end Go.Proofs.Ythbajjkggfgogaa
