/-
  WALKS: deadlines of the program: latest beginnings and late tasks.
-/
import Derived.Test.YthbajjkggfgogaaW120
import Derived.Test.YthbajjkggfgogaaK8
import Derived.Test.YthbajjkggfgogaaK11
namespace Go.Proofs.Ythbajjkggfgogaa
open Go.RowKit
/-- the first k latest beginnings, and zeros -/
def Bs.latK (g : List Bs.T) (d : Int) (k : Nat) : List Int := (List.range g.length).map fun i => if i < k then d - Bs.gi (Bs.tailsC g) i else 0
theorem Bs.latK_len (g : List Bs.T) (d : Int) (k : Nat) : (Bs.latK g d k).length = g.length := by simp [Bs.latK]
theorem Bs.latK_zero (g : List Bs.T) (d : Int) : Bs.latK g d 0 = List.replicate g.length 0 := by
  unfold Bs.latK
  rw [List.eq_replicate_iff]
  refine ⟨by simp, fun b hb => ?_⟩
  rw [List.mem_map] at hb
  obtain ⟨i, _, rfl⟩ := hb
  rw [if_neg (by omega)]
theorem Bs.latK_gi {g : List Bs.T} {d : Int} {k i : Nat} (hi : i < g.length) : Bs.gi (Bs.latK g d k) i = if i < k then d - Bs.gi (Bs.tailsC g) i else 0 := by
  unfold Bs.latK
  rw [Bs.gi_range _ _ _ hi]
theorem Bs.latK_succ {g : List Bs.T} {d : Int} {k : Nat} (hk : k < g.length) : (Bs.latK g d k).set k (d - Bs.gi (Bs.tailsC g) k) = Bs.latK g d (k + 1) := by
  refine Bs.list_gi (by rw [List.length_set, Bs.latK_len, Bs.latK_len]) ?_
  intro i hi
  rw [List.length_set, Bs.latK_len] at hi
  rw [Bs.gi_set _ _ _ _ (by rw [Bs.latK_len]; exact hk), Bs.latK_gi hi, Bs.latK_gi hi]
  by_cases e : i = k
  · subst e; rw [if_pos rfl, if_pos (by omega)]
  · rw [if_neg e]
    by_cases h : i < k
    · rw [if_pos h, if_pos (by omega)]
    · rw [if_neg h, if_neg (by omega)]
theorem Bs.latK_all {g : List Bs.T} (hv : Bs.valid g = true) (d : Int) : Bs.latK g d g.length = Bs.latC g d := by
  have hl := Bs.tailsC_len hv
  refine Bs.list_giZ (by rw [Bs.latK_len, Bs.latC_len, hl]) ?_
  intro i hi
  have hi2 : i < g.length := by rw [Bs.latK_len] at hi; exact hi
  rw [Bs.latC_at (by omega), Bs.giZ_at hi, ← gi_at hi, Bs.latK_gi hi2, if_pos hi2]
set_option maxHeartbeats 1600000 in
theorem LatestStarts_any (A : Option Addr) (c : Nat) (g : List Bs.T) (d : Int) (lo hi : Nat) (w : World) (h : RG w lo hi A g) (hh : hi ≤ w.heap.size) (hl : g.length ≤ 9223372036854775807) :
    Calls Try.prog 15 #[.slice A g.length c, .int .i64 d] w (RetI w (Bs.latL g d)) := by
  have q1 := ValidGraph_any A c g lo hi w h hh hl
  have q2 := fun W => validDeadline_any d W
  cases hv : Bs.valid g
  · rw [hv] at q1
    have C1 := Lib.hid q1
    have HV := Lib.hid (Bs.latL_no1 (d := d) hv)
    clear q1 q2 hv h
    go_enter Try.func15, Try.ntmps15
    go_wp2_with fail
    with_reducible refine (C1.out).mono ?_
    rintro e w1 ⟨rfl, hb⟩
    have HB := Lib.hid hb
    clear hb
    go_wp2
    go_ret
    exact RetI.nil HB.out HV.out
  rw [hv] at q1
  have C1 := Lib.hid q1
  cases hd : Bs.dlOk d
  · rw [hd] at q2
    have C2 := Lib.hid q2
    have HV := Lib.hid (Bs.latL_no2 (g := g) hd)
    clear q1 q2 hv h hd
    go_enter Try.func15, Try.ntmps15
    go_wp2_with fail
    with_reducible refine (C1.out).mono ?_
    rintro e w1 ⟨rfl, hb⟩
    have HB := Lib.hid hb
    clear hb
    go_wp2_with fail
    with_reducible refine (C2.out _).mono ?_
    rintro e w2 ⟨rfl, rfl⟩
    go_wp2
    go_ret
    exact RetI.nil HB.out HV.out
  rw [hd] at q2
  have C2 := Lib.hid q2
  have hF := valid_fine hv
  have h8 := Bs.fine_len hF
  have q3 := fun W (hb : Below w.heap.size w W) => TailTimes_any A c g lo hi W (h.below hb hh) (Nat.le_trans hh hb.size) hl
  rw [hv, if_pos rfl] at q3
  have C3 := Lib.hid q3
  have htl := Bs.tailsC_len hv
  have HDB := Lib.hid (show 0 ≤ d ∧ d ≤ 200 from by unfold Bs.dlOk at hd; exact of_decide_eq_true hd)
  have HTB := Lib.hid (fun i (hi : i < g.length) => tails_law (g := g) (L := Bs.tailsC g) (by rw [hv]; rfl) htl i hi)
  have HV := Lib.hid ((Bs.latL_yes hv hd).trans (Bs.latK_all hv d).symm)
  have HTL := Lib.hid htl
  have HSU := Lib.hid (fun k (hk : k < g.length) => Bs.latK_succ (d := d) hk)
  have HZ := Lib.hid (Bs.latK_zero g d)
  have HMK := Lib.hid (fun u => make_ints g.length (by omega) u)
  clear q1 q2 q3 hv h hd hF htl
  generalize Bs.tailsC g = TL at *
  go_enter Try.func15, Try.ntmps15
  go_wp2_with fail
  with_reducible refine (C1.out).mono ?_
  rintro e w1 ⟨rfl, hb⟩
  have HB := Lib.hid hb
  have s1 := hb.size
  clear hb
  go_wp2_with fail
  with_reducible refine (C2.out _).mono ?_
  rintro e w2 ⟨rfl, rfl⟩
  have hmk := HMK.out w1
  have HA1 := Lib.hid (show Arr (w1.alloc (.cells (intsA (List.replicate g.length 0)) 3)) w1.heap.size (Bs.latK g d 0) from by rw [HZ.out]; exact Blk.new _ 3 _)
  have HB1 := Lib.hid (HB.out.alloc s1 (.cells (intsA (List.replicate g.length 0)) 3))
  clear HB HMK C1 C2 HZ
  have C4 := Lib.hid (C3.out (w1.alloc (.cells (intsA (List.replicate g.length 0)) 3)) HB1.out)
  clear C3
  generalize (.cells (intsA (List.replicate g.length 0)) 3 : Obj) = ob at *
  go_wp2_with fail
  with_reducible refine (C4.out).mono ?_
  rintro e w3 ⟨⟨A3, c3, rfl, ho3⟩, hb3⟩
  have HA3 := Lib.hid (HA1.out.below hb3 HA1.out.lt)
  have HB3 := Lib.hid (HB1.out.trans (hb3.mono HB1.out.size))
  have sA := HA1.out.lt
  have HT3 := Lib.hid ho3.ri
  clear ho3 hb3 hmk C4 HA1 HB1
  have hsl : w1.heap.size < (w1.alloc ob).heap.size := sA
  go_wp2
  go_loopw [22] (fun i wr => ∃ (k : Nat), k ≤ g.length ∧ i = .int .i64 k ∧ Arr wr w1.heap.size (Bs.latK g d k) ∧ RI wr (w1.alloc ob).heap.size w3.heap.size A3 TL ∧ Below w.heap.size w wr) (fun i _ => g.length - (intOf i).toNat)
  case atStart => exact ⟨0, Nat.zero_le _, rfl, HA3.out, HT3.out, HB3.out⟩
  case round =>
    clear HA3 HT3 HB3
    obtain ⟨k, hk, rfl, hA, hT, hb⟩ := hrel
    have htl := HTL.out
    by_cases hlt : k < g.length
    · obtain ⟨b, o, rfl, hbl, _, hc⟩ := hT.at_ (k := k) (by omega)
      have htb := HTB.out k hlt
      have hdb := HDB.out
      have hgi : TL[k] = Bs.gi TL k := (gi_at (by omega)).symm
      rw [hgi] at hc
      have hll := Bs.latK_len g d k
      have kc := hA.cell (i := k) (by omega)
      have kf := hA.frozen k
      have hs := hA.set_ k (d - Bs.gi TL k)
      rw [HSU.out k hlt] at hs
      have HS := Lib.hid hs
      have HT2 := Lib.hid (show RI (wr.setCell ⟨w1.heap.size, k, none⟩ (.int .i64 (d - Bs.gi TL k))) (w1.alloc ob).heap.size w3.heap.size _ TL from hT.keep (fun p hp _ => World.cell?_setCell_far _ _ _ _ (show (⟨w1.heap.size, k, none⟩ : Addr).block ≠ p.block from by show w1.heap.size ≠ p.block; omega)))
      have HB2 := Lib.hid (hb.setCell (p := ⟨w1.heap.size, k, none⟩) s1 (.int .i64 (d - Bs.gi TL k)))
      obtain ⟨t0, t1, _⟩ := htb
      generalize Bs.gi TL k = tk at *
      have hw : IntKind.i64.wrap (d - tk) = d - tk := IntWalk.i64_in _ ⟨by omega, by omega⟩
      have i0 : (0 : Int) ≤ (k : Int) := by omega
      have i1 : (k : Int) < (g.length : Int) := by omega
      have i2 : (k : Int) < (TL.length : Int) := by omega
      clear hs hA hT hb hll hgi htl
      go_wp2
      go_roundw
      case rel => exact ⟨k + 1, by omega, by go_num, HS.out, HT2.out, HB2.out⟩
      case measure => simp [intOf]; omega
    · obtain rfl : k = g.length := by omega
      have hO := hA.oi (B := w.heap.size) s1 (by rw [Bs.latK_len]; omega)
      rw [Bs.latK_len] at hO
      have HO := Lib.hid hO
      have HB := Lib.hid hb
      have hnl : ¬ ((g.length : Int) < (TL.length : Int)) := by omega
      clear hA hO hT hb htl HTL
      go_wp2
      go_ret
      rw [HV.out]
      exact ⟨⟨_, _, by rw [Bs.latK_len]; rfl, HO.out⟩, HB.out⟩
set_option maxHeartbeats 1600000 in
theorem LateTasks_any (A : Option Addr) (c : Nat) (g : List Bs.T) (A1 : Option Addr) (c1 : Nat) (m : List Int) (A2 : Option Addr) (c2 : Nat) (S : List Int) (wk d : Int) (lo hi l1 h1 l2 h2 : Nat) (w : World) (h : RG w lo hi A g) (hh : hi ≤ w.heap.size) (hm : RI w l1 h1 A1 m) (hh1 : h1 ≤ w.heap.size) (hs : RI w l2 h2 A2 S) (hh2 : h2 ≤ w.heap.size) (hl : g.length ≤ 9223372036854775807) (hml : m.length ≤ 9223372036854775807) (hsl : S.length ≤ 9223372036854775807) :
    Calls Try.prog 22 #[.slice A g.length c, .slice A1 m.length c1, .int .i64 wk, .slice A2 S.length c2, .int .i64 d] w (RetI w (Bs.lateL g m wk S d)) := by
  have q1 := ValidStarts_any A c g A1 c1 m A2 c2 S wk lo hi l1 h1 l2 h2 w h hh hm hh1 hs hh2 hl hml hsl
  have q2 := fun W => validDeadline_any d W
  cases hv : Bs.stV g m wk S
  · rw [hv] at q1
    have C1 := Lib.hid q1
    have HV := Lib.hid (Bs.lateL_no1 (d := d) hv)
    clear q1 q2 hv h hm hs
    go_enter Try.func22, Try.ntmps22
    go_wp2_with fail
    with_reducible refine (C1.out).mono ?_
    rintro e w1 ⟨rfl, hb⟩
    have HB := Lib.hid hb
    clear hb
    go_wp2
    go_ret
    exact RetI.nil HB.out HV.out
  rw [hv] at q1
  have C1 := Lib.hid q1
  cases hd : Bs.dlOk d
  · rw [hd] at q2
    have C2 := Lib.hid q2
    have HV := Lib.hid (Bs.lateL_no2 (g := g) (m := m) (wk := wk) (S := S) hd)
    clear q1 q2 hv h hm hs hd
    go_enter Try.func22, Try.ntmps22
    go_wp2_with fail
    with_reducible refine (C1.out).mono ?_
    rintro e w1 ⟨rfl, hb⟩
    have HB := Lib.hid hb
    clear hb
    go_wp2_with fail
    with_reducible refine (C2.out _).mono ?_
    rintro e w2 ⟨rfl, rfl⟩
    go_wp2
    go_ret
    exact RetI.nil HB.out HV.out
  rw [hd] at q2
  have C2 := Lib.hid q2
  obtain ⟨hcan, hck, _⟩ := Bs.stV_iff.1 hv
  have hval := (Bs.canV_iff.1 hcan).1
  have hF := valid_fine hval
  have h8 := Bs.fine_len hF
  have hSl := Bs.clk_len hck
  have htl := Bs.tailsC_len hval
  have q3 := fun W (hb : Below w.heap.size w W) => LatestStarts_any A c g d lo hi W (h.below hb hh) (Nat.le_trans hh hb.size) hl
  rw [Bs.latL_yes hval hd] at q3
  have C3 := Lib.hid q3
  have HLL := Lib.hid (show (Bs.latC g d).length = g.length from by rw [Bs.latC_len, htl])
  have HLA := Lib.hid (fun i (hi : i < g.length) => Bs.latC_at (g := g) (d := d) (i := i) (by omega))
  have HPE := Lib.hid (fun i => show Bs.lateP g S d i = decide (d - Bs.gi (Bs.tailsC g) i < Bs.giZ S i) from rfl)
  have HV := Lib.hid (Bs.lateL_yes hv hd)
  have HVC := Lib.hid (show Bs.lateC g S d = Bs.pick g.length (Bs.lateP g S d) from rfl)
  have HSL := Lib.hid hSl
  have HS := Lib.hid hs
  clear q1 q2 q3 hv hd h hm hs hcan hck hval hF hSl htl
  generalize Bs.latC g d = LC at *
  go_enter Try.func22, Try.ntmps22
  go_wp2_with fail
  with_reducible refine (C1.out).mono ?_
  rintro e w1 ⟨rfl, hb⟩
  have HB := Lib.hid hb
  have s1 := hb.size
  clear hb
  go_wp2_with fail
  with_reducible refine (C2.out _).mono ?_
  rintro e w2 ⟨rfl, rfl⟩
  have HB1 := Lib.hid (HB.out.alloc s1 (.cells #[] 3))
  have C4 := Lib.hid (C3.out (w1.alloc (.cells #[] 3)) HB1.out)
  have HZ1 := Lib.hid (OI.new w1 w.heap.size s1)
  clear C1 C2 C3 HB
  go_wp2_with fail
  with_reducible refine (C4.out).mono ?_
  rintro e w3 ⟨⟨A3, c3, rfl, ho3⟩, hb3⟩
  have HB3 := Lib.hid (HB1.out.trans (hb3.mono HB1.out.size))
  have HT3 := Lib.hid ho3.ri
  have HZ3 := Lib.hid (HZ1.out.below hb3 (Nat.le_refl _))
  have s3 := hb3.size
  have hw3 : w.heap.size ≤ w3.heap.size := Nat.le_trans HB1.out.size s3
  clear ho3 hb3 C4 HB1 HZ1
  generalize (w1.alloc (.cells #[] 3)).heap.size = B1 at *
  go_wp2
  go_loopw [11, 30] (fun vo i wr => ∃ (k : Nat) (A' : Option Addr) (c' : Nat) (q : List Int), k ≤ g.length ∧ vo = .slice A' q.length c' ∧ i = .int .i64 k ∧ q = Bs.pick k (Bs.lateP g S d) ∧ (q = [] → OI wr w.heap.size A' c' []) ∧ OZ wr w3.heap.size A' c' q ∧ RI wr B1 w3.heap.size A3 LC ∧ Below w.heap.size w wr ∧ w3.heap.size ≤ wr.heap.size) (fun _ i _ => g.length - (intOf i).toNat)
  case atStart => exact ⟨0, _, _, [], Nat.zero_le _, rfl, rfl, rfl, fun _ => HZ3.out, .inl ⟨rfl, rfl⟩, HT3.out, HB3.out, Nat.le_refl _⟩
  case round =>
    clear HT3 HB3 HZ3
    obtain ⟨k, A5, c5, q, hk, rfl, rfl, hq, hz, hO, hT, hb, hs5⟩ := hrel
    have HZr := Lib.hid hz
    clear hz
    have hll := HLL.out
    by_cases hlt : k < g.length
    · have hsl2 := HSL.out
      obtain ⟨b4, o4, rfl, _, _, k4⟩ := hT.at_ (k := k) (by omega)
      obtain ⟨b5, o5, rfl, _, _, k5⟩ := (HS.out.below hb hh2).at_ (k := k) (by omega)
      rw [← Bs.giZ_at (by omega), HLA.out k hlt] at k4
      rw [← Bs.giZ_at (by omega)] at k5
      have hp := Bs.pick_succ k (Bs.lateP g S d)
      rw [← hq, HPE.out] at hp
      have hql : q.length ≤ k := by rw [hq]; exact Bs.pick_len _ _
      have HO := Lib.hid hO
      have HTr := Lib.hid hT
      have HBb := Lib.hid hb
      have HQL := Lib.hid hql
      have sr := hb.size
      have i0 : (0 : Int) ≤ (k : Int) := by omega
      have i1 : (k : Int) < (g.length : Int) := by omega
      have i2 : (k : Int) < (LC.length : Int) := by omega
      have i3 : (k : Int) < (S.length : Int) := by omega
      clear hq hO hT hb hql hll hsl2 HLA HPE
      generalize d - Bs.gi (Bs.tailsC g) k = x at *
      generalize Bs.giZ S k = y at *
      by_cases hxy : x < y
      · have d1 : decide (x < y) = true := decide_eq_true hxy
        have d2 : decide (y > x) = true := decide_eq_true hxy
        rw [d1] at hp
        simp only [if_true] at hp
        have HP := Lib.hid hp.symm
        have HO2 := Lib.hid (HO.out.alloc (.cells #[.int .i64 (k : Int)] 3))
        have HBb2 := Lib.hid (HBb.out.alloc sr (.cells #[.int .i64 (k : Int)] 3))
        clear hp hxy
        go_wp2_with (first
          | (at_builtin; refine push_z rfl _ _ rfl w3.heap.size A5 c5 q (k : Int) rfl HO2.out wr.heap.size 1 rfl (by simp [go_sem]) (by have := HQL.out; omega) (by simp; omega) ?_; intro A6 c6 w6 ho6 hb6; have HO6 := Lib.hid ho6; have HBb6 := Lib.hid (HBb2.out.trans (hb6.mono hw3)); have HT6 := Lib.hid ((HTr.out.below ((Below.refl w3.heap.size wr).alloc hs5 (.cells #[.int .i64 (k : Int)] 3)) (Nat.le_refl _)).below hb6 (Nat.le_refl _)); have s6 := hb6.size; rw [World.size_alloc] at s6; clear ho6 hb6))
        go_roundw
        case rel => exact ⟨k + 1, A6, c6, q ++ [(k : Int)], by omega, by rw [List.length_append]; rfl, by go_num, HP.out, fun e => by simp at e, .inr HO6.out, HT6.out, HBb6.out, by omega⟩
        case measure => simp [intOf]; omega
      · have d1 : decide (x < y) = false := decide_eq_false hxy
        have d2 : decide (y > x) = false := decide_eq_false hxy
        rw [d1] at hp
        simp only [Bool.false_eq_true, if_false] at hp
        have HP := Lib.hid hp.symm
        clear hp hxy
        go_wp2
        go_roundw
        case rel => exact ⟨k + 1, A5, c5, q, by omega, rfl, by go_num, HP.out, HZr.out, HO.out, HTr.out, HBb.out, hs5⟩
        case measure => simp [intOf]; omega
    · obtain rfl : k = g.length := by omega
      have HQE := Lib.hid (hq.trans HVC.out.symm)
      have HO := Lib.hid (show OI wr w.heap.size A5 c5 q from by
        rcases hO with ⟨e, _⟩ | h
        · have := HZr.out e; rw [e]; exact this
        · exact h.base hw3)
      have HB := Lib.hid hb
      have hnl : ¬ ((g.length : Int) < (LC.length : Int)) := by omega
      clear hO hT hb hq hll HLL
      go_wp2
      go_ret
      rw [HV.out, ← HQE.out]
      exact ⟨⟨A5, c5, rfl, HO.out⟩, HB.out⟩
end Go.Proofs.Ythbajjkggfgogaa
