/-
  WALKS: stages of the program: the stage of each task.
-/
import Derived.Test.YtoaakidapgbhhaaMath132
import Derived.Test.YtoaakidapgbhhaaW131
import Derived.Test.YtoaakidapgbhhaaK8
import Derived.Deep.RegionHeld
namespace Go.Proofs.Ytoaakidapgbhhaa
open Go.RowKit
/-- blocks from lo up to hi are as they were -/
def Same (lo hi : Nat) (w w' : World) : Prop := ∀ p : Addr, lo ≤ p.block → p.block < hi → w'.cell? p = w.cell? p
theorem Same.set {lo hi : Nat} {w w' : World} (h : Same lo hi w w') {b : Nat} (hb : b < lo) (k : Nat) (u : Value) : Same lo hi w (w'.setCell ⟨b, k, none⟩ u) := fun p h1 h2 => (World.cell?_setCell_far _ _ _ _ (show (⟨b, k, none⟩ : Addr).block ≠ p.block from by show b ≠ p.block; omega)).trans (h p h1 h2)
set_option maxHeartbeats 1600000 in
theorem StageOf_any (A : Option Addr) (c : Nat) (g : List Bs.T) (lo hi : Nat) (w : World) (h : RG w lo hi A g) (hh : hi ≤ w.heap.size) (hl : g.length ≤ 9223372036854775807) :
    Calls Try.prog 15 #[.slice A g.length c] w (RetI w (if Bs.valid g then Bs.levC g else [])) := by
  have q1 := ValidGraph_any A c g lo hi w h hh hl
  cases hv : Bs.valid g
  · rw [hv] at q1
    have C1 := Lib.hid q1
    clear q1 hv h
    go_enter Try.func15, Try.ntmps15
    go_wp2_with fail
    with_reducible refine (C1.out).mono ?_
    rintro e w1 ⟨rfl, hb⟩
    have HB := Lib.hid hb
    clear hb
    go_wp2
    go_ret
    exact RetI.nil HB.out rfl
  rw [hv] at q1
  have C1 := Lib.hid q1
  have h8 := Bs.fine_len (valid_fine hv)
  obtain ⟨k, hkg, hne, hke, hL⟩ := Bs.stg_end hv
  have q3 := fun W (hb : Below w.heap.size w W) => StagesOf_any A c g lo hi W (h.below hb hh) (Nat.le_trans hh hb.size) hl
  rw [hL] at q3
  have C3 := Lib.hid q3
  have HZ := Lib.hid (Bs.stA_zero hv)
  have HALL := Lib.hid (Bs.stA_all hv hke)
  have HNX := Lib.hid (fun s => Bs.stA_next g s)
  have HSET := Lib.hid (fun (s p : Nat) (hp : p < (Bs.stgS g s).length) => show ∃ i : Nat, (Bs.stgS g s)[p] = (i : Int) ∧ i < g.length ∧ (Bs.stA g s ((Bs.stgS g s).take p)).set i (s : Int) = Bs.stA g s ((Bs.stgS g s).take (p + 1)) from by
    have hm : (Bs.stgS g s)[p] ∈ Bs.stgS g s := List.getElem_mem hp
    have hm2 := hm
    unfold Bs.stgS at hm2
    obtain ⟨i, hi, _, e⟩ := (Bs.mem_pick _ _ _).1 hm2
    have e' : (Bs.stgS g s)[p] = (i : Int) := e
    refine ⟨i, e', hi, ?_⟩
    rw [Bs.stA_set (by rw [← e']; exact hm), List.take_add_one, List.getElem?_eq_getElem hp, e']
    rfl)
  have HSL := Lib.hid (fun (s : Nat) => show (Bs.stgS g s).length ≤ 8 from Nat.le_trans (Bs.pick_len _ _) h8)
  have HMK := Lib.hid (fun u => make_ints g.length (by omega) u)
  clear q1 q3 hv h hne hke hL
  rw [if_pos rfl]
  go_enter Try.func15, Try.ntmps15
  go_wp2_with fail
  with_reducible refine (C1.out).mono ?_
  rintro e w1 ⟨rfl, hb⟩
  have HB := Lib.hid hb
  have s1 := hb.size
  clear hb
  have hmk := HMK.out w1
  have HA1 := Lib.hid (show Arr (w1.alloc (.cells (intsA (List.replicate g.length 0)) 3)) w1.heap.size (Bs.stA g 0 []) from by rw [HZ.out]; exact Blk.new _ 3 _)
  have HB1 := Lib.hid (HB.out.alloc s1 (.cells (intsA (List.replicate g.length 0)) 3))
  clear HB HMK C1 HZ
  have C4 := Lib.hid (C3.out (w1.alloc (.cells (intsA (List.replicate g.length 0)) 3)) HB1.out)
  clear C3
  generalize (.cells (intsA (List.replicate g.length 0)) 3 : Obj) = ob at *
  go_wp2_with fail
  with_reducible refine (C4.out).mono ?_
  rintro e w3 ⟨⟨A3, c3, vs, rfl, hO, hS⟩, hb3⟩
  have HA3 := Lib.hid (HA1.out.below hb3 HA1.out.lt)
  have HB3 := Lib.hid (HB1.out.trans (hb3.mono HB1.out.size))
  have sA := HA1.out.lt
  have hvk : vs.length = k := by rw [hS.1]; simp [Bs.stgK]
  have HROW := Lib.hid (fun (s : Nat) (hs : s < k) => show ∃ b N cN, A3 = some ⟨b, 0, none⟩ ∧ (w1.alloc ob).heap.size ≤ b ∧ b < w3.heap.size ∧ w3.cell? ⟨b, s, none⟩ = some (.slice N (Bs.stgS g s).length cN) ∧ RI w3 (w1.alloc ob).heap.size w3.heap.size N (Bs.stgS g s) from by
    obtain ⟨b, e1, b1, b2, b3⟩ := hO.at_ (k := s) (by omega)
    obtain ⟨N, cN, n1, n2⟩ := hS.2 s (by simp [Bs.stgK]; omega)
    have hg : (Bs.stgK g k)[s]'(by simp [Bs.stgK]; omega) = Bs.stgS g s := by simp [Bs.stgK]
    rw [hg] at n1 n2
    rw [List.getElem?_eq_getElem (by omega), Option.some.injEq] at n1
    rw [n1] at b3
    exact ⟨b, N, cN, e1, b1, b2, b3, n2.ri⟩)
  clear hb3 hmk C4 HA1 HB1 hO hS
  have hsl : w1.heap.size < (w1.alloc ob).heap.size := sA
  go_wp2
  go_loopw [17] (fun i wr => ∃ (s : Nat), s ≤ k ∧ i = .int .i64 s ∧ Arr wr w1.heap.size (Bs.stA g s []) ∧ Same (w1.alloc ob).heap.size w3.heap.size w3 wr ∧ Below w.heap.size w wr) (fun i _ => k - (intOf i).toNat)
  case atStart => exact ⟨0, Nat.zero_le _, rfl, HA3.out, fun _ _ _ => rfl, HB3.out⟩
  case round =>
    clear HA3 HB3
    obtain ⟨s, hs, rfl, hA, hT, hb⟩ := hrel
    by_cases hlt : s < k
    · obtain ⟨b, N, cN, rfl, b1, b2, b3, hN⟩ := HROW.out s hlt
      have hc := (hT ⟨b, s, none⟩ b1 b2).trans b3
      have i0 : (0 : Int) ≤ (s : Int) := by omega
      have i1 : (s : Int) < (k : Int) := by omega
      have hsl8 := HSL.out s
      have HSs := Lib.hid (HSET.out s)
      have HN := Lib.hid hN
      have HA0 := Lib.hid (show Arr wr w1.heap.size (Bs.stA g s ((Bs.stgS g s).take 0)) from hA)
      have HT0 := Lib.hid hT
      have HB0 := Lib.hid hb
      have HNs := Lib.hid (show Bs.stA g s ((Bs.stgS g s).take (Bs.stgS g s).length) = Bs.stA g (s + 1) [] from by rw [List.take_length]; exact HNX.out s)
      clear hA hT hb hN b3 HSET HROW HNX HSL HALL
      generalize hP : Bs.stgS g s = P at *
      clear hP
      go_wp2
      go_loopw [24] (fun j wr2 => ∃ (p : Nat), p ≤ P.length ∧ j = .int .i64 p ∧ Arr wr2 w1.heap.size (Bs.stA g s (P.take p)) ∧ Same (w1.alloc ob).heap.size w3.heap.size w3 wr2 ∧ Below w.heap.size w wr2) (fun j _ => P.length - (intOf j).toNat)
      case atStart => exact ⟨0, Nat.zero_le _, rfl, HA0.out, HT0.out, HB0.out⟩
      case round =>
        clear HA0 HT0 HB0 hc
        obtain ⟨p, hp, rfl, hA, hT, hb⟩ := hrel
        by_cases hpl : p < P.length
        · obtain ⟨n, o, rfl, n1, n2, n3⟩ := HN.out.at_ (k := p) hpl
          have n4 := (hT ⟨n, o + p, none⟩ n1 n2).trans n3
          obtain ⟨i, e, hi, hset⟩ := HSs.out p hpl
          rw [e] at n4
          have kc := hA.cell (i := i) (by rw [Bs.stA_len]; exact hi)
          have kf := hA.frozen i
          have hA2 := hA.set_ i (s : Int)
          rw [hset] at hA2
          have HA2 := Lib.hid hA2
          have HT2 := Lib.hid (hT.set sA i (.int .i64 (s : Int)))
          have HB2 := Lib.hid (hb.setCell (p := ⟨w1.heap.size, i, none⟩) s1 (.int .i64 (s : Int)))
          have j0 : (0 : Int) ≤ (p : Int) := by omega
          have j1 : (p : Int) < (P.length : Int) := by omega
          have j2 : (0 : Int) ≤ (i : Int) := by omega
          have j3 : (i : Int) < (g.length : Int) := by omega
          clear hA hT hb n3 e hset hA2
          go_wp2
          go_roundw
          case rel => exact ⟨p + 1, by omega, by go_num, HA2.out, HT2.out, HB2.out⟩
          case measure => simp [intOf]; omega
        · obtain rfl : p = P.length := by omega
          rw [HNs.out] at hA
          have HA2 := Lib.hid hA
          have HT2 := Lib.hid hT
          have HB2 := Lib.hid hb
          clear hA hT hb
          go_wp2
          go_roundw
          case rel => exact ⟨s + 1, by omega, by go_num, HA2.out, HT2.out, HB2.out⟩
          case measure => simp [intOf]; omega
    · obtain rfl : s = k := by omega
      rw [HALL.out] at hA
      have HA := Lib.hid hA
      have HB := Lib.hid hb
      have hlen : (Bs.levC g).length = g.length := by have := congrArg List.length HALL.out; rw [Bs.stA_len] at this; exact this.symm
      have HO := Lib.hid (show OI wr w.heap.size (some ⟨w1.heap.size, 0, none⟩) g.length (Bs.levC g) from by
        have := hA.oi (B := w.heap.size) s1 (by omega)
        rwa [hlen] at this)
      clear hA hb hT
      go_wp2
      go_ret
      exact ⟨⟨some ⟨w1.heap.size, 0, none⟩, g.length, show Ending.returned (.slice (some ⟨w1.heap.size, 0, none⟩) g.length g.length) = .returned (.slice (some ⟨w1.heap.size, 0, none⟩) (Bs.levC g).length g.length) from by rw [hlen], HO.out⟩, HB.out⟩
end Go.Proofs.Ytoaakidapgbhhaa
