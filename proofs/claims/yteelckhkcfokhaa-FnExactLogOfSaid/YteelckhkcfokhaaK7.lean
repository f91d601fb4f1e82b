/-
  MERGED TEXTS: W30 W31 W32 W33.
-/
import Derived.Test.YteelckhkcfokhaaK8
import Derived.Test.YteelckhkcfokhaaK11
import Derived.Test.YteelckhkcfokhaaK4
import Derived.Test.YteelckhkcfokhaaK2
import Derived.Test.YteelckhkcfokhaaK5
namespace Go.Proofs.Yteelckhkcfokhaa
open Go.RowKit
set_option maxHeartbeats 1600000 in
theorem openNeeds_any (A : Option Addr) (c : Nat) (g : List Bs.T) (d : List Int) (lo hi : Nat) (w : World) (hG : RG w lo hi A g) (hh : hi ≤ w.heap.size) (hF : Bs.fine g = true) (hd : ∀ x ∈ d, 0 ≤ x ∧ x < 8) :
    Calls Try.prog 96 #[.slice A g.length c, .int .u64 (Bs.bits d : Nat)] w (RetI w (Bs.openC g d)) := by
  have h8 := Bs.fine_len hF
  have hd8 := Bs.bits_lt d hd
  have hD := fun i => Bs.bits_test d (fun x hx => (hd x hx).1) i
  have hmk := make_ints g.length (by omega) w
  have B1 : Arr (w.alloc (.cells (intsA (List.replicate g.length 0)) 3)) w.heap.size (Bs.openA g d 0 0) := by rw [Bs.openA_start]; exact Blk.new w 3 _
  have hb1 : Below w.heap.size w (w.alloc (.cells (intsA (List.replicate g.length 0)) 3)) := (Below.refl _ _).alloc (Nat.le_refl _) _
  have HT := Lib.hid hD
  have HF := Lib.hid hF
  generalize (.cells (intsA (List.replicate g.length 0)) 3 : Obj) = ob at *
  generalize Bs.bits d = D at *
  have HB1 := Lib.hid hb1
  have HA1 := Lib.hid B1
  clear hD hF hd hb1 B1
  go_enter Try.func96, Try.ntmps96
  go_wp2
  go_loopw [15] (fun i wr => ∃ k : Nat, k ≤ g.length ∧ i = .int .i64 k ∧ Arr wr w.heap.size (Bs.openA g d k 0) ∧ Below w.heap.size w wr) (fun i _ => g.length - (intOf i).toNat)
  case atStart => exact ⟨0, Nat.zero_le _, rfl, HA1.out, HB1.out⟩
  case round =>
    clear hmk
    obtain ⟨k, hk, rfl, hB, hb⟩ := hrel
    have sr := hb.size
    have sb := hB.lt
    by_cases hlt : k < g.length
    · obtain ⟨b, o, N, cN, rfl, h1, h2, q0, q1, q2, q3, hlN, hcN, hN⟩ := (hG.below hb hh) k hlt
      have HN := Lib.hid (fun w' (hb' : Below w.heap.size w w') => ((hG.below hb' hh) k hlt))
      have hne := Bs.need_eq hlt
      have HNE := Lib.hid hne
      have HN8 := Lib.hid (fun x hx => Bs.need_eight HF.out hlt x hx)
      have HNX := Lib.hid (Bs.openA_next g d k)
      have hsl := Bs.openA_len g d k
      have HB := Lib.hid hB
      have HBL := Lib.hid hb
      have HRN := Lib.hid (fun w' (hb' : Below wr.heap.size wr w') => hN.below hb' (Nat.le_trans hh sr))
      clear hne hB hb hN
      go_wp2
      go_loopw [23] (fun j wr2 => ∃ p : Nat, p ≤ g[k].needs.length ∧ j = .int .i64 p ∧ Arr wr2 w.heap.size (Bs.openA g d k p) ∧ Below w.heap.size w wr2 ∧ RI wr2 lo hi N g[k].needs) (fun j _ => g[k].needs.length - (intOf j).toNat)
      case atStart => exact ⟨0, Nat.zero_le _, rfl, HB.out.below (Below.alloc (Below.refl _ _) (Nat.le_refl _) _) sb, HBL.out.alloc sr _, HRN.out _ (Below.alloc (Below.refl _ _) (Nat.le_refl _) _)⟩
      case round =>
        obtain ⟨p, hp, rfl, hB, hb, hq⟩ := hrel
        have s2 := hb.size
        by_cases hlt2 : p < g[k].needs.length
        · obtain ⟨b3, o3, rfl, hb3, hb3', hc3⟩ := hq.at_ hlt2
          have hx8 := HN8.out _ (List.getElem_mem hlt2)
          have hpl : p < (Bs.need g k).length := by rw [HNE.out]; exact hlt2
          have he : (Bs.need g k)[p] = g[k].needs[p] := by simp only [HNE.out]
          have hyes := Bs.openA_yes (d := d) hpl
          have hno := Bs.openA_no (d := d) hlt hpl
          have hat := Bs.openA_at (d := d) (p := p) hlt
          have hsm := Bs.missC_small HF.out d p (Nat.le_of_lt hpl)
          have hsl := Bs.openA_len g d k p
          rw [he] at hyes hno
          obtain ⟨x, hx⟩ : ∃ x : Nat, g[k].needs[p] = (x : Int) := ⟨g[k].needs[p].toNat, by omega⟩
          rw [hx] at hc3 hx8 hyes hno
          have c1 := fun w' => hasTask_any D x w' hd8 (by omega)
          rw [HT.out x] at c1
          have e2 := hB.cell (i := k) (by omega)
          rw [hat] at e2
          have hfz := hB.frozen k
          have HB2 := Lib.hid (fun y => hB.set_ k y)
          have HB1 := Lib.hid hB
          have HQ := Lib.hid (fun u => hq.set_far (p := ⟨w.heap.size, k, none⟩) (.inr hh) u)
          have HQ0 := Lib.hid hq
          clear hat hx he hB hq
          generalize Bs.openA g d k p = L at *
          generalize Bs.missC g d k p = m at *
          cases hv : d.contains (x : Int)
          · rw [hv] at c1
            have HNO := Lib.hid (hno hv)
            have C1 := Lib.hid c1
            clear c1 hv hyes hno
            go_wp2_with (go_at_call 97; refine (C1.out _).mono ?_; rintro e w' ⟨rfl, rfl⟩)
            go_roundw
            case rel => exact ⟨p + 1, by omega, by go_num, by rw [HNO.out]; exact HB2.out _, hb.setCell (by show _ ≤ w.heap.size; omega) _, HQ.out _⟩
            case measure => simp [intOf]; omega
          · rw [hv] at c1
            have HY := Lib.hid (hyes hv)
            have C1 := Lib.hid c1
            clear c1 hv hyes hno
            go_wp2_with (go_at_call 97; refine (C1.out _).mono ?_; rintro e w' ⟨rfl, rfl⟩)
            go_roundw
            case rel => exact ⟨p + 1, by omega, by go_num, by rw [HY.out]; exact HB1.out, hb, HQ0.out⟩
            case measure => simp [intOf]; omega
        · obtain rfl : p = g[k].needs.length := by omega
          have hnx := HNX.out
          rw [HNE.out] at hnx
          rw [hnx] at hB
          go_wp2
          go_roundw
          case rel => exact ⟨k + 1, by omega, by go_num, hB, hb⟩
          case measure => simp [intOf]; omega
    · obtain rfl : k = g.length := by omega
      go_wp2
      go_ret
      have hsl := Bs.openC_len g d
      refine ⟨⟨some ⟨w.heap.size, 0, none⟩, g.length, ?_, ?_⟩, hb⟩
      · rw [hsl]
        rfl
      · have := hB.oi (Nat.le_refl _) (by rw [Bs.openA_len]; omega)
        rw [Bs.openA_len] at this
        exact this
end Go.Proofs.Yteelckhkcfokhaa
namespace Go.Proofs.Yteelckhkcfokhaa
open Go.RowKit
theorem inG_eight {g : List Bs.T} {d : List Int} (hF : Bs.fine g = true) (h : Bs.inG g d = true) : ∀ x ∈ d, 0 ≤ x ∧ x < 8 := by
  intro x hx
  have h1 := Bs.inG_mem h x hx
  have h2 := Bs.fine_len hF
  omega
theorem asc_flip (g : List Bs.T) (d : List Int) : (Bs.allInB d 0 ((g.length : Int) - 1) && Bs.asc d) = Bs.inG g d := by
  unfold Bs.inG
  exact Bool.and_comm _ _
theorem vdone_no {g : List Bs.T} {d : List Int} (h : Bs.inG g d = false) : Bs.vdone g d = false := by
  cases hv : Bs.vdone g d
  · rfl
  · rw [(Bs.vdone_iff.1 hv).2.1] at h; exact h
end Go.Proofs.Yteelckhkcfokhaa
namespace Go.Proofs.Yteelckhkcfokhaa
open Go.RowKit
theorem missC_dec (g : List Bs.T) (d : List Int) (k : Nat) : Bs.okNext g d k = (((Bs.missC g d k (Bs.need g k).length : Int) == 0) && !d.contains (k : Int)) := by
  rw [Bs.missC_all]
  unfold Bs.okNext
  exact Bool.and_comm _ _
end Go.Proofs.Yteelckhkcfokhaa
namespace Go.Proofs.Yteelckhkcfokhaa
open Go.RowKit
theorem pick_less {m n : Nat} (p : Nat → Bool) (h : n ≤ m) (hp : ∀ i, n ≤ i → i < m → p i = false) : Bs.pick m p = Bs.pick n p := by
  induction m with
  | zero =>
    have : n = 0 := by omega
    rw [this]
  | succ m ih =>
    by_cases e : n = m + 1
    · rw [e]
    · rw [Bs.pick_skip m p (hp m (by omega) (by omega)), ih (by omega) (fun i h1 h2 => hp i h1 (by omega))]
theorem fin_bits {g : List Bs.T} {d : List Int} {a : Nat} (hF : Bs.fine g = true) (hin : Bs.inG g d = true) (ha : a < g.length) :
    Bs.pick 8 (fun j => (Bs.bits d ||| Bs.bits [(a : Int)]).testBit j) = Bs.finC g d a := by
  have h8 := Bs.fine_len hF
  have hm := Bs.inG_mem hin
  have e : ∀ j : Nat, (Bs.bits d ||| Bs.bits [(a : Int)]).testBit j = (((j : Int) == (a : Int)) || d.contains (j : Int)) := by
    intro j
    rw [Nat.testBit_or, Bs.bits_test d (fun x hx => (hm x hx).1), Bs.bits_test [(a : Int)] (fun x hx => by simp at hx; omega), Bool.or_comm, List.contains_cons, List.contains_nil, Bool.or_false]
  rw [pick_less (n := g.length) _ h8 ?_]
  · exact Bs.pick_congr _ _ _ (fun i _ => e i)
  · intro i h1 _
    rw [e i]
    have h2 : ((i : Int) == (a : Int)) = false := by rw [beq_eq_false_iff_ne]; omega
    rw [h2, Bool.false_or]
    cases hc : d.contains (i : Int)
    · rfl
    · have := hm _ (by simpa using hc)
      omega
theorem finOk_eq (g : List Bs.T) (d : List Int) (a : Int) : Bs.finOk g d a = (Bs.readyL g d).contains a := by
  unfold Bs.finOk Bs.readyL
  cases Bs.vdone g d <;> simp
theorem readyL_len' (g : List Bs.T) (d : List Int) : (Bs.readyL g d).length ≤ g.length := by
  unfold Bs.readyL
  split
  · exact Bs.readyC_len g d
  · exact Nat.zero_le _
theorem wait_bits {g : List Bs.T} {d : List Int} {a : Nat} (hF : Bs.fine g = true) (hin : Bs.inG g d = true) (ha : a < g.length) :
    Bs.pick 8 (fun j => (Bs.bits g[a].needs &&& (18446744073709551615 - Bs.bits d)).testBit j) = Bs.waitsC g d a := by
  have hn := Bs.fine_inG hF ha
  have h8 := inG_eight hF hn
  have hd8 := inG_eight hF hin
  have hA : Bs.asc g[a].needs = true := by unfold Bs.inG at hn; rw [Bool.and_eq_true] at hn; exact hn.1
  unfold Bs.waitsC
  rw [Int.toNat_natCast, Bs.need_eq ha]
  refine Bs.pick_filter hA h8 ?_
  intro j
  rw [Bs.minus_test _ _ (Bs.bits_lt _ h8) (Bs.bits_lt _ hd8), Bs.bits_test _ (fun x hx => (h8 x hx).1), Bs.bits_test _ (fun x hx => (hd8 x hx).1)]
end Go.Proofs.Yteelckhkcfokhaa
