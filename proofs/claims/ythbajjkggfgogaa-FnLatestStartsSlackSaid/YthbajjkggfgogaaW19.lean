/-
  WALKS: slack times.
-/
import Derived.Test.YthbajjkggfgogaaK8
import Derived.Test.YthbajjkggfgogaaW15
import Derived.Deep.RegionWith
namespace Go.Proofs.Ythbajjkggfgogaa
open Go.RowKit
def slackC (g : List Bs.T) : List Int := (List.range g.length).map fun i => longC g - Bs.gi (Bs.headsC g) i - Bs.gi (Bs.tailsC g) i
def slackL (g : List Bs.T) : List Int := if Bs.valid g then slackC g else []
theorem slackL_no {g : List Bs.T} (h : Bs.valid g = false) : slackL g = [] := by unfold slackL; rw [h]; rfl
theorem slackL_yes {g : List Bs.T} (h : Bs.valid g = true) : slackL g = slackC g := by unfold slackL; rw [h]; rfl
theorem SlackTimes_len (g : List Bs.T) : (slackL g).length ≤ 1000 := by
  unfold slackL
  split
  · rename_i h
    have h1 := Bs.fine_len (valid_fine h)
    simp [slackC]
    omega
  · simp
/-- what is known of heads, tails and the longest time -/
theorem bounds_of {g : List Bs.T} (hf : Bs.valid g = true) : (Bs.headsC g).length = g.length ∧ (Bs.tailsC g).length = g.length ∧ 0 ≤ longC g ∧ longC g ≤ 160 ∧ ∀ i, i < g.length → 0 ≤ Bs.gi (Bs.headsC g) i ∧ Bs.gi (Bs.headsC g) i ≤ 160 ∧ 0 ≤ Bs.gi (Bs.tailsC g) i ∧ Bs.gi (Bs.tailsC g) i ≤ 160 := by
  have h8 := Bs.fine_len (valid_fine hf)
  have ht := (Bs.top_dist g).le
  have h1 := Bs.headsK_mid (valid_fine hf) _ (Nat.le_refl _)
  have h2 := Bs.tailsC_spec (valid_fine hf) (valid_full hf)
  have h3 : ∀ i, i < g.length → 0 ≤ Bs.gi (Bs.tailsC g) i ∧ Bs.gi (Bs.tailsC g) i ≤ 160 := by
    intro i hi
    have a := h2.lo i hi
    have b := h2.hi i hi
    omega
  refine ⟨h1.len, h2.len, Bs.maxL_nonneg _, Bs.maxL_le (by omega) ?_, ?_⟩
  · intro y hy
    obtain ⟨i, hi, rfl⟩ := List.mem_iff_getElem.1 hy
    have := h3 i (by rw [← h2.len]; exact hi)
    unfold Bs.gi at this
    rw [List.getD_eq_getElem?_getD, List.getElem?_eq_getElem hi] at this
    exact this.2
  · intro i hi
    have a := h1.lo i hi
    have b := h1.hi i hi
    have e : Bs.headsC g = Bs.headsK g (Bs.top g).length := rfl
    rw [e]
    have := h3 i hi
    omega
theorem RI.gi {w : World} {lo hi : Nat} {A : Option Addr} {l : List Int} (h : RI w lo hi A l) {k : Nat} (hk : k < l.length) : ∃ b o, A = some ⟨b, o, none⟩ ∧ lo ≤ b ∧ b < hi ∧ w.cell? ⟨b, o + k, none⟩ = some (.int .i64 (Bs.gi l k)) := by
  obtain ⟨b, o, e, h1, h2, hc⟩ := h k hk
  refine ⟨b, o, e, h1, h2, ?_⟩
  rw [hc]
  unfold Bs.gi
  rw [List.getD_eq_getElem?_getD, List.getElem?_eq_getElem hk]
  rfl
def slackTo (L : Int) (h t : List Int) (n k : Nat) : List Int := (List.range n).map fun i => if i < k then L - Bs.gi h i - Bs.gi t i else 0
theorem slackTo_zero (L : Int) (h t : List Int) (n : Nat) : slackTo L h t n 0 = List.replicate n 0 := by
  refine List.ext_getElem (by simp [slackTo]) ?_
  intro i h1 h2
  simp [slackTo]
theorem slackTo_full (L : Int) (h t : List Int) (n : Nat) : slackTo L h t n n = (List.range n).map fun i => L - Bs.gi h i - Bs.gi t i := by
  refine List.ext_getElem (by simp [slackTo]) ?_
  intro i h1 h2
  simp [slackTo] at h1 ⊢
  intro h3
  omega
theorem slackTo_set (L : Int) (h t : List Int) (n k : Nat) : (slackTo L h t n k).set k (L - Bs.gi h k - Bs.gi t k) = slackTo L h t n (k + 1) := by
  refine List.ext_getElem (by simp [slackTo]) ?_
  intro i h1 h2
  rw [List.getElem_set]
  simp only [slackTo, List.getElem_map, List.getElem_range]
  by_cases e : k = i
  · subst e
    rw [if_pos rfl, if_pos (by omega)]
  · rw [if_neg e]
    by_cases e2 : i < k
    · rw [if_pos e2, if_pos (by omega)]
    · rw [if_neg e2, if_neg (by omega)]
theorem slackTo_len (L : Int) (h t : List Int) (n k : Nat) : (slackTo L h t n k).length = n := by simp [slackTo]
set_option maxRecDepth 40000 in
set_option maxHeartbeats 1600000 in
theorem SlackTimes_any (A : Option Addr) (c : Nat) (g : List Bs.T) (lo hi : Nat) (w : World) (hG : RG w lo hi A g) (hh : hi ≤ w.heap.size) (hl : g.length ≤ 9223372036854775807) :
    Calls Try.prog 19 #[.slice A g.length c] w (RetI w (slackL g)) := by
  have c1 := ValidGraph_any A c g lo hi w hG hh hl
  cases hf : Bs.valid g
  · rw [hf] at c1
    have C1 := Lib.hid c1
    have HV := Lib.hid (slackL_no hf)
    clear c1 hf
    go_enter Try.func19, Try.ntmps19
    go_wp2_with (go_at_call 34; refine (C1.out).mono ?_; rintro e w' ⟨rfl, hb⟩)
    go_ret
    exact RetI.nil hb HV.out
  · rw [hf] at c1
    have C1 := Lib.hid c1
    have c2 := fun W (hb : Below w.heap.size w W) => HeadTimes_any A c g lo hi W (hG.below hb hh) (Nat.le_trans hh hb.size) hl
    have c3 := fun W (hb : Below w.heap.size w W) => TailTimes_any A c g lo hi W (hG.below hb hh) (Nat.le_trans hh hb.size) hl
    have c4 := fun W (hb : Below w.heap.size w W) => LongestTime_any A c g lo hi W (hG.below hb hh) (Nat.le_trans hh hb.size) hl
    simp only [hf, if_true] at c2 c3
    simp only [longL_yes hf] at c4
    have C2 := Lib.hid c2
    have C3 := Lib.hid c3
    have C4 := Lib.hid c4
    have HV := Lib.hid ((slackL_yes hf).trans (show slackC g = (List.range g.length).map fun i => longC g - Bs.gi (Bs.headsC g) i - Bs.gi (Bs.tailsC g) i from rfl))
    obtain ⟨hhl, htl, hL0, hL1, hbd⟩ := bounds_of hf
    have h8 := Bs.fine_len (valid_fine hf)
    have HBD := Lib.hid hbd
    have hhl := Nat.le_of_eq hhl.symm
    have htl := Nat.le_of_eq htl.symm
    have hmk := make_ints g.length (by omega)
    clear c1 hf c2 c3 c4 hbd
    generalize Bs.tailsC g = t at *
    generalize Bs.headsC g = hd at *
    generalize longC g = L at *
    go_enter Try.func19, Try.ntmps19
    go_wp2_with fail
    refine (C1.out).mono ?_; rintro e w1 ⟨rfl, hb1⟩
    go_wp2_with fail
    refine (C2.out _ hb1).mono ?_; rintro e w2 ⟨⟨A2, c2, rfl, ho2⟩, hb2⟩
    have hb02 := hb1.trans (hb2.mono hb1.size)
    go_wp2_with fail
    refine (C3.out _ hb02).mono ?_; rintro e w3 ⟨⟨A3, c3, rfl, ho3⟩, hb3⟩
    have hb03 := hb02.trans (hb3.mono hb02.size)
    have q2 := ho2.ri.below hb3 (Nat.le_refl _)
    have s3 := hb3.size
    clear ho2
    have q3 := ho3.ri
    clear ho3
    go_wp2_with fail
    refine (C4.out _ hb03).mono ?_; rintro e w4 ⟨rfl, hb4⟩
    have hb04 := hb03.trans (hb4.mono hb03.size)
    have s4 := hb4.size
    have s04 := hb04.size
    have B4 : Arr (w4.alloc (.cells (intsA (List.replicate g.length 0)) 3)) w4.heap.size (slackTo L hd t g.length 0) := by rw [slackTo_zero]; exact Blk.new w4 3 _
    have hb5 : Below w4.heap.size w4 (w4.alloc (.cells (intsA (List.replicate g.length 0)) 3)) := (Below.refl _ _).alloc (Nat.le_refl _) _
    generalize (.cells (intsA (List.replicate g.length 0)) 3 : Obj) = ob at *
    have q2 := (q2.below hb4 s3).below hb5 (by omega)
    have q3 := (q3.below hb4 (Nat.le_refl _)).below hb5 s4
    have B4 := Lib.hid B4
    go_wp2
    go_loopw [22] (fun i wr => ∃ k : Nat, k ≤ g.length ∧ i = .int .i64 k ∧ Arr wr w4.heap.size (slackTo L hd t g.length k) ∧ Below w4.heap.size (w4.alloc ob) wr) (fun i _ => g.length - (intOf i).toNat)
    case atStart => exact ⟨0, Nat.zero_le _, rfl, B4.out, Below.refl _ _⟩
    case round =>
      obtain ⟨k, hk, rfl, hB, hb⟩ := hrel
      by_cases hlt : k < g.length
      · obtain ⟨b, o, rfl, _, _, hc⟩ := ((q2.below hb (by omega)).gi (k := k) (by omega))
        obtain ⟨b', o', rfl, _, _, hc'⟩ := ((q3.below hb (by omega)).gi (k := k) (by omega))
        obtain ⟨u1, u2, u3, u4⟩ := HBD.out k hlt
        have hcell := hB.cell (i := k) (by rw [slackTo_len]; exact hlt)
        have hfz := hB.frozen k
        have HB2 := Lib.hid (by have := hB.set_ k (L - Bs.gi hd k - Bs.gi t k); rw [slackTo_set L hd t g.length k] at this; exact this)
        clear hB
        generalize Bs.gi hd k = x at *
        generalize Bs.gi t k = y at *
        go_wp2
        go_still_tail 14, (by kernel_rfl)
        go_wp2
        go_roundw
        case rel => exact ⟨k + 1, by omega, by go_num, HB2.out, (hb.setCell (Nat.le_refl _) _).drew⟩
        case measure => simp [intOf]; omega
      · obtain rfl : k = g.length := by omega
        have hb5' := hb5.trans hb
        go_wp2
        go_ret
        rw [HV.out]
        rw [slackTo_full] at hB
        refine ⟨⟨some ⟨w4.heap.size, 0, none⟩, g.length, by simp, ?_⟩, hb04.trans (hb5'.mono s04)⟩
        have := hB.oi s04 (by simp; omega)
        simp only [List.length_map, List.length_range] at this
        exact this
end Go.Proofs.Ythbajjkggfgogaa
