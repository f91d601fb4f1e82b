/-
  WALKS: stages of the model: levels.
-/
import Derived.Test.YtoaakidapgbhhaaMath130
import Derived.Test.YtoaakidapgbhhaaW15
namespace Go.Proofs.Ytoaakidapgbhhaa
open Go.RowKit
/-- the levels of the first k tasks of the order -/
def lvK (g : List Bs.T) (k : Nat) : List Int := Bs.headsK (Bs.unitG g) k
def lvA (g : List Bs.T) (h : List Int) (a p : Nat) : Int := Bs.headAt (Bs.unitG g) h a p
theorem lvK_mid {g : List Bs.T} (hF : Bs.fine g = true) {k : Nat} (hk : k ≤ (Bs.top g).length) : Bs.HeadMid (Bs.unitG g) k (lvK g k) := Bs.headsK_mid (Bs.fine_unit hF) k (by rw [Bs.top_unit]; exact hk)
theorem lvK_all (g : List Bs.T) : lvK g (Bs.top g).length = Bs.levC g := by
  have e := Bs.top_unit g
  unfold lvK Bs.levC Bs.headsC
  rw [e]
theorem lvK_step {g : List Bs.T} (hF : Bs.fine g = true) {k : Nat} (hlt : k < (Bs.top g).length) : ∃ v : Nat, (Bs.top g)[k] = (v : Int) ∧ v < g.length ∧ lvK g (k + 1) = (lvK g k).set v (lvA g (lvK g k) v (Bs.need g v).length) ∧ Bs.gi (lvK g k) v = 0 ∧ ∀ x ∈ Bs.need g v, x.toNat ≠ v := by
  have hlt' : k < (Bs.top (Bs.unitG g)).length := by rw [Bs.top_unit]; exact hlt
  have he : (Bs.top (Bs.unitG g))[k] = (Bs.top g)[k] := by simp only [Bs.top_unit]
  have hr := Bs.top_range hlt
  have hn := Bs.HeadMid.notSelf hlt
  have hs := Bs.headsK_succ (Bs.unitG g) k hlt'
  unfold Bs.headStep at hs
  have hnot := Bs.top_take_not hlt'
  have hnew := (lvK_mid hF (Nat.le_of_lt hlt)).new (Bs.top g)[k].toNat (by rw [Bs.unit_len]; omega) (by rw [show (((Bs.top g)[k].toNat : Nat) : Int) = (Bs.top g)[k] from by omega, ← he]; exact hnot)
  rw [he, Bs.need_unit] at hs
  exact ⟨(Bs.top g)[k].toNat, by omega, by omega, hs, hnew, hn⟩
theorem lvA_succ {g : List Bs.T} (hF : Bs.fine g = true) (h : List Int) (a p : Nat) (hp : p < (Bs.need g a).length) : lvA g h a (p + 1) = max (lvA g h a p) (Bs.gi h (Bs.need g a)[p].toNat + 1) := by
  have e := Bs.need_unit g a
  have h1 := Bs.headAt_succ (Bs.unitG g) h a p (by rw [e]; exact hp)
  simp only [e] at h1
  have hx := Bs.fine_need hF (List.getElem_mem hp)
  rw [Bs.time_unit (show (Bs.need g a)[p].toNat < g.length from by omega)] at h1
  exact h1
theorem lvA_zero (g : List Bs.T) (h : List Int) (a : Nat) : lvA g h a 0 = 0 := rfl
set_option maxRecDepth 40000 in
set_option maxHeartbeats 3200000 in
theorem levelsS_any (A : Option Addr) (c : Nat) (g : List Bs.T) (lo hi : Nat) (w : World) (hG : RG w lo hi A g) (hh : hi ≤ w.heap.size) (hF : Bs.fine g = true) :
    Calls Try.prog 41 #[.slice A g.length c] w (RetI w (Bs.levC g)) := by
  have h8 := Bs.fine_len hF
  have hb1a : Below w.heap.size w (w.alloc (.cells (intsA (List.replicate g.length 0)) 3)) := (Below.refl _ _).alloc (Nat.le_refl _) _
  have B1 : Arr (w.alloc (.cells (intsA (List.replicate g.length 0)) 3)) w.heap.size (lvK g 0) := by
    rw [show lvK g 0 = List.replicate g.length 0 from by unfold lvK; rw [Bs.headsK_zero, Bs.unit_len]]
    exact Blk.new w 3 _
  have C2 := Lib.hid (fun W (hb : Below w.heap.size w W) => topOrder_ret A c g lo hi W (hG.below hb hh) (Nat.le_trans hh hb.size) h8)
  have HF := Lib.hid hF
  have hdl := (Bs.top_dist g).le
  have hmk := make_ints g.length (by omega)
  clear hF
  generalize (.cells (intsA (List.replicate g.length 0)) 3 : Obj) = ob at *
  go_enter Try.func41, Try.ntmps41
  go_wp2_with fail
  refine (C2.out _ hb1a).mono ?_; rintro e w2 ⟨⟨A2, c2, rfl, ho2⟩, hb2⟩
  have s2 := hb2.size
  simp only [World.size_alloc] at s2
  have hb02 := hb1a.trans (hb2.mono hb1a.size)
  have q2 := ho2.ri
  simp only [World.size_alloc] at q2
  have B2 := Lib.hid (B1.below hb2 (by simp))
  clear ho2 B1 hmk
  go_wp2
  go_loopw [5] (fun i wr => ∃ k : Nat, k ≤ (Bs.top g).length ∧ i = .int .i64 k ∧ Arr wr w.heap.size (lvK g k) ∧ RI wr (w.heap.size + 1) w2.heap.size A2 (Bs.top g) ∧ w2.heap.size ≤ wr.heap.size ∧ Below w.heap.size w wr) (fun i _ => (Bs.top g).length - (intOf i).toNat)
  case atStart => exact ⟨0, Nat.zero_le _, rfl, B2.out, q2, Nat.le_refl _, hb02⟩
  case round =>
    obtain ⟨k, hk, rfl, hB, hq, hs2, hb⟩ := hrel
    have hm := lvK_mid HF.out hk
    have hsl := hm.len
    rw [Bs.unit_len] at hsl
    by_cases hlt : k < (Bs.top g).length
    · obtain ⟨b1, o1, rfl, _, _, hc1⟩ := hq.at_ hlt
      obtain ⟨v, hv, hvl, hst, hnew, hns⟩ := lvK_step HF.out hlt
      rw [hv] at hc1
      have HN := Lib.hid (Bs.need_eq hvl)
      have HST := Lib.hid hst
      have HNS := Lib.hid hns
      have HM := Lib.hid hm
      obtain ⟨b, o, N, cN, rfl, h1, h2, t0, t1, t2, t3, hlN, hcN, hN⟩ := hG v hvl
      have HL : Arr wr w.heap.size ((lvK g k).set v (lvA g (lvK g k) v 0)) := by
        rw [lvA_zero, Bs.set_same _ _ _ (by omega) hnew]
        exact hB
      have HLL := Lib.hid HL
      have HQ := Lib.hid hq
      have HBb := Lib.hid hb
      clear hv hst hns hm hB hnew HL hb hq t0 t2 t3
      go_wp2
      go_loopw [7] (fun j wr => ∃ p : Nat, p ≤ g[v].needs.length ∧ j = .int .i64 p ∧ Arr wr w.heap.size ((lvK g k).set v (lvA g (lvK g k) v p)) ∧ RI wr (w.heap.size + 1) w2.heap.size (some ⟨b1, o1, none⟩) (Bs.top g) ∧ w2.heap.size ≤ wr.heap.size ∧ Below w.heap.size w wr) (fun j _ => g[v].needs.length - (intOf j).toNat)
      case atStart => exact ⟨0, Nat.zero_le _, rfl, HLL.out, HQ.out, hs2, HBb.out⟩
      case round =>
        clear hc1 HLL HQ HBb hs2
        obtain ⟨p, hp, rfl, hB, hq, hs2, hb'⟩ := hrel
        have sr := hb'.size
        have t1' := (hb'.cell (p := ⟨b, o + v * 4 + 1, none⟩) (by show b < _; omega)).trans t1
        by_cases hlt2 : p < g[v].needs.length
        · obtain ⟨b3, o3, rfl, _, _, hc3⟩ := (hN.below hb' hh).at_ hlt2
          have hpl : p < (Bs.need g v).length := by rw [HN.out]; exact hlt2
          have hxl := Bs.fine_need HF.out (List.getElem_mem hpl)
          have hxv := HNS.out _ (List.getElem_mem hpl)
          have hJ := lvA_succ HF.out (lvK g k) v p hpl
          have he : (Bs.need g v)[p] = g[v].needs[p] := by simp only [HN.out]
          rw [he] at hxl hxv hJ
          obtain ⟨x, hx⟩ : ∃ x : Nat, g[v].needs[p] = (x : Int) := ⟨g[v].needs[p].toNat, by omega⟩
          rw [hx] at hc3 hxl hxv hJ
          rw [Int.toNat_natCast] at hJ hxv
          have hxg : x < g.length := by omega
          have hlen : ((lvK g k).set v (lvA g (lvK g k) v p)).length = g.length := by rw [List.length_set]; exact hsl
          have e1 := hB.cell (i := x) (by omega)
          have e2 := hB.cell (i := v) (by omega)
          rw [Bs.gi_set _ _ _ _ (by omega), if_neg hxv] at e1
          rw [Bs.gi_set _ _ _ _ (by omega), if_pos rfl] at e2
          have hfz := hB.frozen v
          have g0 := HM.out.lo x (by rw [Bs.unit_len]; exact hxg)
          have g1 := HM.out.hi x (by rw [Bs.unit_len]; exact hxg)
          have f0 := Bs.headAt_nonneg (Bs.unitG g) (lvK g k) v p
          have f1 := Bs.headAt_le (Bs.fine_unit HF.out) HM.out v p
          have HB2 := Lib.hid (fun y => by have := hB.set_ v y; rw [Bs.set_set_] at this; exact this)
          have HJ := Lib.hid hJ
          have HQ := Lib.hid hq
          change 0 ≤ lvA g (lvK g k) v p at f0
          change lvA g (lvK g k) v p ≤ _ at f1
          clear hx he hJ hxl hxv hlen hB hq
          generalize hhK : lvK g k = hk0 at *
          generalize hA0 : lvA g hk0 v p = a0 at *
          generalize hG0 : Bs.gi hk0 x = g0v at *
          have HX := Lib.hid (And.intro hhK (And.intro hA0 hG0))
          clear hhK hA0 hG0
          go_wp2
          go_still_tail 20, (by kernel_rfl)
          go_wp2
          go_roundw
          case rel =>
            have hmax : (if a0 < g0v + 1 then g0v + 1 else a0) = max a0 (g0v + 1) := by split <;> omega
            rw [hmax]
            refine ⟨p + 1, by omega, by go_num, ?_, ?_, ?_, ?_⟩
            · rw [HJ.out]; exact HB2.out _
            · exact HQ.out.set_far (.inl (by simp)) _
            · simpa using hs2
            · exact (hb'.setCell (Nat.le_refl _) _).drew
          case measure => simp [intOf]; omega
        · obtain rfl : p = g[v].needs.length := by omega
          have hst := HST.out
          rw [HN.out] at hst
          rw [← hst] at hB
          have HB3 := Lib.hid hB
          have HQ := Lib.hid hq
          clear hB hq hst
          go_wp2
          go_roundw
          case rel => exact ⟨k + 1, by omega, by go_num, HB3.out, HQ.out, by omega, hb'⟩
          case measure => simp [intOf]; omega
    · obtain rfl : k = (Bs.top g).length := by omega
      rw [lvK_all] at hB hsl
      go_wp2
      go_ret
      refine ⟨⟨some ⟨w.heap.size, 0, none⟩, g.length, ?_, ?_⟩, hb⟩
      · show _ = Ending.returned (.slice _ (Bs.levC g).length _)
        rw [hsl]
        rfl
      · have := hB.oi (Nat.le_refl _) (by omega)
        rw [hsl] at this
        exact this
end Go.Proofs.Ytoaakidapgbhhaa
