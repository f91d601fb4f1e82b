/-
  WALKS: the draws of chapter 13; answers as they are read.
-/
import Derived.Test.YtoaakidapgbhhaaK21
import Derived.Test.YtoaakidapgbhhaaW133
import Derived.Test.YtoaakidapgbhhaaW135
import Derived.Test.YtoaakidapgbhhaaR92
import Derived.Test.YtoaakidapgbhhaaR94
import Derived.Test.YtoaakidapgbhhaaMath136
import Derived.Test.YtoaakidapgbhhaaL1
namespace Go.Proofs.Ytoaakidapgbhhaa
open Go.RowKit
theorem DrawStageOf_any (A : Option Addr) (c : Nat) (l : List Int) (w : World) (hb : RB w 0 w.heap.size A l) (hl : l.length ≤ c) (hc : c ≤ maxLen) :
    Calls Try.prog 14 #[.slice A l.length c] w (DrawG w) := by
  have C1 := Lib.hid (newReader_any A c l w hb hl hc)
  clear hb
  go_enter Try.func14, Try.ntmps14
  go_wp2_with fail
  refine (C1.out).mono ?_
  rintro e w1 ⟨rb, rfl, hs1, hf1⟩
  have C2 := Lib.hid (anyGraph_any w.heap.size rb 0 w1 hs1 (by omega))
  have HF := Lib.hid hf1
  clear hs1 hf1 C1
  go_wp2_with fail
  refine (C2.out).mono ?_
  rintro e w2 hG
  have hD := hG.draw HF.out
  obtain ⟨⟨A2, c2, g, rfl, hg⟩, hb2⟩ := hD
  have HG := Lib.hid hg
  have HB := Lib.hid hb2
  clear hg hb2 hG
  go_wp2
  go_ret
  exact ⟨⟨A2, c2, g, rfl, HG.out⟩, HB.out⟩
theorem DrawStagesOf_any (A : Option Addr) (c : Nat) (l : List Int) (w : World) (hb : RB w 0 w.heap.size A l) (hl : l.length ≤ c) (hc : c ≤ maxLen) :
    Calls Try.prog 18 #[.slice A l.length c] w (DrawG w) := by
  have C1 := Lib.hid (newReader_any A c l w hb hl hc)
  clear hb
  go_enter Try.func18, Try.ntmps18
  go_wp2_with fail
  refine (C1.out).mono ?_
  rintro e w1 ⟨rb, rfl, hs1, hf1⟩
  have C2 := Lib.hid (anyGraph_any w.heap.size rb 0 w1 hs1 (by omega))
  have HF := Lib.hid hf1
  clear hs1 hf1 C1
  go_wp2_with fail
  refine (C2.out).mono ?_
  rintro e w2 hG
  have hD := hG.draw HF.out
  obtain ⟨⟨A2, c2, g, rfl, hg⟩, hb2⟩ := hD
  have HG := Lib.hid hg
  have HB := Lib.hid hb2
  clear hg hb2 hG
  go_wp2
  go_ret
  exact ⟨⟨A2, c2, g, rfl, HG.out⟩, HB.out⟩
theorem DrawUselessNeeds_any (A : Option Addr) (c : Nat) (l : List Int) (w : World) (hb : RB w 0 w.heap.size A l) (hl : l.length ≤ c) (hc : c ≤ maxLen) :
    Calls Try.prog 24 #[.slice A l.length c] w (DrawG w) := by
  have C1 := Lib.hid (newReader_any A c l w hb hl hc)
  clear hb
  go_enter Try.func24, Try.ntmps24
  go_wp2_with fail
  refine (C1.out).mono ?_
  rintro e w1 ⟨rb, rfl, hs1, hf1⟩
  have C2 := Lib.hid (anyGraph_any w.heap.size rb 0 w1 hs1 (by omega))
  have HF := Lib.hid hf1
  clear hs1 hf1 C1
  go_wp2_with fail
  refine (C2.out).mono ?_
  rintro e w2 hG
  have hD := hG.draw HF.out
  obtain ⟨⟨A2, c2, g, rfl, hg⟩, hb2⟩ := hD
  have HG := Lib.hid hg
  have HB := Lib.hid hb2
  clear hg hb2 hG
  go_wp2
  go_ret
  exact ⟨⟨A2, c2, g, rfl, HG.out⟩, HB.out⟩
theorem DrawWithoutUseless_any (A : Option Addr) (c : Nat) (l : List Int) (w : World) (hb : RB w 0 w.heap.size A l) (hl : l.length ≤ c) (hc : c ≤ maxLen) :
    Calls Try.prog 28 #[.slice A l.length c] w (DrawG w) := by
  have C1 := Lib.hid (newReader_any A c l w hb hl hc)
  clear hb
  go_enter Try.func28, Try.ntmps28
  go_wp2_with fail
  refine (C1.out).mono ?_
  rintro e w1 ⟨rb, rfl, hs1, hf1⟩
  have C2 := Lib.hid (anyGraph_any w.heap.size rb 0 w1 hs1 (by omega))
  have HF := Lib.hid hf1
  clear hs1 hf1 C1
  go_wp2_with fail
  refine (C2.out).mono ?_
  rintro e w2 hG
  have hD := hG.draw HF.out
  obtain ⟨⟨A2, c2, g, rfl, hg⟩, hb2⟩ := hD
  have HG := Lib.hid hg
  have HB := Lib.hid hb2
  clear hg hb2 hG
  go_wp2
  go_ret
  exact ⟨⟨A2, c2, g, rfl, HG.out⟩, HB.out⟩
theorem RetI.ri2 {w w' : World} {L : List Int} {e : Ending} (h : RetI w L e w') : ∃ A c, e = .returned (.slice A L.length c) ∧ RI w' w.heap.size w'.heap.size A L ∧ Below w.heap.size w w' := by
  obtain ⟨A, c, h1, h2, h3, _⟩ := h.ri
  exact ⟨A, c, h1, h2, h3⟩
theorem Bs.stages_len (g : List Bs.T) : (Bs.stgL g).length ≤ 8 := by
  cases hv : Bs.valid g
  · rw [Bs.stgL_no hv]; simp
  · obtain ⟨k, hk, _, _, hL⟩ := Bs.stg_end hv
    have h8 := Bs.fine_len (valid_fine hv)
    rw [hL]
    simp [Bs.stgK]
    omega
theorem Bs.wuL_len (g : List Bs.T) : (Bs.wuL g).length ≤ 8 := by
  cases hv : Bs.valid g
  · rw [Bs.wuL_no hv]; simp
  · have h8 := Bs.fine_len (valid_fine hv)
    rw [Bs.wuL_yes hv, Bs.wuG_len]
    exact h8
end Go.Proofs.Ytoaakidapgbhhaa
