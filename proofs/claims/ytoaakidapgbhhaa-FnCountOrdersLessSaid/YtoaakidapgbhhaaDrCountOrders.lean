/-
  WALKS: the draw of CountOrders.
-/
import Derived.Test.YtoaakidapgbhhaaK21
import Derived.Test.YtoaakidapgbhhaaK22
namespace Go.Proofs.Ytoaakidapgbhhaa
open Go.RowKit
theorem GrR.wide {lo rb P P' m m' : Nat} {w w1 w2 : World} {e : Ending} (h : GrR lo rb P m w1 e w2) (hp : P ≤ P') (hm : m ≤ m') (hf : Fwd lo w w1) : GrR lo rb P' m' w e w2 := by
  obtain ⟨⟨v, n, hn, he, hs⟩, hst, hfw⟩ := h
  exact ⟨⟨v, n, by omega, he, hs⟩, hst.more hp, hf.trans hfw⟩
theorem smallGraph_any (lo rb P : Nat) (w : World) (hs : St lo rb P w) (hP : P ≤ 600000) :
    Calls Try.prog 55 #[.pointer (some ⟨rb, 0, none⟩)] w (GrR lo rb (P + 1001) 16 w) := by
  have C1 := Lib.hid (pick_any 10 lo rb P w hs (by omega) (by omega))
  clear hs
  go_enter Try.func55, Try.ntmps55
  go_wp2_with fail
  refine (C1.out).mono ?_
  rintro e w1 ⟨⟨k, rfl, hk, _⟩, hs1, hf1, _⟩
  have C2 := Lib.hid (anyGraph_any lo rb (P + 1) w1 hs1 (by omega))
  have C3 := Lib.hid (someGraph_any 5 lo rb (P + 1) w1 hs1 (by omega) (by omega))
  have HF := Lib.hid hf1
  clear hs1 hf1 C1 hk
  by_cases hk0 : k = 0
  · subst hk0
    go_wp2_with fail
    refine (C2.out).mono ?_
    rintro e w2 hG
    have hG2 := hG.wide (P' := P + 1001) (m' := 16) (by omega) (by omega) HF.out
    obtain ⟨⟨v, n, hn, rfl, hs⟩, hst, hfw⟩ := hG2
    clear hG
    go_wp2
    go_ret
    exact ⟨⟨v, n, hn, rfl, hs⟩, hst, hfw⟩
  · have d1 : ((k : Int) == 0) = false := by rw [beq_eq_false_iff_ne]; omega
    have d2 : (k == 0) = false := by rw [beq_eq_false_iff_ne]; omega
    clear hk0
    go_wp2_with fail
    refine (C3.out).mono ?_
    rintro e w2 hG
    have hG2 := hG.wide (P' := P + 1001) (m' := 16) (by omega) (by omega) HF.out
    obtain ⟨⟨v, n, hn, rfl, hs⟩, hst, hfw⟩ := hG2
    clear hG
    go_wp2
    go_ret
    exact ⟨⟨v, n, hn, rfl, hs⟩, hst, hfw⟩
theorem DrawCountOrders_any (A : Option Addr) (c : Nat) (l : List Int) (w : World) (hb : RB w 0 w.heap.size A l) (hl : l.length ≤ c) (hc : c ≤ maxLen) :
    Calls Try.prog 35 #[.slice A l.length c] w (DrawG w) := by
  have C1 := Lib.hid (newReader_any A c l w hb hl hc)
  clear hb
  go_enter Try.func35, Try.ntmps35
  go_wp2_with fail
  refine (C1.out).mono ?_
  rintro e w1 ⟨rb, rfl, hs1, hf1⟩
  have C2 := Lib.hid (smallGraph_any w.heap.size rb 0 w1 hs1 (by omega))
  have HF := Lib.hid hf1
  clear hs1 hf1 C1
  go_wp2_with fail
  refine (C2.out).mono ?_
  rintro e w2 hG
  obtain ⟨A2, c2, g, rfl, hg, hg16, hgc, hcm, hrd, hf2⟩ := hG.open_
  have hs0 := HF.out.1.size
  have HG := Lib.hid (hg.rg)
  have HB := Lib.hid (HF.out.1.trans hf2.1)
  clear hg hG hrd hf2
  go_wp2
  go_ret
  exact ⟨⟨A2, c2, g, rfl, HG.out, hg16, hgc, hcm⟩, HB.out⟩
end Go.Proofs.Ytoaakidapgbhhaa
