/-
  WALKS: the draw of HeadTimes.
-/
import Derived.Test.YtgpmnfnliifegaaK21
namespace Go.Proofs.Ytgpmnfnliifegaa
open Go.RowKit
theorem DrawHeadTimes_any (A : Option Addr) (c : Nat) (l : List Int) (w : World) (hb : RB w 0 w.heap.size A l) (hl : l.length ≤ c) (hc : c ≤ maxLen) :
    Calls Try.prog 26 #[.slice A l.length c] w (DrawG w) := by
  have C1 := Lib.hid (newReader_any A c l w hb hl hc)
  clear hb
  go_enter Try.func26, Try.ntmps26
  go_wp2_with fail
  refine (C1.out).mono ?_
  rintro e w1 ⟨rb, rfl, hs1, hf1⟩
  have C2 := Lib.hid (anyGraph_any w.heap.size rb 0 w1 hs1 (by omega))
  have HF := Lib.hid hf1
  clear hs1 hf1 C1
  go_wp2_with fail
  refine (C2.out).mono ?_
  rintro e w2 hG
  have hD := hG.draw HF.out
  obtain ⟨⟨A2, c2, g, rfl, hg⟩, hb2⟩ := hD
  have HG := Lib.hid hg
  have HB := Lib.hid hb2
  clear hg hb2 hG
  go_wp2
  go_ret
  exact ⟨⟨A2, c2, g, rfl, HG.out⟩, HB.out⟩
end Go.Proofs.Ytgpmnfnliifegaa
