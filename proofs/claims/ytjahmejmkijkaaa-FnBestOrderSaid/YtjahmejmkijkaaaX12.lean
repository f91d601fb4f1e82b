/-
  WALKS: the draws of best orders.
-/
import Derived.Test.YtjahmejmkijkaaaK17
import Derived.Test.YtjahmejmkijkaaaX9
namespace Go.Proofs.Ytjahmejmkijkaaa
open Go.RowKit
theorem DrawBestOrder_any (A : Option Addr) (c : Nat) (l : List Int) (w : World) (hb : RB w 0 w.heap.size A l) (hl : l.length ≤ c) (hc : c ≤ maxLen) :
    Calls Try.prog 10 #[.slice A l.length c] w (DrawGLN w) := by
  have C1 := Lib.hid (newReader_any A c l w hb hl hc)
  clear hb
  go_enter Try.func10, Try.ntmps10
  go_wp2_with fail
  refine (C1.out).mono ?_
  rintro e w1 ⟨rb, rfl, hs1, hf1⟩
  have hrlo := hs1.rd.1
  have C2 := Lib.hid (smallGraph_any w.heap.size rb 0 w1 hs1 (by omega))
  have HF := Lib.hid hf1
  clear hs1 hf1 C1
  go_wp2_with fail
  refine (C2.out).mono ?_
  rintro e w2 hG
  obtain ⟨A2, c2, g, rfl, hg, hg16, hgc, hcm, hrd, hf2⟩ := hG.open_
  have hrb := hrd.lt
  have s2 := hf2.1.size
  have HG := Lib.hid hg
  have HF2 := Lib.hid (HF.out.1.trans hf2.1)
  have HRD := Lib.hid hrd
  have s0 := HF2.out.size
  clear hG hg hrd hf2 C2
  have C3 := Lib.hid (someRoomX w.heap.size rb _ w2 HRD.out (by omega))
  go_wp2_with fail
  refine (C3.out).mono ?_
  rintro e w3 ⟨⟨A3, c3, l3, rfl, hl3, hlc3, hcm3, hlm3⟩, hs3, hf3⟩
  have s3 := hf3.size
  have C4 := Lib.hid (someWorkersX w.heap.size rb _ w3 hs3 (by omega))
  have HF3 := Lib.hid hf3
  have HL3 := Lib.hid hl3
  clear hl3 hs3 hf3 C3 HRD
  go_wp2_with fail
  refine (C4.out).mono ?_
  rintro e w4 ⟨⟨x, rfl⟩, hs4, hf4⟩
  have s4 := hf4.size
  have hf24 := HF3.out.trans hf4
  have HG4 := Lib.hid ((HG.out.fx hf24 (Nat.le_refl _)).rg.more (hi' := w4.heap.size) (Nat.le_refl _) (by omega))
  have HL3' := Lib.hid ((HL3.out.fx hf4 hrb (Nat.le_refl _)).more s0 s4)
  have HB4 := Lib.hid (HF2.out.trans (hf24.below hrlo hrb))
  clear hs4 hf4 C4 hf24
  go_wp2
  go_ret3
  exact ⟨⟨A2, c2, g, A3, c3, l3, x, rfl, HG4.out, hg16, hgc, hcm, HL3'.out, by omega, hlc3, hcm3⟩, HB4.out⟩
theorem DrawBestTime_any (A : Option Addr) (c : Nat) (l : List Int) (w : World) (hb : RB w 0 w.heap.size A l) (hl : l.length ≤ c) (hc : c ≤ maxLen) :
    Calls Try.prog 17 #[.slice A l.length c] w (DrawGLN w) := by
  have C1 := Lib.hid (DrawBestOrder_any A c l w hb hl hc)
  clear hb
  go_enter Try.func17, Try.ntmps17
  go_wp2_with fail
  refine (C1.out).mono ?_
  rintro e w1 ⟨⟨A2, c2, g, A3, c3, l3, x, rfl, h1⟩, h2⟩
  have H1 := Lib.hid h1
  have H2 := Lib.hid h2
  clear h1 h2
  go_wp2
  go_ret3
  exact ⟨⟨A2, c2, g, A3, c3, l3, x, rfl, H1.out⟩, H2.out⟩
end Go.Proofs.Ytjahmejmkijkaaa
