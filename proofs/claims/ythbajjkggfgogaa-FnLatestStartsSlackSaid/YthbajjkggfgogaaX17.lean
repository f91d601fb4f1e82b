/-
  DRAWS of the laws of deadlines.
-/
import Derived.Test.YthbajjkggfgogaaK17
namespace Go.Proofs.Ythbajjkggfgogaa
open Go.RowKit
theorem one9 (a0 a1 a2 a3 a4 a5 a6 a7 a8 : Int) : ∀ k, k < 9 → ∃ x, (#[Value.int .i64 a0, .int .i64 a1, .int .i64 a2, .int .i64 a3, .int .i64 a4, .int .i64 a5, .int .i64 a6, .int .i64 a7, .int .i64 a8] : Array Value)[k]? = some (.int .i64 x) := by
  intro k hk
  match k, hk with
  | 0, _ => exact ⟨_, rfl⟩
  | 1, _ => exact ⟨_, rfl⟩
  | 2, _ => exact ⟨_, rfl⟩
  | 3, _ => exact ⟨_, rfl⟩
  | 4, _ => exact ⟨_, rfl⟩
  | 5, _ => exact ⟨_, rfl⟩
  | 6, _ => exact ⟨_, rfl⟩
  | 7, _ => exact ⟨_, rfl⟩
  | 8, _ => exact ⟨_, rfl⟩
theorem someDeadlineX (lo rb P : Nat) (w : World) (hs : RD w lo rb P) (hP : P ≤ 900000) :
    Calls Try.prog 39 #[.pointer (some ⟨rb, 0, none⟩)] w (OneX lo rb P w) := by
  have C1 := Lib.hid (one_newX #[.int .i64 10, .int .i64 20, .int .i64 0, .int .i64 5, .int .i64 40, .int .i64 200, .int .i64 201, .int .i64 (-1), .int .i64 15] 9 lo rb P w hs (by omega) (one9 _ _ _ _ _ _ _ _ _) (by omega) (by omega) rfl)
  clear hs
  go_enter Try.func39, Try.ntmps39
  go_wp2_with fail
  refine (C1.out).mono ?_
  rintro e w1 ⟨⟨x, rfl⟩, hs1, hf1⟩
  go_wp2
  go_ret
  exact ⟨⟨x, rfl⟩, hs1, hf1⟩
/-- a graph and a number -/
def DrawGND (w : World) (e : Ending) (w' : World) : Prop := (∃ A c g x, e = .returned (.tuple #[.slice A (List.length g) c, .int .i64 x]) ∧ RG w' w.heap.size w'.heap.size A g ∧ g.length ≤ 16 ∧ g.length ≤ c ∧ c ≤ maxLen) ∧ Below w.heap.size w w'
theorem DrawLatestStarts_any (A : Option Addr) (c : Nat) (l : List Int) (w : World) (hb : RB w 0 w.heap.size A l) (hl : l.length ≤ c) (hc : c ≤ maxLen) :
    Calls Try.prog 14 #[.slice A l.length c] w (DrawGND w) := by
  have C1 := Lib.hid (newReader_any A c l w hb hl hc)
  clear hb
  go_enter Try.func14, Try.ntmps14
  go_wp2_with fail
  refine (C1.out).mono ?_
  rintro e w1 ⟨rb, rfl, hs1, hf1⟩
  have hrlo := hs1.rd.1
  have C2 := Lib.hid (anyGraph_any w.heap.size rb 0 w1 hs1 (by omega))
  have HF := Lib.hid hf1
  clear hs1 hf1 C1
  go_wp2_with fail
  refine (C2.out).mono ?_
  rintro e w2 hG
  obtain ⟨A2, c2, g, rfl, hg, hg16, hgc, hcm, hrd, hf2⟩ := hG.open_
  have hrb := hrd.lt
  have s2 := hf2.1.size
  have HG := Lib.hid hg
  have HF2 := Lib.hid (HF.out.1.trans hf2.1)
  have HRD := Lib.hid hrd
  have s0 := HF2.out.size
  clear hG hg hrd hf2 C2
  have C4 := Lib.hid (someDeadlineX w.heap.size rb _ w2 HRD.out (by omega))
  clear HRD
  go_wp2_with fail
  refine (C4.out).mono ?_
  rintro e w4 ⟨⟨x, rfl⟩, hs4, hf4⟩
  have s4 := hf4.size
  have HG4 := Lib.hid ((HG.out.fx hf4 (Nat.le_refl _)).rg.more (hi' := w4.heap.size) (Nat.le_refl _) (by omega))
  have HB4 := Lib.hid (HF2.out.trans (hf4.below hrlo hrb))
  clear hs4 hf4 C4
  go_wp2
  go_ret2
  exact ⟨⟨A2, c2, g, x, rfl, HG4.out, hg16, hgc, hcm⟩, HB4.out⟩
theorem DrawWorkersFor_any (A : Option Addr) (c : Nat) (l : List Int) (w : World) (hb : RB w 0 w.heap.size A l) (hl : l.length ≤ c) (hc : c ≤ maxLen) :
    Calls Try.prog 30 #[.slice A l.length c] w (DrawGLN w) := by
  have C1 := Lib.hid (newReader_any A c l w hb hl hc)
  clear hb
  go_enter Try.func30, Try.ntmps30
  go_wp2_with fail
  refine (C1.out).mono ?_
  rintro e w1 ⟨rb, rfl, hs1, hf1⟩
  have hrlo := hs1.rd.1
  have C2 := Lib.hid (anyGraph_any w.heap.size rb 0 w1 hs1 (by omega))
  have HF := Lib.hid hf1
  clear hs1 hf1 C1
  go_wp2_with fail
  refine (C2.out).mono ?_
  rintro e w2 hG
  obtain ⟨A2, c2, g, rfl, hg, hg16, hgc, hcm, hrd, hf2⟩ := hG.open_
  have hrb := hrd.lt
  have s2 := hf2.1.size
  have HG := Lib.hid hg
  have HF2 := Lib.hid (HF.out.1.trans hf2.1)
  have HRD := Lib.hid hrd
  have s0 := HF2.out.size
  clear hG hg hrd hf2 C2
  have C3 := Lib.hid (someRoomX w.heap.size rb _ w2 HRD.out (by omega))
  go_wp2_with fail
  refine (C3.out).mono ?_
  rintro e w3 ⟨⟨A3, c3, l3, rfl, hl3, hlc3, hcm3, hlm3⟩, hs3, hf3⟩
  have s3 := hf3.size
  have C4 := Lib.hid (someDeadlineX w.heap.size rb _ w3 hs3 (by omega))
  have HF3 := Lib.hid hf3
  have HL3 := Lib.hid hl3
  clear hl3 hs3 hf3 C3 HRD
  go_wp2_with fail
  refine (C4.out).mono ?_
  rintro e w4 ⟨⟨x, rfl⟩, hs4, hf4⟩
  have s4 := hf4.size
  have hf24 := HF3.out.trans hf4
  have HG4 := Lib.hid ((HG.out.fx hf24 (Nat.le_refl _)).rg.more (hi' := w4.heap.size) (Nat.le_refl _) (by omega))
  have HL3' := Lib.hid ((HL3.out.fx hf4 hrb (Nat.le_refl _)).more s0 s4)
  have HB4 := Lib.hid (HF2.out.trans (hf24.below hrlo hrb))
  clear hs4 hf4 C4 hf24
  go_wp2
  go_ret3
  exact ⟨⟨A2, c2, g, A3, c3, l3, x, rfl, HG4.out, hg16, hgc, hcm, HL3'.out, by omega, hlc3, hcm3⟩, HB4.out⟩
theorem DrawLateTasks_any (A : Option Addr) (c : Nat) (l : List Int) (w : World) (hb : RB w 0 w.heap.size A l) (hl : l.length ≤ c) (hc : c ≤ maxLen) :
    Calls Try.prog 21 #[.slice A l.length c] w (DrawGLNLN w) := by
  have C1 := Lib.hid (newReader_any A c l w hb hl hc)
  have HRB := Lib.hid hb
  clear hb
  go_enter Try.func21, Try.ntmps21
  go_wp2_with fail
  refine (C1.out).mono ?_
  rintro e w1 ⟨rb, rfl, hs1, hf1⟩
  have hrd := hs1.rd
  have hrlo := hrd.1
  have hrb := hrd.lt
  have s1 := hf1.1.size
  have hRB0 : RB w1 0 w.heap.size A l := HRB.out.below hf1.1 (Nat.le_refl _)
  have hRB1 : RB w1 0 w1.heap.size A l := by
    intro k hk
    obtain ⟨b, o, e, h1, h2, hc⟩ := hRB0 k hk
    exact ⟨b, o, e, h1, by omega, hc⟩
  have C2 := Lib.hid (DrawValidStarts_any A c l w1 hRB1 hl hc)
  have HRD := Lib.hid hrd
  have HF1 := Lib.hid hf1.1
  clear hs1 hf1 hRB0 hRB1 hrd C1 HRB
  go_wp2_with fail
  with_reducible refine (C2.out).mono ?_
  rintro e w4 ⟨⟨A2, c2, g, A3, c3, m, x, A4, c4, S, rfl, hg, hg16, hgc, hcm, hm, hm100, hmc, hmm, hS, hS100, hSc, hSm⟩, hb4⟩
  have s4 := hb4.size
  have C3 := Lib.hid (someDeadlineX w.heap.size rb 0 w4 (HRD.out.after hb4) (by omega))
  have HG := Lib.hid hg
  have HM := Lib.hid hm
  have HS := Lib.hid hS
  have HB4 := Lib.hid (HF1.out.trans (hb4.mono s1))
  clear hg hm hS hb4 C2
  go_wp2_with fail
  refine (C3.out).mono ?_
  rintro e w5 ⟨⟨y, rfl⟩, hs5, hf5⟩
  have s5 := hf5.size
  have HG4 := Lib.hid ((HG.out.ne hf5 hrb (Nat.le_refl _)).more s1 s5)
  have HM4 := Lib.hid ((HM.out.fx hf5 hrb (Nat.le_refl _)).more s1 s5)
  have HS4 := Lib.hid ((HS.out.fx hf5 hrb (Nat.le_refl _)).more s1 s5)
  have HB5 := Lib.hid (HB4.out.trans (hf5.below hrlo (by omega)))
  clear hs5 hf5 C3 HG HM HS HB4 HRD HF1
  go_wp2
  go_ret5
  exact ⟨⟨A2, c2, g, A3, c3, m, x, A4, c4, S, y, rfl, HG4.out, hg16, hgc, hcm, HM4.out, hm100, hmc, hmm, HS4.out, hS100, hSc, hSm⟩, HB5.out⟩
theorem DrawMeetsDeadline_any (A : Option Addr) (c : Nat) (l : List Int) (w : World) (hb : RB w 0 w.heap.size A l) (hl : l.length ≤ c) (hc : c ≤ maxLen) :
    Calls Try.prog 28 #[.slice A l.length c] w (DrawGLNLN w) := by
  have C1 := Lib.hid (DrawLateTasks_any A c l w hb hl hc)
  clear hb
  go_enter Try.func28, Try.ntmps28
  go_wp2_with fail
  with_reducible refine (C1.out).mono ?_
  rintro e w4 ⟨⟨A2, c2, g, A3, c3, m, x, A4, c4, S, y, rfl, hg, hg16, hgc, hcm, hm, hm100, hmc, hmm, hS, hS100, hSc, hSm⟩, hb4⟩
  have HG4 := Lib.hid hg
  have HM4 := Lib.hid hm
  have HS4 := Lib.hid hS
  have HB4 := Lib.hid hb4
  clear hg hm hS hb4
  go_wp2
  go_ret5
  exact ⟨⟨A2, c2, g, A3, c3, m, x, A4, c4, S, y, rfl, HG4.out, hg16, hgc, hcm, HM4.out, hm100, hmc, hmm, HS4.out, hS100, hSc, hSm⟩, HB4.out⟩
end Go.Proofs.Ythbajjkggfgogaa
