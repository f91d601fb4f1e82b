/-
  WALKS: the draws of chapters 3 and 4 with three results; rooms.
-/
import Derived.Test.YtcddjgiclnnilabX5
namespace Go.Proofs.Ytcddjgiclnnilab
open Go.RowKit
/-- a graph, a list and a number -/
def DrawGDA (w : World) (e : Ending) (w' : World) : Prop := (∃ A c g A2 c2 l x, e = .returned (.tuple #[.slice A (List.length g) c, .slice A2 (List.length l) c2, .int .i64 x]) ∧ RG w' w.heap.size w'.heap.size A g ∧ g.length ≤ 16 ∧ g.length ≤ c ∧ c ≤ maxLen ∧
  RI w' w.heap.size w'.heap.size A2 l ∧ l.length ≤ 100 ∧ l.length ≤ c2 ∧ c2 ≤ maxLen) ∧ Below w.heap.size w w'
theorem DrawFinishTask_any (A : Option Addr) (c : Nat) (l : List Int) (w : World) (hb : RB w 0 w.heap.size A l) (hl : l.length ≤ c) (hc : c ≤ maxLen) :
    Calls Try.prog 34 #[.slice A l.length c] w (DrawGDA w) := by
  have C1 := Lib.hid (newReader_any A c l w hb hl hc)
  clear hb
  go_enter Try.func34, Try.ntmps34
  go_wp2_with fail
  refine (C1.out).mono ?_
  rintro e w1 ⟨rb, rfl, hs1, hf1⟩
  have hrlo := hs1.rd.1
  have C2 := Lib.hid (anyGraph_any w.heap.size rb 0 w1 hs1 (by omega))
  have HF := Lib.hid hf1
  clear hs1 hf1 C1
  go_wp2_with fail
  refine (C2.out).mono ?_
  rintro e w2 hG
  obtain ⟨A2, c2, g, rfl, hg, hg16, hgc, hcm, hrd, hf2⟩ := hG.open_
  have hrb := hrd.lt
  have s2 := hf2.1.size
  have HG := Lib.hid hg
  have HF2 := Lib.hid (HF.out.1.trans hf2.1)
  have HRD := Lib.hid hrd
  have s0 := HF2.out.size
  clear hG hg hrd hf2 C2
  have C3 := Lib.hid (someDoneX A2 c2 g w.heap.size w2.heap.size w.heap.size rb _ w2 HRD.out (by omega) HG.out (Nat.le_refl _) hg16)
  go_wp2_with fail
  refine (C3.out).mono ?_
  rintro e w3 ⟨⟨A3, c3, l3, rfl, hl3, hlc3, hcm3, hlm3⟩, hs3, hf3⟩
  have s3 := hf3.size
  have C4 := Lib.hid (someAtX A2 g.length c2 w.heap.size rb _ w3 hs3 (by omega) hg16)
  have HF3 := Lib.hid hf3
  have HL3 := Lib.hid hl3
  clear hl3 hs3 hf3 C3 HRD
  go_wp2_with fail
  refine (C4.out).mono ?_
  rintro e w4 ⟨⟨x, rfl⟩, hs4, hf4⟩
  have s4 := hf4.size
  have hf24 := HF3.out.trans hf4
  have HG4 := Lib.hid ((HG.out.fx hf24 (Nat.le_refl _)).rg.more (hi' := w4.heap.size) (Nat.le_refl _) (by omega))
  have HL4 := Lib.hid ((HL3.out.fx hf4 hrb (Nat.le_refl _)).more s0 s4)
  have HB4 := Lib.hid (HF2.out.trans (hf24.below hrlo hrb))
  clear hs4 hf4 C4 hf24
  go_wp2
  go_ret3
  exact ⟨⟨A2, c2, g, A3, c3, l3, x, rfl, HG4.out, hg16, hgc, hcm, HL4.out, hlm3, hlc3, hcm3⟩, HB4.out⟩
theorem DrawWaitsFor_any (A : Option Addr) (c : Nat) (l : List Int) (w : World) (hb : RB w 0 w.heap.size A l) (hl : l.length ≤ c) (hc : c ≤ maxLen) :
    Calls Try.prog 36 #[.slice A l.length c] w (DrawGDA w) := by
  have C1 := Lib.hid (DrawFinishTask_any A c l w hb hl hc)
  clear hb
  go_enter Try.func36, Try.ntmps36
  go_wp2_with fail
  refine (C1.out).mono ?_
  rintro e w1 ⟨⟨A2, c2, g, A3, c3, l3, x, rfl, hg⟩, hb⟩
  have HG := Lib.hid hg
  have HB := Lib.hid hb
  clear hg hb
  go_wp2
  go_ret3
  exact ⟨⟨A2, c2, g, A3, c3, l3, x, rfl, HG.out⟩, HB.out⟩
set_option maxHeartbeats 1600000 in
theorem someRoomX (lo rb P : Nat) (w : World) (hs : RD w lo rb P) (hP : P ≤ 800000) :
    Calls Try.prog 48 #[.pointer (some ⟨rb, 0, none⟩)] w (SpX lo rb (P + 7) 4 w) := by
  have hrb := hs.lt
  have C1 := Lib.hid (one_newX #[.int .i64 4, .int .i64 5, .int .i64 8, .int .i64 4] 4 lo rb P w hs (by omega) (by intro k hk; match k, hk with | 0, _ => exact ⟨_, rfl⟩ | 1, _ => exact ⟨_, rfl⟩ | 2, _ => exact ⟨_, rfl⟩ | 3, _ => exact ⟨_, rfl⟩) (by omega) (by omega) rfl)
  clear hs
  go_enter Try.func48, Try.ntmps48
  go_wp2_with fail
  refine (C1.out).mono ?_
  rintro e w1 ⟨⟨x, rfl⟩, hs1, hf1⟩
  have C2 := Lib.hid (one_newX #[.int .i64 4, .int .i64 6, .int .i64 8] 3 lo rb (P + 1) w1 hs1 (by omega) (by intro k hk; match k, hk with | 0, _ => exact ⟨_, rfl⟩ | 1, _ => exact ⟨_, rfl⟩ | 2, _ => exact ⟨_, rfl⟩) (by omega) (by omega) rfl)
  have HF1 := Lib.hid hf1
  clear hs1 hf1 C1
  go_wp2_with fail
  refine (C2.out).mono ?_
  rintro e w2 ⟨⟨y, rfl⟩, hs2, hf2⟩
  have C3 := Lib.hid (one_newX #[.int .i64 4, .int .i64 4, .int .i64 7] 3 lo rb (P + 2) w2 hs2 (by omega) (by intro k hk; match k, hk with | 0, _ => exact ⟨_, rfl⟩ | 1, _ => exact ⟨_, rfl⟩ | 2, _ => exact ⟨_, rfl⟩) (by omega) (by omega) rfl)
  have HF2 := Lib.hid (HF1.out.trans hf2)
  clear hs2 hf2 C2 HF1
  go_wp2_with fail
  refine (C3.out).mono ?_
  rintro e w3 ⟨⟨z, rfl⟩, hs3, hf3⟩
  have hf03 := HF2.out.trans hf3
  have s3 := hf03.size
  have hal := Below.alloc (Below.refl w3.heap.size w3) (Nat.le_refl _) (.cells #[.int .i64 x, .int .i64 y, .int .i64 z] 3)
  have hri : RI (w3.alloc (.cells #[.int .i64 x, .int .i64 y, .int .i64 z] 3)) w3.heap.size (w3.heap.size + 1) (some ⟨w3.heap.size, 0, none⟩) [x, y, z] := by
    intro k hk
    refine ⟨w3.heap.size, 0, rfl, Nat.le_refl _, by omega, ?_⟩
    rw [(Blk.new w3 _ _).cell, Nat.zero_add]
    match k, hk with
    | 0, _ => rfl
    | 1, _ => rfl
    | 2, _ => rfl
  have C4 := Lib.hid (spoilX (some ⟨w3.heap.size, 0, none⟩) 3 [x, y, z] lo rb (P + 3) w3.heap.size (w3.heap.size + 1) 9 _ (hs3.after hal) (by omega) hri (by simp) (by simp))
  have HF3 := Lib.hid (hf03.trans (Fx.of hal))
  clear hs3 hf3 C3 HF2 hf03 hal hri
  go_wp2_with fail
  refine (C4.out).mono ?_
  rintro e w4 ⟨⟨A4, c4, l, rfl, hl, hlc, hcm, hlm⟩, hs4, hf4⟩
  have HL := Lib.hid (hl.more (lo' := w.heap.size) (by simp; omega) (Nat.le_refl _))
  have HS4 := Lib.hid hs4
  have HF4 := Lib.hid (HF3.out.trans hf4)
  clear hl hs4 hf4 C4
  go_wp2
  go_ret
  exact ⟨⟨A4, c4, l, rfl, HL.out, hlc, hcm, hlm⟩, HS4.out.more (by omega), HF4.out⟩
/-- a list -/
def DrawL (w : World) (e : Ending) (w' : World) : Prop := (∃ A2 c2 l, e = .returned (.slice A2 (List.length l) c2) ∧ RI w' w.heap.size w'.heap.size A2 l ∧ l.length ≤ 100 ∧ l.length ≤ c2 ∧ c2 ≤ maxLen) ∧ Below w.heap.size w w'
/-- a graph and two lists -/
def DrawGLL (w : World) (e : Ending) (w' : World) : Prop := (∃ A c g A2 c2 l A3 c3 m, e = .returned (.tuple #[.slice A (List.length g) c, .slice A2 (List.length l) c2, .slice A3 (List.length m) c3]) ∧ RG w' w.heap.size w'.heap.size A g ∧ g.length ≤ 16 ∧ g.length ≤ c ∧ c ≤ maxLen ∧
  RI w' w.heap.size w'.heap.size A2 l ∧ l.length ≤ 100 ∧ l.length ≤ c2 ∧ c2 ≤ maxLen ∧ RI w' w.heap.size w'.heap.size A3 m ∧ m.length ≤ 100 ∧ m.length ≤ c3 ∧ c3 ≤ maxLen) ∧ Below w.heap.size w w'
theorem DrawRunsTogether_any (A : Option Addr) (c : Nat) (l : List Int) (w : World) (hb : RB w 0 w.heap.size A l) (hl : l.length ≤ c) (hc : c ≤ maxLen) :
    Calls Try.prog 43 #[.slice A l.length c] w (DrawGLL w) := by
  have C1 := Lib.hid (newReader_any A c l w hb hl hc)
  clear hb
  go_enter Try.func43, Try.ntmps43
  go_wp2_with fail
  refine (C1.out).mono ?_
  rintro e w1 ⟨rb, rfl, hs1, hf1⟩
  have hrlo := hs1.rd.1
  have C2 := Lib.hid (anyGraph_any w.heap.size rb 0 w1 hs1 (by omega))
  have HF := Lib.hid hf1
  clear hs1 hf1 C1
  go_wp2_with fail
  refine (C2.out).mono ?_
  rintro e w2 hG
  obtain ⟨A2, c2, g, rfl, hg, hg16, hgc, hcm, hrd, hf2⟩ := hG.open_
  have hrb := hrd.lt
  have s2 := hf2.1.size
  have HG := Lib.hid hg
  have HF2 := Lib.hid (HF.out.1.trans hf2.1)
  have HRD := Lib.hid hrd
  have s0 := HF2.out.size
  clear hG hg hrd hf2 C2
  have C3 := Lib.hid (someRoomX w.heap.size rb _ w2 HRD.out (by omega))
  go_wp2_with fail
  refine (C3.out).mono ?_
  rintro e w3 ⟨⟨A3, c3, l3, rfl, hl3, hlc3, hcm3, hlm3⟩, hs3, hf3⟩
  have s3 := hf3.size
  have C4 := Lib.hid (someSetX A2 c2 g.length w.heap.size rb _ w3 hs3 (by omega) hg16)
  have HF3 := Lib.hid hf3
  have HL3 := Lib.hid hl3
  clear hl3 hs3 hf3 C3 HRD
  go_wp2_with fail
  refine (C4.out).mono ?_
  rintro e w4 ⟨⟨A4, c4, l4, rfl, hl4, hlc4, hcm4, hlm4⟩, hs4, hf4⟩
  have s4 := hf4.size
  have hf24 := HF3.out.trans hf4
  have HG4 := Lib.hid ((HG.out.fx hf24 (Nat.le_refl _)).rg.more (hi' := w4.heap.size) (Nat.le_refl _) (by omega))
  have HL3' := Lib.hid ((HL3.out.fx hf4 hrb (Nat.le_refl _)).more s0 s4)
  have HL4 := Lib.hid (hl4.more (lo' := w.heap.size) (by omega) (Nat.le_refl _))
  have HB4 := Lib.hid (HF2.out.trans (hf24.below hrlo hrb))
  clear hl4 hs4 hf4 C4 hf24
  go_wp2
  go_ret3
  exact ⟨⟨A2, c2, g, A3, c3, l3, A4, c4, l4, rfl, HG4.out, hg16, hgc, hcm, HL3'.out, by omega, hlc3, hcm3, HL4.out, hlm4, hlc4, hcm4⟩, HB4.out⟩
/-- a graph and two numbers -/
def DrawGNN (w : World) (e : Ending) (w' : World) : Prop := (∃ A c g x y, e = .returned (.tuple #[.slice A (List.length g) c, .int .i64 x, .int .i64 y]) ∧ RG w' w.heap.size w'.heap.size A g ∧ g.length ≤ 16 ∧ g.length ≤ c ∧ c ≤ maxLen) ∧ Below w.heap.size w w'
set_option maxHeartbeats 1600000 in
theorem DrawPoolTime_any (A : Option Addr) (c : Nat) (l : List Int) (w : World) (hb : RB w 0 w.heap.size A l) (hl : l.length ≤ c) (hc : c ≤ maxLen) :
    Calls Try.prog 21 #[.slice A l.length c] w (DrawGNN w) := by
  have C1 := Lib.hid (newReader_any A c l w hb hl hc)
  clear hb
  go_enter Try.func21, Try.ntmps21
  go_wp2_with fail
  refine (C1.out).mono ?_
  rintro e w1 ⟨rb, rfl, hs1, hf1⟩
  have hrlo := hs1.rd.1
  have C2 := Lib.hid (anyGraph_any w.heap.size rb 0 w1 hs1 (by omega))
  have HF := Lib.hid hf1
  clear hs1 hf1 C1
  go_wp2_with fail
  refine (C2.out).mono ?_
  rintro e w2 hG
  obtain ⟨A2, c2, g, rfl, hg, hg16, hgc, hcm, hrd, hf2⟩ := hG.open_
  have hrb := hrd.lt
  have s2 := hf2.1.size
  have HG := Lib.hid hg
  have HF2 := Lib.hid (HF.out.1.trans hf2.1)
  have HRD := Lib.hid hrd
  have s0 := HF2.out.size
  clear hG hg hrd hf2 C2
  have C3 := Lib.hid (one_newX #[.int .i64 0, .int .i64 1, .int .i64 2, .int .i64 3, .int .i64 (-1), .int .i64 0] 6 w.heap.size rb _ w2 HRD.out (by omega) (by intro k hk; match k, hk with | 0, _ => exact ⟨_, rfl⟩ | 1, _ => exact ⟨_, rfl⟩ | 2, _ => exact ⟨_, rfl⟩ | 3, _ => exact ⟨_, rfl⟩ | 4, _ => exact ⟨_, rfl⟩ | 5, _ => exact ⟨_, rfl⟩) (by omega) (by omega) rfl)
  go_wp2_with fail
  refine (C3.out).mono ?_
  rintro e w3 ⟨⟨x, rfl⟩, hs3, hf3⟩
  have s3 := hf3.size
  have C4 := Lib.hid (one_newX #[.int .i64 4, .int .i64 5, .int .i64 8, .int .i64 3, .int .i64 9] 5 w.heap.size rb _ w3 hs3 (by omega) (by intro k hk; match k, hk with | 0, _ => exact ⟨_, rfl⟩ | 1, _ => exact ⟨_, rfl⟩ | 2, _ => exact ⟨_, rfl⟩ | 3, _ => exact ⟨_, rfl⟩ | 4, _ => exact ⟨_, rfl⟩) (by omega) (by omega) rfl)
  have HF3 := Lib.hid hf3
  clear hs3 hf3 C3 HRD
  go_wp2_with fail
  refine (C4.out).mono ?_
  rintro e w4 ⟨⟨y, rfl⟩, hs4, hf4⟩
  have s4 := hf4.size
  have hf24 := HF3.out.trans hf4
  have HG4 := Lib.hid ((HG.out.fx hf24 (Nat.le_refl _)).rg.more (hi' := w4.heap.size) (Nat.le_refl _) (by omega))
  have HB4 := Lib.hid (HF2.out.trans (hf24.below hrlo hrb))
  clear hs4 hf4 C4 hf24
  go_wp2
  go_ret3
  exact ⟨⟨A2, c2, g, x, y, rfl, HG4.out, hg16, hgc, hcm⟩, HB4.out⟩
end Go.Proofs.Ytcddjgiclnnilab
