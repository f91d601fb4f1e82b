/-
  MERGED TEXTS: X5 X6 X7 X8.
-/
import Derived.Test.YtgpmnfnliifegaaK22
import Derived.OwnWalk
import Derived.Test.YtgpmnfnliifegaaMem4
import Derived.Test.YtgpmnfnliifegaaCp
import Derived.Test.YtgpmnfnliifegaaK4
import Derived.Deep.RegionHeld
import Derived.Test.YtgpmnfnliifegaaK15
namespace Go.Proofs.Ytgpmnfnliifegaa
open Go.RowKit
/-- what a draw of a graph and a list hands back -/
def DrawGD (w : World) (e : Ending) (w' : World) : Prop := (∃ A c g A2 c2 l, e = .returned (.tuple #[.slice A (List.length g) c, .slice A2 (List.length l) c2]) ∧ RG w' w.heap.size w'.heap.size A g ∧ g.length ≤ 16 ∧ g.length ≤ c ∧ c ≤ maxLen ∧
  RI w' w.heap.size w'.heap.size A2 l ∧ l.length ≤ 100 ∧ l.length ≤ c2 ∧ c2 ≤ maxLen) ∧ Below w.heap.size w w'
end Go.Proofs.Ytgpmnfnliifegaa
namespace Go.Proofs.Ytgpmnfnliifegaa
open Go.RowKit
/-- a graph, a list and a number -/
def DrawGDA (w : World) (e : Ending) (w' : World) : Prop := (∃ A c g A2 c2 l x, e = .returned (.tuple #[.slice A (List.length g) c, .slice A2 (List.length l) c2, .int .i64 x]) ∧ RG w' w.heap.size w'.heap.size A g ∧ g.length ≤ 16 ∧ g.length ≤ c ∧ c ≤ maxLen ∧
  RI w' w.heap.size w'.heap.size A2 l ∧ l.length ≤ 100 ∧ l.length ≤ c2 ∧ c2 ≤ maxLen) ∧ Below w.heap.size w w'
set_option maxHeartbeats 1600000 in
theorem someRoomX (lo rb P : Nat) (w : World) (hs : RD w lo rb P) (hP : P ≤ 800000) :
    Calls Try.prog 37 #[.pointer (some ⟨rb, 0, none⟩)] w (SpX lo rb (P + 7) 4 w) := by
  have hrb := hs.lt
  have C1 := Lib.hid (one_newX #[.int .i64 4, .int .i64 5, .int .i64 8, .int .i64 4] 4 lo rb P w hs (by omega) (by intro k hk; match k, hk with | 0, _ => exact ⟨_, rfl⟩ | 1, _ => exact ⟨_, rfl⟩ | 2, _ => exact ⟨_, rfl⟩ | 3, _ => exact ⟨_, rfl⟩) (by omega) (by omega) rfl)
  clear hs
  go_enter Try.func37, Try.ntmps37
  go_wp2_with fail
  refine (C1.out).mono ?_
  rintro e w1 ⟨⟨x, rfl⟩, hs1, hf1⟩
  have C2 := Lib.hid (one_newX #[.int .i64 4, .int .i64 6, .int .i64 8] 3 lo rb (P + 1) w1 hs1 (by omega) (by intro k hk; match k, hk with | 0, _ => exact ⟨_, rfl⟩ | 1, _ => exact ⟨_, rfl⟩ | 2, _ => exact ⟨_, rfl⟩) (by omega) (by omega) rfl)
  have HF1 := Lib.hid hf1
  clear hs1 hf1 C1
  go_wp2_with fail
  refine (C2.out).mono ?_
  rintro e w2 ⟨⟨y, rfl⟩, hs2, hf2⟩
  have C3 := Lib.hid (one_newX #[.int .i64 4, .int .i64 4, .int .i64 7] 3 lo rb (P + 2) w2 hs2 (by omega) (by intro k hk; match k, hk with | 0, _ => exact ⟨_, rfl⟩ | 1, _ => exact ⟨_, rfl⟩ | 2, _ => exact ⟨_, rfl⟩) (by omega) (by omega) rfl)
  have HF2 := Lib.hid (HF1.out.trans hf2)
  clear hs2 hf2 C2 HF1
  go_wp2_with fail
  refine (C3.out).mono ?_
  rintro e w3 ⟨⟨z, rfl⟩, hs3, hf3⟩
  have hf03 := HF2.out.trans hf3
  have s3 := hf03.size
  have hal := Below.alloc (Below.refl w3.heap.size w3) (Nat.le_refl _) (.cells #[.int .i64 x, .int .i64 y, .int .i64 z] 3)
  have hri : RI (w3.alloc (.cells #[.int .i64 x, .int .i64 y, .int .i64 z] 3)) w3.heap.size (w3.heap.size + 1) (some ⟨w3.heap.size, 0, none⟩) [x, y, z] := by
    intro k hk
    refine ⟨w3.heap.size, 0, rfl, Nat.le_refl _, by omega, ?_⟩
    rw [(Blk.new w3 _ _).cell, Nat.zero_add]
    match k, hk with
    | 0, _ => rfl
    | 1, _ => rfl
    | 2, _ => rfl
  have C4 := Lib.hid (spoilX (some ⟨w3.heap.size, 0, none⟩) 3 [x, y, z] lo rb (P + 3) w3.heap.size (w3.heap.size + 1) 9 _ (hs3.after hal) (by omega) hri (by simp) (by simp))
  have HF3 := Lib.hid (hf03.trans (Fx.of hal))
  clear hs3 hf3 C3 HF2 hf03 hal hri
  go_wp2_with fail
  refine (C4.out).mono ?_
  rintro e w4 ⟨⟨A4, c4, l, rfl, hl, hlc, hcm, hlm⟩, hs4, hf4⟩
  have HL := Lib.hid (hl.more (lo' := w.heap.size) (by simp; omega) (Nat.le_refl _))
  have HS4 := Lib.hid hs4
  have HF4 := Lib.hid (HF3.out.trans hf4)
  clear hl hs4 hf4 C4
  go_wp2
  go_ret
  exact ⟨⟨A4, c4, l, rfl, HL.out, hlc, hcm, hlm⟩, HS4.out.more (by omega), HF4.out⟩
/-- a list -/
def DrawL (w : World) (e : Ending) (w' : World) : Prop := (∃ A2 c2 l, e = .returned (.slice A2 (List.length l) c2) ∧ RI w' w.heap.size w'.heap.size A2 l ∧ l.length ≤ 100 ∧ l.length ≤ c2 ∧ c2 ≤ maxLen) ∧ Below w.heap.size w w'
/-- a graph and two lists -/
def DrawGLL (w : World) (e : Ending) (w' : World) : Prop := (∃ A c g A2 c2 l A3 c3 m, e = .returned (.tuple #[.slice A (List.length g) c, .slice A2 (List.length l) c2, .slice A3 (List.length m) c3]) ∧ RG w' w.heap.size w'.heap.size A g ∧ g.length ≤ 16 ∧ g.length ≤ c ∧ c ≤ maxLen ∧
  RI w' w.heap.size w'.heap.size A2 l ∧ l.length ≤ 100 ∧ l.length ≤ c2 ∧ c2 ≤ maxLen ∧ RI w' w.heap.size w'.heap.size A3 m ∧ m.length ≤ 100 ∧ m.length ≤ c3 ∧ c3 ≤ maxLen) ∧ Below w.heap.size w w'
/-- a graph and two numbers -/
def DrawGNN (w : World) (e : Ending) (w' : World) : Prop := (∃ A c g x y, e = .returned (.tuple #[.slice A (List.length g) c, .int .i64 x, .int .i64 y]) ∧ RG w' w.heap.size w'.heap.size A g ∧ g.length ≤ 16 ∧ g.length ≤ c ∧ c ≤ maxLen) ∧ Below w.heap.size w w'
end Go.Proofs.Ytgpmnfnliifegaa
namespace Go.Proofs.Ytgpmnfnliifegaa
open Go.RowKit
theorem results_five {fn : Func} {t u v x y : Tmp} (h : fn.results = #[.tmp t, .tmp u, .tmp v, .tmp x, .tmp y]) (tmps : Array Value) (P : Program) (w : World) :
    (results fn tmps).run P w = .ok (.tuple #[tmps.getD t undef, tmps.getD u undef, tmps.getD v undef, tmps.getD x undef, tmps.getD y undef]) w := by
  simp [results, h]
macro "go_ret5" : tactic => `(tactic| ((try simp only [Exit.inBlock, Exit.then]); refine bodyPost_ret (results_five rfl _ _ _) rfl ?_))
theorem RI.set_ {w : World} {lo hi b : Nat} {l : List Int} (h : RI w lo hi (some ⟨b, 0, none⟩) l) {k : Nat} (hk : k < l.length) (x : Int) : RI (w.setCell ⟨b, k, none⟩ (.int .i64 x)) lo hi (some ⟨b, 0, none⟩) (l.set k x) := by
  intro j hj
  rw [List.length_set] at hj
  obtain ⟨b', o', e, h1, h2, hcj⟩ := h j hj
  cases e
  rw [Nat.zero_add] at hcj
  refine ⟨b, 0, rfl, h1, h2, ?_⟩
  rw [Nat.zero_add]
  by_cases e : j = k
  · subst e
    rw [World.cell?_setCell_same _ _ _ hcj]
    simp
  · rw [World.cell?_setCell_other _ _ _ _ (fun e2 => e (by cases e2; rfl)), hcj]
    simp [List.getElem_set_ne (Ne.symm e)]
/-- a graph, three lists and a number -/
def DrawG3 (w : World) (e : Ending) (w' : World) : Prop := (∃ A c g A2 c2 m A3 c3 r A4 c4 l x, e = .returned (.tuple #[.slice A (List.length g) c, .slice A2 (List.length m) c2, .slice A3 (List.length r) c3, .slice A4 (List.length l) c4, .int .i64 x]) ∧ RG w' w.heap.size w'.heap.size A g ∧ g.length ≤ 16 ∧ g.length ≤ c ∧ c ≤ maxLen ∧
  RI w' w.heap.size w'.heap.size A2 m ∧ m.length ≤ 100 ∧ m.length ≤ c2 ∧ c2 ≤ maxLen ∧ RI w' w.heap.size w'.heap.size A3 r ∧ r.length ≤ 100 ∧ r.length ≤ c3 ∧ c3 ≤ maxLen ∧ RI w' w.heap.size w'.heap.size A4 l ∧ l.length ≤ 100 ∧ l.length ≤ c4 ∧ c4 ≤ maxLen) ∧ Below w.heap.size w w'
end Go.Proofs.Ytgpmnfnliifegaa
namespace Go.Proofs.Ytgpmnfnliifegaa
open Go.RowKit
theorem results_four {fn : Func} {t u v x : Tmp} (h : fn.results = #[.tmp t, .tmp u, .tmp v, .tmp x]) (tmps : Array Value) (P : Program) (w : World) :
    (results fn tmps).run P w = .ok (.tuple #[tmps.getD t undef, tmps.getD u undef, tmps.getD v undef, tmps.getD x undef]) w := by
  simp [results, h]
theorem one7 (a0 a1 a2 a3 a4 a5 a6 : Int) : ∀ k, k < 7 → ∃ x, (#[Value.int .i64 a0, .int .i64 a1, .int .i64 a2, .int .i64 a3, .int .i64 a4, .int .i64 a5, .int .i64 a6] : Array Value)[k]? = some (.int .i64 x) := by
  intro k hk
  match k, hk with
  | 0, _ => exact ⟨_, rfl⟩
  | 1, _ => exact ⟨_, rfl⟩
  | 2, _ => exact ⟨_, rfl⟩
  | 3, _ => exact ⟨_, rfl⟩
  | 4, _ => exact ⟨_, rfl⟩
  | 5, _ => exact ⟨_, rfl⟩
  | 6, _ => exact ⟨_, rfl⟩
theorem one5 (a0 a1 a2 a3 a4 : Int) : ∀ k, k < 5 → ∃ x, (#[Value.int .i64 a0, .int .i64 a1, .int .i64 a2, .int .i64 a3, .int .i64 a4] : Array Value)[k]? = some (.int .i64 x) := by
  intro k hk
  match k, hk with
  | 0, _ => exact ⟨_, rfl⟩
  | 1, _ => exact ⟨_, rfl⟩
  | 2, _ => exact ⟨_, rfl⟩
  | 3, _ => exact ⟨_, rfl⟩
  | 4, _ => exact ⟨_, rfl⟩
theorem someWorkersX (lo rb P : Nat) (w : World) (hs : RD w lo rb P) (hP : P ≤ 900000) :
    Calls Try.prog 38 #[.pointer (some ⟨rb, 0, none⟩)] w (OneX lo rb P w) := by
  have C1 := Lib.hid (one_newX #[.int .i64 1, .int .i64 2, .int .i64 3, .int .i64 4, .int .i64 2, .int .i64 0, .int .i64 5] 7 lo rb P w hs (by omega) (one7 _ _ _ _ _ _ _) (by omega) (by omega) rfl)
  clear hs
  go_enter Try.func38, Try.ntmps38
  go_wp2_with fail
  refine (C1.out).mono ?_
  rintro e w1 ⟨⟨x, rfl⟩, hs1, hf1⟩
  go_wp2
  go_ret
  exact ⟨⟨x, rfl⟩, hs1, hf1⟩
/-- a graph, a list and a number -/
def DrawGLN (w : World) (e : Ending) (w' : World) : Prop := (∃ A c g A2 c2 m x, e = .returned (.tuple #[.slice A (List.length g) c, .slice A2 (List.length m) c2, .int .i64 x]) ∧ RG w' w.heap.size w'.heap.size A g ∧ g.length ≤ 16 ∧ g.length ≤ c ∧ c ≤ maxLen ∧
  RI w' w.heap.size w'.heap.size A2 m ∧ m.length ≤ 100 ∧ m.length ≤ c2 ∧ c2 ≤ maxLen) ∧ Below w.heap.size w w'
theorem DrawPlanStarts_any (A : Option Addr) (c : Nat) (l : List Int) (w : World) (hb : RB w 0 w.heap.size A l) (hl : l.length ≤ c) (hc : c ≤ maxLen) :
    Calls Try.prog 12 #[.slice A l.length c] w (DrawGLN w) := by
  have C1 := Lib.hid (newReader_any A c l w hb hl hc)
  clear hb
  go_enter Try.func12, Try.ntmps12
  go_wp2_with fail
  refine (C1.out).mono ?_
  rintro e w1 ⟨rb, rfl, hs1, hf1⟩
  have hrlo := hs1.rd.1
  have C2 := Lib.hid (anyGraph_any w.heap.size rb 0 w1 hs1 (by omega))
  have HF := Lib.hid hf1
  clear hs1 hf1 C1
  go_wp2_with fail
  refine (C2.out).mono ?_
  rintro e w2 hG
  obtain ⟨A2, c2, g, rfl, hg, hg16, hgc, hcm, hrd, hf2⟩ := hG.open_
  have hrb := hrd.lt
  have s2 := hf2.1.size
  have HG := Lib.hid hg
  have HF2 := Lib.hid (HF.out.1.trans hf2.1)
  have HRD := Lib.hid hrd
  have s0 := HF2.out.size
  clear hG hg hrd hf2 C2
  have C3 := Lib.hid (someRoomX w.heap.size rb _ w2 HRD.out (by omega))
  go_wp2_with fail
  refine (C3.out).mono ?_
  rintro e w3 ⟨⟨A3, c3, l3, rfl, hl3, hlc3, hcm3, hlm3⟩, hs3, hf3⟩
  have s3 := hf3.size
  have C4 := Lib.hid (someWorkersX w.heap.size rb _ w3 hs3 (by omega))
  have HF3 := Lib.hid hf3
  have HL3 := Lib.hid hl3
  clear hl3 hs3 hf3 C3 HRD
  go_wp2_with fail
  refine (C4.out).mono ?_
  rintro e w4 ⟨⟨x, rfl⟩, hs4, hf4⟩
  have s4 := hf4.size
  have hf24 := HF3.out.trans hf4
  have HG4 := Lib.hid ((HG.out.fx hf24 (Nat.le_refl _)).rg.more (hi' := w4.heap.size) (Nat.le_refl _) (by omega))
  have HL3' := Lib.hid ((HL3.out.fx hf4 hrb (Nat.le_refl _)).more s0 s4)
  have HB4 := Lib.hid (HF2.out.trans (hf24.below hrlo hrb))
  clear hs4 hf4 C4 hf24
  go_wp2
  go_ret3
  exact ⟨⟨A2, c2, g, A3, c3, l3, x, rfl, HG4.out, hg16, hgc, hcm, HL3'.out, by omega, hlc3, hcm3⟩, HB4.out⟩
theorem DrawLeastTime_any (A : Option Addr) (c : Nat) (l : List Int) (w : World) (hb : RB w 0 w.heap.size A l) (hl : l.length ≤ c) (hc : c ≤ maxLen) :
    Calls Try.prog 23 #[.slice A l.length c] w (DrawGLN w) := by
  have C1 := Lib.hid (DrawPlanStarts_any A c l w hb hl hc)
  clear hb
  go_enter Try.func23, Try.ntmps23
  go_wp2_with fail
  with_reducible refine (C1.out).mono ?_
  rintro e w4 ⟨⟨A2, c2, g, A3, c3, l3, x, rfl, hg, hg16, hgc, hcm, hl3, hl100, hlc3, hcm3⟩, hb4⟩
  have HG4 := Lib.hid hg
  have HL3 := Lib.hid hl3
  have HB4 := Lib.hid hb4
  clear hg hl3 hb4
  go_wp2
  go_ret3
  exact ⟨⟨A2, c2, g, A3, c3, l3, x, rfl, HG4.out, hg16, hgc, hcm, HL3.out, by omega, hlc3, hcm3⟩, HB4.out⟩
theorem OI.blk {w : World} {B : Nat} {A : Option Addr} {c : Nat} {l : List Int} (h : OI w B A c l) (h0 : 0 < l.length) : ∃ b cs, A = some ⟨b, 0, none⟩ ∧ B ≤ b ∧ Blk w b 3 cs ∧ RI w B w.heap.size (some ⟨b, 0, none⟩) l := by
  have hr := h.ri
  rcases h.2 with ⟨hv, hn⟩ | ⟨b, cap, cur, hv, hb, hg, hnc, hcm, hcs, ht⟩
  · omega
  · injection hv with hA hn hc
    subst hA
    exact ⟨b, cur, rfl, hb, hg, hr⟩
theorem Blk.fx {w w' : World} {rb b : Nat} {t : TypeId} {cs : Array Value} (h : Blk w b t cs) (hf : Fx rb w w') (hne : b ≠ rb) : Blk w' b t cs := (hf.block b h.lt hne).trans h
/-- beginnings, and what they are for -/
def StX (lo rb P : Nat) (w : World) (e : Ending) (w' : World) : Prop := (∃ A2 c2 m x A3 c3 S, e = .returned (.tuple #[.slice A2 (List.length m) c2, .int .i64 x, .slice A3 (List.length S) c3]) ∧ RI w' w.heap.size w'.heap.size A2 m ∧ m.length ≤ 100 ∧ m.length ≤ c2 ∧ c2 ≤ maxLen ∧
  RI w' w.heap.size w'.heap.size A3 S ∧ S.length ≤ 100 ∧ S.length ≤ c3 ∧ c3 ≤ maxLen) ∧ RD w' lo rb P ∧ Fx rb w w'
/-- a graph, a list, a number and a list -/
def DrawGLNL (w : World) (e : Ending) (w' : World) : Prop := (∃ A c g A2 c2 m x A3 c3 S, e = .returned (.tuple #[.slice A (List.length g) c, .slice A2 (List.length m) c2, .int .i64 x, .slice A3 (List.length S) c3]) ∧ RG w' w.heap.size w'.heap.size A g ∧ g.length ≤ 16 ∧ g.length ≤ c ∧ c ≤ maxLen ∧
  RI w' w.heap.size w'.heap.size A2 m ∧ m.length ≤ 100 ∧ m.length ≤ c2 ∧ c2 ≤ maxLen ∧ RI w' w.heap.size w'.heap.size A3 S ∧ S.length ≤ 100 ∧ S.length ≤ c3 ∧ c3 ≤ maxLen) ∧ Below w.heap.size w w'
/-- a graph, a list, a number, a list and a number -/
def DrawGLNLN (w : World) (e : Ending) (w' : World) : Prop := (∃ A c g A2 c2 m x A3 c3 S y, e = .returned (.tuple #[.slice A (List.length g) c, .slice A2 (List.length m) c2, .int .i64 x, .slice A3 (List.length S) c3, .int .i64 y]) ∧ RG w' w.heap.size w'.heap.size A g ∧ g.length ≤ 16 ∧ g.length ≤ c ∧ c ≤ maxLen ∧
  RI w' w.heap.size w'.heap.size A2 m ∧ m.length ≤ 100 ∧ m.length ≤ c2 ∧ c2 ≤ maxLen ∧ RI w' w.heap.size w'.heap.size A3 S ∧ S.length ≤ 100 ∧ S.length ≤ c3 ∧ c3 ≤ maxLen) ∧ Below w.heap.size w w'
theorem RG.ne {w w' : World} {lo hi rb : Nat} {A : Option Addr} {g : List Bs.T} (h : RG w lo hi A g) (hf : Fx rb w w') (hlo : rb < lo) (hh : hi ≤ w.heap.size) : RG w' lo hi A g :=
  h.keep fun p h1 h2 => hf.cell (by omega) (by omega)
end Go.Proofs.Ytgpmnfnliifegaa
