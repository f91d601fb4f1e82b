/-
  MERGED TEXTS: X5 X6 X7 X8.
-/
import Derived.Test.YtihgakbopkaemaaK22
import Derived.OwnWalk
import Derived.Test.YtihgakbopkaemaaK45
import Derived.Test.YtihgakbopkaemaaK4
import Derived.Deep.RegionHeld
import Derived.Test.YtihgakbopkaemaaK15
namespace Go.Proofs.Ytihgakbopkaemaa
open Go.RowKit
/-- what a draw of a graph and a list hands back -/
def DrawGD (w : World) (e : Ending) (w' : World) : Prop := (∃ A c g A2 c2 l, e = .returned (.tuple #[.slice A (List.length g) c, .slice A2 (List.length l) c2]) ∧ RG w' w.heap.size w'.heap.size A g ∧ g.length ≤ 16 ∧ g.length ≤ c ∧ c ≤ maxLen ∧
  RI w' w.heap.size w'.heap.size A2 l ∧ l.length ≤ 100 ∧ l.length ≤ c2 ∧ c2 ≤ maxLen) ∧ Below w.heap.size w w'
end Go.Proofs.Ytihgakbopkaemaa
namespace Go.Proofs.Ytihgakbopkaemaa
open Go.RowKit
/-- a graph, a list and a number -/
def DrawGDA (w : World) (e : Ending) (w' : World) : Prop := (∃ A c g A2 c2 l x, e = .returned (.tuple #[.slice A (List.length g) c, .slice A2 (List.length l) c2, .int .i64 x]) ∧ RG w' w.heap.size w'.heap.size A g ∧ g.length ≤ 16 ∧ g.length ≤ c ∧ c ≤ maxLen ∧
  RI w' w.heap.size w'.heap.size A2 l ∧ l.length ≤ 100 ∧ l.length ≤ c2 ∧ c2 ≤ maxLen) ∧ Below w.heap.size w w'
set_option maxHeartbeats 1600000 in
theorem someRoomX (lo rb P : Nat) (w : World) (hs : RD w lo rb P) (hP : P ≤ 800000) :
    Calls Try.prog 92 #[.pointer (some ⟨rb, 0, none⟩)] w (SpX lo rb (P + 7) 4 w) := by
  have hrb := hs.lt
  have C1 := Lib.hid (one_newX #[.int .i64 4, .int .i64 5, .int .i64 8, .int .i64 4] 4 lo rb P w hs (by omega) (by intro k hk; match k, hk with | 0, _ => exact ⟨_, rfl⟩ | 1, _ => exact ⟨_, rfl⟩ | 2, _ => exact ⟨_, rfl⟩ | 3, _ => exact ⟨_, rfl⟩) (by omega) (by omega) rfl)
  clear hs
  go_enter Try.func92, Try.ntmps92
  go_wp2_with fail
  refine (C1.out).mono ?_
  rintro e w1 ⟨⟨x, rfl⟩, hs1, hf1⟩
  have C2 := Lib.hid (one_newX #[.int .i64 4, .int .i64 6, .int .i64 8] 3 lo rb (P + 1) w1 hs1 (by omega) (by intro k hk; match k, hk with | 0, _ => exact ⟨_, rfl⟩ | 1, _ => exact ⟨_, rfl⟩ | 2, _ => exact ⟨_, rfl⟩) (by omega) (by omega) rfl)
  have HF1 := Lib.hid hf1
  clear hs1 hf1 C1
  go_wp2_with fail
  refine (C2.out).mono ?_
  rintro e w2 ⟨⟨y, rfl⟩, hs2, hf2⟩
  have C3 := Lib.hid (one_newX #[.int .i64 4, .int .i64 4, .int .i64 7] 3 lo rb (P + 2) w2 hs2 (by omega) (by intro k hk; match k, hk with | 0, _ => exact ⟨_, rfl⟩ | 1, _ => exact ⟨_, rfl⟩ | 2, _ => exact ⟨_, rfl⟩) (by omega) (by omega) rfl)
  have HF2 := Lib.hid (HF1.out.trans hf2)
  clear hs2 hf2 C2 HF1
  go_wp2_with fail
  refine (C3.out).mono ?_
  rintro e w3 ⟨⟨z, rfl⟩, hs3, hf3⟩
  have hf03 := HF2.out.trans hf3
  have s3 := hf03.size
  have hal := Below.alloc (Below.refl w3.heap.size w3) (Nat.le_refl _) (.cells #[.int .i64 x, .int .i64 y, .int .i64 z] 3)
  have hri : RI (w3.alloc (.cells #[.int .i64 x, .int .i64 y, .int .i64 z] 3)) w3.heap.size (w3.heap.size + 1) (some ⟨w3.heap.size, 0, none⟩) [x, y, z] := by
    intro k hk
    refine ⟨w3.heap.size, 0, rfl, Nat.le_refl _, by omega, ?_⟩
    rw [(Blk.new w3 _ _).cell, Nat.zero_add]
    match k, hk with
    | 0, _ => rfl
    | 1, _ => rfl
    | 2, _ => rfl
  have C4 := Lib.hid (spoilX (some ⟨w3.heap.size, 0, none⟩) 3 [x, y, z] lo rb (P + 3) w3.heap.size (w3.heap.size + 1) 9 _ (hs3.after hal) (by omega) hri (by simp) (by simp))
  have HF3 := Lib.hid (hf03.trans (Fx.of hal))
  clear hs3 hf3 C3 HF2 hf03 hal hri
  go_wp2_with fail
  refine (C4.out).mono ?_
  rintro e w4 ⟨⟨A4, c4, l, rfl, hl, hlc, hcm, hlm⟩, hs4, hf4⟩
  have HL := Lib.hid (hl.more (lo' := w.heap.size) (by simp; omega) (Nat.le_refl _))
  have HS4 := Lib.hid hs4
  have HF4 := Lib.hid (HF3.out.trans hf4)
  clear hl hs4 hf4 C4
  go_wp2
  go_ret
  exact ⟨⟨A4, c4, l, rfl, HL.out, hlc, hcm, hlm⟩, HS4.out.more (by omega), HF4.out⟩
/-- a list -/
def DrawL (w : World) (e : Ending) (w' : World) : Prop := (∃ A2 c2 l, e = .returned (.slice A2 (List.length l) c2) ∧ RI w' w.heap.size w'.heap.size A2 l ∧ l.length ≤ 100 ∧ l.length ≤ c2 ∧ c2 ≤ maxLen) ∧ Below w.heap.size w w'
/-- a graph and two lists -/
def DrawGLL (w : World) (e : Ending) (w' : World) : Prop := (∃ A c g A2 c2 l A3 c3 m, e = .returned (.tuple #[.slice A (List.length g) c, .slice A2 (List.length l) c2, .slice A3 (List.length m) c3]) ∧ RG w' w.heap.size w'.heap.size A g ∧ g.length ≤ 16 ∧ g.length ≤ c ∧ c ≤ maxLen ∧
  RI w' w.heap.size w'.heap.size A2 l ∧ l.length ≤ 100 ∧ l.length ≤ c2 ∧ c2 ≤ maxLen ∧ RI w' w.heap.size w'.heap.size A3 m ∧ m.length ≤ 100 ∧ m.length ≤ c3 ∧ c3 ≤ maxLen) ∧ Below w.heap.size w w'
/-- a graph and two numbers -/
def DrawGNN (w : World) (e : Ending) (w' : World) : Prop := (∃ A c g x y, e = .returned (.tuple #[.slice A (List.length g) c, .int .i64 x, .int .i64 y]) ∧ RG w' w.heap.size w'.heap.size A g ∧ g.length ≤ 16 ∧ g.length ≤ c ∧ c ≤ maxLen) ∧ Below w.heap.size w w'
end Go.Proofs.Ytihgakbopkaemaa
namespace Go.Proofs.Ytihgakbopkaemaa
open Go.RowKit
theorem results_five {fn : Func} {t u v x y : Tmp} (h : fn.results = #[.tmp t, .tmp u, .tmp v, .tmp x, .tmp y]) (tmps : Array Value) (P : Program) (w : World) :
    (results fn tmps).run P w = .ok (.tuple #[tmps.getD t undef, tmps.getD u undef, tmps.getD v undef, tmps.getD x undef, tmps.getD y undef]) w := by
  simp [results, h]
macro "go_ret5" : tactic => `(tactic| ((try simp only [Exit.inBlock, Exit.then]); refine bodyPost_ret (results_five rfl _ _ _) rfl ?_))
theorem RI.set_ {w : World} {lo hi b : Nat} {l : List Int} (h : RI w lo hi (some ⟨b, 0, none⟩) l) {k : Nat} (hk : k < l.length) (x : Int) : RI (w.setCell ⟨b, k, none⟩ (.int .i64 x)) lo hi (some ⟨b, 0, none⟩) (l.set k x) := by
  intro j hj
  rw [List.length_set] at hj
  obtain ⟨b', o', e, h1, h2, hcj⟩ := h j hj
  cases e
  rw [Nat.zero_add] at hcj
  refine ⟨b, 0, rfl, h1, h2, ?_⟩
  rw [Nat.zero_add]
  by_cases e : j = k
  · subst e
    rw [World.cell?_setCell_same _ _ _ hcj]
    simp
  · rw [World.cell?_setCell_other _ _ _ _ (fun e2 => e (by cases e2; rfl)), hcj]
    simp [List.getElem_set_ne (Ne.symm e)]
/-- a graph, three lists and a number -/
def DrawG3 (w : World) (e : Ending) (w' : World) : Prop := (∃ A c g A2 c2 m A3 c3 r A4 c4 l x, e = .returned (.tuple #[.slice A (List.length g) c, .slice A2 (List.length m) c2, .slice A3 (List.length r) c3, .slice A4 (List.length l) c4, .int .i64 x]) ∧ RG w' w.heap.size w'.heap.size A g ∧ g.length ≤ 16 ∧ g.length ≤ c ∧ c ≤ maxLen ∧
  RI w' w.heap.size w'.heap.size A2 m ∧ m.length ≤ 100 ∧ m.length ≤ c2 ∧ c2 ≤ maxLen ∧ RI w' w.heap.size w'.heap.size A3 r ∧ r.length ≤ 100 ∧ r.length ≤ c3 ∧ c3 ≤ maxLen ∧ RI w' w.heap.size w'.heap.size A4 l ∧ l.length ≤ 100 ∧ l.length ≤ c4 ∧ c4 ≤ maxLen) ∧ Below w.heap.size w w'
end Go.Proofs.Ytihgakbopkaemaa
namespace Go.Proofs.Ytihgakbopkaemaa
open Go.RowKit
theorem results_four {fn : Func} {t u v x : Tmp} (h : fn.results = #[.tmp t, .tmp u, .tmp v, .tmp x]) (tmps : Array Value) (P : Program) (w : World) :
    (results fn tmps).run P w = .ok (.tuple #[tmps.getD t undef, tmps.getD u undef, tmps.getD v undef, tmps.getD x undef]) w := by
  simp [results, h]
theorem one7 (a0 a1 a2 a3 a4 a5 a6 : Int) : ∀ k, k < 7 → ∃ x, (#[Value.int .i64 a0, .int .i64 a1, .int .i64 a2, .int .i64 a3, .int .i64 a4, .int .i64 a5, .int .i64 a6] : Array Value)[k]? = some (.int .i64 x) := by
  intro k hk
  match k, hk with
  | 0, _ => exact ⟨_, rfl⟩
  | 1, _ => exact ⟨_, rfl⟩
  | 2, _ => exact ⟨_, rfl⟩
  | 3, _ => exact ⟨_, rfl⟩
  | 4, _ => exact ⟨_, rfl⟩
  | 5, _ => exact ⟨_, rfl⟩
  | 6, _ => exact ⟨_, rfl⟩
theorem one5 (a0 a1 a2 a3 a4 : Int) : ∀ k, k < 5 → ∃ x, (#[Value.int .i64 a0, .int .i64 a1, .int .i64 a2, .int .i64 a3, .int .i64 a4] : Array Value)[k]? = some (.int .i64 x) := by
  intro k hk
  match k, hk with
  | 0, _ => exact ⟨_, rfl⟩
  | 1, _ => exact ⟨_, rfl⟩
  | 2, _ => exact ⟨_, rfl⟩
  | 3, _ => exact ⟨_, rfl⟩
  | 4, _ => exact ⟨_, rfl⟩
theorem someWorkersX (lo rb P : Nat) (w : World) (hs : RD w lo rb P) (hP : P ≤ 900000) :
    Calls Try.prog 93 #[.pointer (some ⟨rb, 0, none⟩)] w (OneX lo rb P w) := by
  have C1 := Lib.hid (one_newX #[.int .i64 1, .int .i64 2, .int .i64 3, .int .i64 4, .int .i64 2, .int .i64 0, .int .i64 5] 7 lo rb P w hs (by omega) (one7 _ _ _ _ _ _ _) (by omega) (by omega) rfl)
  clear hs
  go_enter Try.func93, Try.ntmps93
  go_wp2_with fail
  refine (C1.out).mono ?_
  rintro e w1 ⟨⟨x, rfl⟩, hs1, hf1⟩
  go_wp2
  go_ret
  exact ⟨⟨x, rfl⟩, hs1, hf1⟩
/-- a graph, a list and a number -/
def DrawGLN (w : World) (e : Ending) (w' : World) : Prop := (∃ A c g A2 c2 m x, e = .returned (.tuple #[.slice A (List.length g) c, .slice A2 (List.length m) c2, .int .i64 x]) ∧ RG w' w.heap.size w'.heap.size A g ∧ g.length ≤ 16 ∧ g.length ≤ c ∧ c ≤ maxLen ∧
  RI w' w.heap.size w'.heap.size A2 m ∧ m.length ≤ 100 ∧ m.length ≤ c2 ∧ c2 ≤ maxLen) ∧ Below w.heap.size w w'
theorem OI.blk {w : World} {B : Nat} {A : Option Addr} {c : Nat} {l : List Int} (h : OI w B A c l) (h0 : 0 < l.length) : ∃ b cs, A = some ⟨b, 0, none⟩ ∧ B ≤ b ∧ Blk w b 3 cs ∧ RI w B w.heap.size (some ⟨b, 0, none⟩) l := by
  have hr := h.ri
  rcases h.2 with ⟨hv, hn⟩ | ⟨b, cap, cur, hv, hb, hg, hnc, hcm, hcs, ht⟩
  · omega
  · injection hv with hA hn hc
    subst hA
    exact ⟨b, cur, rfl, hb, hg, hr⟩
theorem Blk.fx {w w' : World} {rb b : Nat} {t : TypeId} {cs : Array Value} (h : Blk w b t cs) (hf : Fx rb w w') (hne : b ≠ rb) : Blk w' b t cs := (hf.block b h.lt hne).trans h
/-- beginnings, and what they are for -/
def StX (lo rb P : Nat) (w : World) (e : Ending) (w' : World) : Prop := (∃ A2 c2 m x A3 c3 S, e = .returned (.tuple #[.slice A2 (List.length m) c2, .int .i64 x, .slice A3 (List.length S) c3]) ∧ RI w' w.heap.size w'.heap.size A2 m ∧ m.length ≤ 100 ∧ m.length ≤ c2 ∧ c2 ≤ maxLen ∧
  RI w' w.heap.size w'.heap.size A3 S ∧ S.length ≤ 100 ∧ S.length ≤ c3 ∧ c3 ≤ maxLen) ∧ RD w' lo rb P ∧ Fx rb w w'
set_option maxHeartbeats 1600000 in
theorem someStartsX (A : Option Addr) (c : Nat) (g : List Bs.T) (lo hi lor rb P : Nat) (w : World) (hs : RD w lor rb P) (hP : P ≤ 700000) (hg : RGs rb w lo hi A g) (hh : hi ≤ w.heap.size) (hg16 : g.length ≤ 16) :
    Calls Try.prog 68 #[.pointer (some ⟨rb, 0, none⟩), .slice A g.length c] w (StX lor rb (P + 20) w) := by
  have hrb := hs.lt
  have C1 := Lib.hid (someRoomX lor rb P w hs (by omega))
  have HG := Lib.hid hg
  clear hs hg
  go_enter Try.func68, Try.ntmps68
  go_wp2_with fail
  refine (C1.out).mono ?_
  rintro e w1 ⟨⟨A1, c1, m, rfl, hm, hmc, hmm, hm4⟩, hs1, hf1⟩
  have s1 := hf1.size
  have C2 := Lib.hid (someWorkersX lor rb _ w1 hs1 (by omega))
  have HF1 := Lib.hid hf1
  have HM := Lib.hid hm
  clear hm hs1 hf1 C1
  go_wp2_with fail
  refine (C2.out).mono ?_
  rintro e w2 ⟨⟨wk, rfl⟩, hs2, hf2⟩
  have s2 := hf2.size
  have HS2 := Lib.hid hs2
  have HF2 := Lib.hid (HF1.out.trans hf2)
  have HM2 := Lib.hid (HM.out.fx hf2 hrb (Nat.le_refl _))
  have C3 := Lib.hid (PlanStartsS_any A c g A1 c1 m wk lo hi w.heap.size w1.heap.size w2 ((HG.out.fx HF2.out hh).rg) (by omega) HM2.out s2 (by omega) (by omega))
  have hpl := Bs.planL_len g m wk
  clear hs2 hf2 C2 HM HG
  generalize Bs.planL g m wk = S0 at *
  go_wp2_with fail
  with_reducible refine (C3.out).mono ?_
  rintro e w3 ⟨⟨A3, c3, rfl, ho3⟩, hb3⟩
  have s3 := hb3.size
  have hcap := ho3.cap
  have HO3 := Lib.hid ho3
  have hs3 := HS2.out.after hb3
  have HF3 := Lib.hid (HF2.out.trans (Fx.of hb3))
  have HM3 := Lib.hid (HM2.out.below hb3 s2)
  have C4 := Lib.hid (pickX 3 lor rb _ w3 hs3 (by omega) (by omega))
  clear ho3 hb3 hs3 C3 HS2 HF2 HM2
  go_wp2_with fail
  refine (C4.out).mono ?_
  rintro e w4 ⟨⟨n0, rfl, hn3, _⟩, hs4, hf4⟩
  have hn3 := hn3 (by omega)
  have s4 := hf4.size
  have HS4 := Lib.hid hs4
  have HF4 := Lib.hid (HF3.out.trans hf4)
  have HM4 := Lib.hid (HM3.out.fx hf4 hrb (by omega))
  have HO4 := Lib.hid (HO3.out.fx hf4 (by omega))
  have HO3R := Lib.hid HO3.out.ri
  have hf4R := Lib.hid hf4
  have hrb2 : rb < w2.heap.size := by omega
  clear hs4 hf4 C4 HF3 HM3 HO3
  have hI4 : RI w4 w2.heap.size w3.heap.size A3 S0 := HO3R.out.fx hf4R.out (by omega) (Nat.le_refl _)
  have hBB : 0 < S0.length → ∃ b cs, A3 = some ⟨b, 0, none⟩ ∧ w2.heap.size ≤ b ∧ Blk w4 b 3 cs := by
    intro h0
    obtain ⟨b, cs, e, hb, hblk, _⟩ := HO4.out.blk h0
    exact ⟨b, cs, e, hb, hblk⟩
  have HI4 := Lib.hid hI4
  have HBB := Lib.hid hBB
  clear hI4 hBB
  obtain ⟨P1, hP1⟩ : ∃ P1, P1 = P + 7 + 1 + 1 := ⟨_, rfl⟩
  rw [← hP1] at HS4
  have hP1b : P1 ≤ 800000 := by omega
  have hP1c : P1 + 10 ≤ P + 20 := by omega
  clear hP1
  go_wp2
  go_loopw [10] (fun i wr => ∃ (n : Nat) (S : List Int), n ≤ 2 ∧ i = .int .i64 n ∧ S.length = S0.length ∧ RI wr w2.heap.size w3.heap.size A3 S ∧ RI wr w.heap.size w1.heap.size A1 m ∧ (0 < S0.length → ∃ b cs, A3 = some ⟨b, 0, none⟩ ∧ w2.heap.size ≤ b ∧ b < w4.heap.size ∧ Blk wr b 3 cs) ∧ RD wr lor rb (P1 + 2 * (2 - n)) ∧ Fx rb w wr ∧ w4.heap.size ≤ wr.heap.size) (fun i _ => (intOf i).toNat)
  case atStart => exact ⟨n0, S0, by omega, rfl, rfl, HI4.out, HM4.out, fun h0 => by
    obtain ⟨b, cs, e, hb, hblk⟩ := HBB.out h0
    exact ⟨b, cs, e, hb, hblk.lt, hblk⟩, HS4.out.more (by omega), HF4.out, Nat.le_refl _⟩
  case round =>
    obtain ⟨n, S, hn, rfl, hlen, hI, hM, hbb, hs, hf, hsz⟩ := hrel
    clear HI4 HM4 HBB HS4 HF4 HO4
    have HI := Lib.hid hI
    have HM := Lib.hid hM
    have HFr := Lib.hid hf
    have HS := Lib.hid hs
    have HLEN := Lib.hid hlen
    by_cases hn0 : n = 0
    · subst hn0
      have s4r := hf.size
      clear hI hM hbb hs hf hlen
      go_wp2
      go_ret3
      exact ⟨⟨A1, c1, m, wk, A3, c3, S, by rw [HLEN.out]; rfl, HM.out.more (Nat.le_refl _) (by omega), by omega, hmc, hmm, HI.out.more (by omega) (by omega), by have := HLEN.out; omega, by have := HLEN.out; omega, hcap.2⟩, HS.out.more (by omega), HFr.out⟩
    · have hgt : decide ((n : Int) > 0) = true := by simp; omega
      have hgt2 : decide ((0 : Int) < (n : Int)) = true := by simp; omega
      have hgt3 : decide (0 < n) = true := by simp; omega
      by_cases hS0 : S0.length = 0
      · have hg1 : decide ((S0.length : Int) > 0) = false := by simp [hS0]
        have hg2 : decide ((0 : Int) < (S0.length : Int)) = false := by simp [hS0]
        have hg3 : decide (0 < S0.length) = false := by simp [hS0]
        have s4r := hf.size
        clear hI hM hbb hs hf hlen hS0
        go_wp2
        go_ret3
        exact ⟨⟨A1, c1, m, wk, A3, c3, S, by rw [HLEN.out]; rfl, HM.out.more (Nat.le_refl _) (by omega), by omega, hmc, hmm, HI.out.more (by omega) (by omega), by have := HLEN.out; omega, by have := HLEN.out; omega, hcap.2⟩, HS.out.more (by omega), HFr.out⟩
      · have hg1 : decide ((S0.length : Int) > 0) = true := by simp; omega
        have hg2 : decide ((0 : Int) < (S0.length : Int)) = true := by simp; omega
        have hg3 : decide (0 < S0.length) = true := by simp; omega
        obtain ⟨b, cs, rfl, hb2, hb4, hblk⟩ := hbb (by omega)
        have HBLK := Lib.hid hblk
        have C5 := Lib.hid (pickX S0.length lor rb _ wr hs (by omega) (by omega))
        have s4r := hf.size
        clear hI hM hs hf hlen hblk hbb
        go_wp2_with fail
        with_reducible refine (C5.out).mono ?_
        rintro e w5 ⟨⟨k, rfl, hk, _⟩, hs5, hf5⟩
        have hk := hk (by omega)
        have s5 := hf5.size
        have HF5 := Lib.hid (HFr.out.trans hf5)
        have HI5 := Lib.hid (HI.out.fx hf5 (by omega) (by omega))
        have HM5 := Lib.hid (HM.out.fx hf5 hrb (by omega))
        have hbl5 := HBLK.out.fx hf5 (by omega)
        have HS5 := Lib.hid hs5
        clear hs5 hf5 C5 HI HM HFr HBLK HS
        obtain ⟨P5, hP5⟩ : ∃ P5, P5 = P1 + 2 * (2 - n) + 1 := ⟨_, rfl⟩
        rw [← hP5] at HS5
        have c6 : Calls Try.prog 43 #[.pointer (some ⟨rb, 0, none⟩), .slice (some ⟨w5.heap.size, 0, none⟩) 5 5] ((w5.alloc (.cells #[.int .i64 0, .int .i64 1, .int .i64 5, .int .i64 (-1), .int .i64 40] 3)).drew) (OneX lor rb P5 w5.drew) := one_newX #[.int .i64 0, .int .i64 1, .int .i64 5, .int .i64 (-1), .int .i64 40] 5 lor rb P5 w5.drew (HS5.out.drewN 1) (by omega) (one5 _ _ _ _ _) (by omega) (by omega) rfl
        have C6 := Lib.hid c6
        have hkS : k < S.length := by have := HLEN.out; omega
        obtain ⟨b', o', e', _, _, hc⟩ := HI5.out.at_ hkS
        cases e'
        rw [Nat.zero_add] at hc
        have kf := hbl5.frozen k
        have HB5 := Lib.hid hbl5
        have i0 : (0 : Int) ≤ (k : Int) := by omega
        have i1 : (k : Int) < (S0.length : Int) := by omega
        have sb1 : b < w5.heap.size := by omega
        have sb2 : ¬ b = w5.heap.size := by omega
        obtain ⟨sk, hsk⟩ : ∃ sk, sk = S[k] := ⟨_, rfl⟩
        rw [← hsk] at hc
        clear c6 hbl5 hsk
        go_wp2_with fail
        go_region_law (go_simp; (go_at_call 43; (with_reducible refine (C6.out).mono ?_); rintro e w6 ⟨⟨x, rfl⟩, hs6, hf6⟩; have s6 : w5.heap.size ≤ w6.heap.size := hf6.size; have hc6 : w6.cell? ⟨b, k, none⟩ = some (.int .i64 sk) := (hf6.cell (p := ⟨b, k, none⟩) (by exact sb1) (by show b ≠ rb; omega)).trans hc; have hbl6 : Blk w6 b 3 cs := Blk.fx (HB5.out.drewN 1) hf6 (by omega); have kf6 := hbl6.frozen k; have HB6 := Lib.hid hbl6; have HS6 := Lib.hid hs6; have HF6 := Lib.hid ((HF5.out.drewN 1).trans hf6); have HI6 := Lib.hid (RI.fx (w := w5.drew) (show RI w5.drew _ _ _ S from HI5.out) hf6 (by omega) (by show w3.heap.size ≤ w5.heap.size; omega)); have HM6 := Lib.hid (RI.fx (w := w5.drew) (show RI w5.drew _ _ _ m from HM5.out) hf6 hrb (by show w1.heap.size ≤ w5.heap.size; omega)); clear hs6 hf6 hbl6))
        all_goals
          have HRI := Lib.hid (fun v => HI6.out.set_ hkS v)
          have HBL := Lib.hid (fun v => HB6.out.set_ k v)
          have HRM := Lib.hid (fun v => HM6.out.keep (w' := w6.setCell ⟨b, k, none⟩ v) (fun p _ hp => World.cell?_setCell_far _ _ _ _ (show b ≠ p.block from by omega)))
          have HRD := Lib.hid (fun v => HS6.out.setNew (p := ⟨b, k, none⟩) (show rb < b from by omega) v)
          have HRF := Lib.hid (fun v => HF6.out.setNew (p := ⟨b, k, none⟩) (show w.heap.size ≤ b from by omega) v)
          clear hc hc6 kf kf6 C6 HI5 HM5 HI6 HM6 HB5 HB6 HS5 HS6 HF5 HF6
          go_wp2
          go_roundw
          case rel => exact ⟨n - 1, S.set k _, by omega, by go_num, by rw [List.length_set]; exact HLEN.out, HRI.out _, HRM.out _, fun _ => ⟨b, _, rfl, hb2, hb4, HBL.out _⟩, (HRD.out _).more (by omega), HRF.out _, by simp [World.setCell]; omega⟩
          case measure => simp [intOf]; omega
/-- a graph, a list, a number and a list -/
def DrawGLNL (w : World) (e : Ending) (w' : World) : Prop := (∃ A c g A2 c2 m x A3 c3 S, e = .returned (.tuple #[.slice A (List.length g) c, .slice A2 (List.length m) c2, .int .i64 x, .slice A3 (List.length S) c3]) ∧ RG w' w.heap.size w'.heap.size A g ∧ g.length ≤ 16 ∧ g.length ≤ c ∧ c ≤ maxLen ∧
  RI w' w.heap.size w'.heap.size A2 m ∧ m.length ≤ 100 ∧ m.length ≤ c2 ∧ c2 ≤ maxLen ∧ RI w' w.heap.size w'.heap.size A3 S ∧ S.length ≤ 100 ∧ S.length ≤ c3 ∧ c3 ≤ maxLen) ∧ Below w.heap.size w w'
theorem DrawValidStarts_any (A : Option Addr) (c : Nat) (l : List Int) (w : World) (hb : RB w 0 w.heap.size A l) (hl : l.length ≤ c) (hc : c ≤ maxLen) :
    Calls Try.prog 33 #[.slice A l.length c] w (DrawGLNL w) := by
  have C1 := Lib.hid (newReader_any A c l w hb hl hc)
  clear hb
  go_enter Try.func33, Try.ntmps33
  go_wp2_with fail
  refine (C1.out).mono ?_
  rintro e w1 ⟨rb, rfl, hs1, hf1⟩
  have hrlo := hs1.rd.1
  have C2 := Lib.hid (anyGraph_any w.heap.size rb 0 w1 hs1 (by omega))
  have HF := Lib.hid hf1
  clear hs1 hf1 C1
  go_wp2_with fail
  refine (C2.out).mono ?_
  rintro e w2 hG
  obtain ⟨A2, c2, g, rfl, hg, hg16, hgc, hcm, hrd, hf2⟩ := hG.open_
  have hrb := hrd.lt
  have s2 := hf2.1.size
  have HG := Lib.hid hg
  have HF2 := Lib.hid (HF.out.1.trans hf2.1)
  have HRD := Lib.hid hrd
  have s0 := HF2.out.size
  clear hG hg hrd hf2 C2
  have C3 := Lib.hid (someStartsX A2 c2 g _ _ w.heap.size rb _ w2 HRD.out (by omega) HG.out (Nat.le_refl _) hg16)
  go_wp2_with fail
  refine (C3.out).mono ?_
  rintro e w3 ⟨⟨A3, c3, m, x, A4, c4, S, rfl, hm, hm100, hmc, hmm, hS, hS100, hSc, hSm⟩, hs3, hf3⟩
  have s3 := hf3.size
  have HG4 := Lib.hid ((HG.out.fx hf3 (Nat.le_refl _)).rg.more (hi' := w3.heap.size) (Nat.le_refl _) (by omega))
  have HM4 := Lib.hid (hm.more s0 (Nat.le_refl _))
  have HS4 := Lib.hid (hS.more s0 (Nat.le_refl _))
  have HB4 := Lib.hid (HF2.out.trans (hf3.below hrlo hrb))
  clear hs3 hf3 hm hS C3 HG HRD HF
  go_wp2
  refine bodyPost_ret (results_four rfl _ _ _) rfl ?_
  exact ⟨⟨A2, c2, g, A3, c3, m, x, A4, c4, S, rfl, HG4.out, hg16, hgc, hcm, HM4.out, hm100, hmc, hmm, HS4.out, hS100, hSc, hSm⟩, HB4.out⟩
/-- a graph, a list, a number, a list and a number -/
def DrawGLNLN (w : World) (e : Ending) (w' : World) : Prop := (∃ A c g A2 c2 m x A3 c3 S y, e = .returned (.tuple #[.slice A (List.length g) c, .slice A2 (List.length m) c2, .int .i64 x, .slice A3 (List.length S) c3, .int .i64 y]) ∧ RG w' w.heap.size w'.heap.size A g ∧ g.length ≤ 16 ∧ g.length ≤ c ∧ c ≤ maxLen ∧
  RI w' w.heap.size w'.heap.size A2 m ∧ m.length ≤ 100 ∧ m.length ≤ c2 ∧ c2 ≤ maxLen ∧ RI w' w.heap.size w'.heap.size A3 S ∧ S.length ≤ 100 ∧ S.length ≤ c3 ∧ c3 ≤ maxLen) ∧ Below w.heap.size w w'
theorem RG.ne {w w' : World} {lo hi rb : Nat} {A : Option Addr} {g : List Bs.T} (h : RG w lo hi A g) (hf : Fx rb w w') (hlo : rb < lo) (hh : hi ≤ w.heap.size) : RG w' lo hi A g :=
  h.keep fun p h1 h2 => hf.cell (by omega) (by omega)
theorem DrawRunningAt_any (A : Option Addr) (c : Nat) (l : List Int) (w : World) (hb : RB w 0 w.heap.size A l) (hl : l.length ≤ c) (hc : c ≤ maxLen) :
    Calls Try.prog 21 #[.slice A l.length c] w (DrawGLNLN w) := by
  have C1 := Lib.hid (newReader_any A c l w hb hl hc)
  have HRB := Lib.hid hb
  clear hb
  go_enter Try.func21, Try.ntmps21
  go_wp2_with fail
  refine (C1.out).mono ?_
  rintro e w1 ⟨rb, rfl, hs1, hf1⟩
  have hrd := hs1.rd
  have hrlo := hrd.1
  have hrb := hrd.lt
  have s1 := hf1.1.size
  have hRB0 : RB w1 0 w.heap.size A l := HRB.out.below hf1.1 (Nat.le_refl _)
  have hRB1 : RB w1 0 w1.heap.size A l := by
    intro k hk
    obtain ⟨b, o, e, h1, h2, hc⟩ := hRB0 k hk
    exact ⟨b, o, e, h1, by omega, hc⟩
  have C2 := Lib.hid (DrawValidStarts_any A c l w1 hRB1 hl hc)
  have HRD := Lib.hid hrd
  have HF1 := Lib.hid hf1.1
  clear hs1 hf1 hRB0 hRB1 hrd C1 HRB
  go_wp2_with fail
  with_reducible refine (C2.out).mono ?_
  rintro e w4 ⟨⟨A2, c2, g, A3, c3, m, x, A4, c4, S, rfl, hg, hg16, hgc, hcm, hm, hm100, hmc, hmm, hS, hS100, hSc, hSm⟩, hb4⟩
  have s4 := hb4.size
  have C3 := Lib.hid (one_newX #[.int .i64 0, .int .i64 1, .int .i64 5, .int .i64 10, .int .i64 20, .int .i64 (-1), .int .i64 300] 7 w.heap.size rb 0 w4 (HRD.out.after hb4) (by omega) (one7 _ _ _ _ _ _ _) (by omega) (by omega) rfl)
  have HG := Lib.hid hg
  have HM := Lib.hid hm
  have HS := Lib.hid hS
  have HB4 := Lib.hid (HF1.out.trans (hb4.mono s1))
  clear hg hm hS hb4 C2
  go_wp2_with fail
  refine (C3.out).mono ?_
  rintro e w5 ⟨⟨y, rfl⟩, hs5, hf5⟩
  have s5 := hf5.size
  have HG4 := Lib.hid ((HG.out.ne hf5 hrb (Nat.le_refl _)).more s1 s5)
  have HM4 := Lib.hid ((HM.out.fx hf5 hrb (Nat.le_refl _)).more s1 s5)
  have HS4 := Lib.hid ((HS.out.fx hf5 hrb (Nat.le_refl _)).more s1 s5)
  have HB5 := Lib.hid (HB4.out.trans (hf5.below hrlo (by omega)))
  clear hs5 hf5 C3 HG HM HS HB4 HRD HF1
  go_wp2
  go_ret5
  exact ⟨⟨A2, c2, g, A3, c3, m, x, A4, c4, S, y, rfl, HG4.out, hg16, hgc, hcm, HM4.out, hm100, hmc, hmm, HS4.out, hS100, hSc, hSm⟩, HB5.out⟩
end Go.Proofs.Ytihgakbopkaemaa
