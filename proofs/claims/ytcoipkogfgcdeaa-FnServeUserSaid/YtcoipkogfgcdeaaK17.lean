/-
  MERGED TEXTS: X5 X6 X7 X8.
-/
import Derived.Test.YtcoipkogfgcdeaaK22
import Derived.OwnWalk
import Derived.Test.YtcoipkogfgcdeaaMem4
import Derived.Test.YtcoipkogfgcdeaaCp
import Derived.Test.YtcoipkogfgcdeaaK4
import Derived.Deep.RegionHeld
import Derived.Test.YtcoipkogfgcdeaaK15
namespace Go.Proofs.Ytcoipkogfgcdeaa
open Go.RowKit
set_option maxHeartbeats 1600000 in
theorem someSetX (A : Option Addr) (c n lo rb P : Nat) (w : World) (hs : RD w lo rb P) (hP : P ≤ 800000) (hn : n ≤ 16) :
    Calls Try.prog 54 #[.pointer (some ⟨rb, 0, none⟩), .slice A n c] w (SpX lo rb (P + 30) 100 w) := by
  have hrb := hs.lt
  have hal := Below.alloc (Below.refl w.heap.size w) (Nat.le_refl _) (.cells #[] 3)
  have HF0 := Lib.hid (Fx.of (rb := rb) hal)
  have HS0 := Lib.hid (hs.after hal)
  clear hs hal
  go_enter Try.func54, Try.ntmps54
  go_wp2
  go_loopw [5, 6] (fun v i wr => ∃ (k : Nat) (A1 : Option Addr) (c1 : Nat) (l : List Int), i = .int .i64 (k : Int) ∧ v = .slice A1 l.length c1 ∧ k ≤ n ∧ l.length ≤ k ∧ OI wr w.heap.size A1 c1 l ∧ RD wr lo rb (P + k) ∧ Fx rb w wr) (fun _ i _ => n - (intOf i).toNat)
  case atStart => exact ⟨0, _, _, [], rfl, rfl, Nat.zero_le _, Nat.zero_le _, OI.new _ _ (Nat.le_refl _), HS0.out, HF0.out⟩
  case round =>
    obtain ⟨k, A1, c1, l, rfl, rfl, hk, hlk, ho, hs, hf⟩ := hrel
    have sr := hf.size
    have HO := Lib.hid ho
    have HS := Lib.hid hs
    have HF := Lib.hid hf
    clear ho hs hf HS0 HF0
    by_cases hlt : k < n
    · have C1 := Lib.hid (pickX 3 lo rb (P + k) wr HS.out (by omega) (by omega))
      have d1 : decide ((k : Int) < (n : Int)) = true := by simp; omega
      go_wp2_with fail
      refine (C1.out).mono ?_
      rintro e w1 ⟨⟨q, rfl, _, _⟩, hs1, hf1⟩
      have s1 := hf1.size
      have HS1 := Lib.hid hs1
      have HF1 := Lib.hid (HF.out.trans hf1)
      have HO1 := Lib.hid (HO.out.fx hf1 hrb)
      clear hs1 hf1 C1 HO HS HF
      by_cases hq : q = 0
      · subst hq
        go_wp2_with (at_builtin; go_loud (refine push_int rfl _ _ rfl w.heap.size A1 c1 l (k : Int) rfl (HO1.out.alloc _) w1.heap.size 1 rfl (by simp [go_sem]) (by omega) (by simp; omega) ?_; intro A3 c3 w3 ho3 hb3 _; have HB3 := Lib.hid hb3; have HO3 := Lib.hid ho3; clear hb3 ho3))
        have HS3 := Lib.hid ((HS1.out.after (Below.alloc (Below.refl _ _) (Nat.le_refl _) (.cells #[.int .i64 (k : Int)] 3))).below HB3.out hrb)
        have HF3 := Lib.hid ((HF1.out.alloc (.cells #[.int .i64 (k : Int)] 3)).then_ HB3.out)
        go_wp2
        go_roundw
        case rel => exact ⟨k + 1, A3, c3, l ++ [(k : Int)], by go_num, by simp, by omega, by simp; omega, HO3.out, HS3.out.more (by omega), HF3.out⟩
        case measure => simp [intOf]; omega
      · have hq' : ((q : Int) == 0) = false := by rw [beq_eq_false_iff_ne]; omega
        go_wp2
        go_roundw
        case rel => exact ⟨k + 1, A1, c1, l, by go_num, rfl, by omega, by omega, HO1.out, HS1.out.more (by omega), HF1.out⟩
        case measure => simp [intOf]; omega
    · have d1 : decide ((k : Int) < (n : Int)) = false := by simp; omega
      have C2 := Lib.hid (spoilX A1 c1 l lo rb (P + k) w.heap.size wr.heap.size 8 wr HS.out (by omega) HO.out.ri (Nat.le_refl _) (by omega))
      go_wp2_with fail
      refine (C2.out).mono ?_
      rintro e w2 ⟨⟨A2, c2, l2, rfl, hl, hlc, hcm, hlm⟩, hs2, hf2⟩
      have HL := Lib.hid (hl.more sr (Nat.le_refl _))
      have HS2 := Lib.hid (hs2.more (P' := P + 30) (by omega))
      have HF2 := Lib.hid (HF.out.trans hf2)
      clear hl hs2 hf2 C2
      go_wp2
      go_ret
      exact ⟨⟨A2, c2, l2, rfl, HL.out, hlc, hcm, by omega⟩, HS2.out, HF2.out⟩
/-- what a draw of a graph and a list hands back -/
def DrawGD (w : World) (e : Ending) (w' : World) : Prop := (∃ A c g A2 c2 l, e = .returned (.tuple #[.slice A (List.length g) c, .slice A2 (List.length l) c2]) ∧ RG w' w.heap.size w'.heap.size A g ∧ g.length ≤ 16 ∧ g.length ≤ c ∧ c ≤ maxLen ∧
  RI w' w.heap.size w'.heap.size A2 l ∧ l.length ≤ 100 ∧ l.length ≤ c2 ∧ c2 ≤ maxLen) ∧ Below w.heap.size w w'
end Go.Proofs.Ytcoipkogfgcdeaa
namespace Go.Proofs.Ytcoipkogfgcdeaa
open Go.RowKit
/-- a graph, a list and a number -/
def DrawGDA (w : World) (e : Ending) (w' : World) : Prop := (∃ A c g A2 c2 l x, e = .returned (.tuple #[.slice A (List.length g) c, .slice A2 (List.length l) c2, .int .i64 x]) ∧ RG w' w.heap.size w'.heap.size A g ∧ g.length ≤ 16 ∧ g.length ≤ c ∧ c ≤ maxLen ∧
  RI w' w.heap.size w'.heap.size A2 l ∧ l.length ≤ 100 ∧ l.length ≤ c2 ∧ c2 ≤ maxLen) ∧ Below w.heap.size w w'
/-- a list -/
def DrawL (w : World) (e : Ending) (w' : World) : Prop := (∃ A2 c2 l, e = .returned (.slice A2 (List.length l) c2) ∧ RI w' w.heap.size w'.heap.size A2 l ∧ l.length ≤ 100 ∧ l.length ≤ c2 ∧ c2 ≤ maxLen) ∧ Below w.heap.size w w'
/-- a graph and two lists -/
def DrawGLL (w : World) (e : Ending) (w' : World) : Prop := (∃ A c g A2 c2 l A3 c3 m, e = .returned (.tuple #[.slice A (List.length g) c, .slice A2 (List.length l) c2, .slice A3 (List.length m) c3]) ∧ RG w' w.heap.size w'.heap.size A g ∧ g.length ≤ 16 ∧ g.length ≤ c ∧ c ≤ maxLen ∧
  RI w' w.heap.size w'.heap.size A2 l ∧ l.length ≤ 100 ∧ l.length ≤ c2 ∧ c2 ≤ maxLen ∧ RI w' w.heap.size w'.heap.size A3 m ∧ m.length ≤ 100 ∧ m.length ≤ c3 ∧ c3 ≤ maxLen) ∧ Below w.heap.size w w'
/-- a graph and two numbers -/
def DrawGNN (w : World) (e : Ending) (w' : World) : Prop := (∃ A c g x y, e = .returned (.tuple #[.slice A (List.length g) c, .int .i64 x, .int .i64 y]) ∧ RG w' w.heap.size w'.heap.size A g ∧ g.length ≤ 16 ∧ g.length ≤ c ∧ c ≤ maxLen) ∧ Below w.heap.size w w'
end Go.Proofs.Ytcoipkogfgcdeaa
namespace Go.Proofs.Ytcoipkogfgcdeaa
open Go.RowKit
theorem results_five {fn : Func} {t u v x y : Tmp} (h : fn.results = #[.tmp t, .tmp u, .tmp v, .tmp x, .tmp y]) (tmps : Array Value) (P : Program) (w : World) :
    (results fn tmps).run P w = .ok (.tuple #[tmps.getD t undef, tmps.getD u undef, tmps.getD v undef, tmps.getD x undef, tmps.getD y undef]) w := by
  simp [results, h]
macro "go_ret5" : tactic => `(tactic| ((try simp only [Exit.inBlock, Exit.then]); refine bodyPost_ret (results_five rfl _ _ _) rfl ?_))
theorem RI.set_ {w : World} {lo hi b : Nat} {l : List Int} (h : RI w lo hi (some ⟨b, 0, none⟩) l) {k : Nat} (hk : k < l.length) (x : Int) : RI (w.setCell ⟨b, k, none⟩ (.int .i64 x)) lo hi (some ⟨b, 0, none⟩) (l.set k x) := by
  intro j hj
  rw [List.length_set] at hj
  obtain ⟨b', o', e, h1, h2, hcj⟩ := h j hj
  cases e
  rw [Nat.zero_add] at hcj
  refine ⟨b, 0, rfl, h1, h2, ?_⟩
  rw [Nat.zero_add]
  by_cases e : j = k
  · subst e
    rw [World.cell?_setCell_same _ _ _ hcj]
    simp
  · rw [World.cell?_setCell_other _ _ _ _ (fun e2 => e (by cases e2; rfl)), hcj]
    simp [List.getElem_set_ne (Ne.symm e)]
/-- a graph, three lists and a number -/
def DrawG3 (w : World) (e : Ending) (w' : World) : Prop := (∃ A c g A2 c2 m A3 c3 r A4 c4 l x, e = .returned (.tuple #[.slice A (List.length g) c, .slice A2 (List.length m) c2, .slice A3 (List.length r) c3, .slice A4 (List.length l) c4, .int .i64 x]) ∧ RG w' w.heap.size w'.heap.size A g ∧ g.length ≤ 16 ∧ g.length ≤ c ∧ c ≤ maxLen ∧
  RI w' w.heap.size w'.heap.size A2 m ∧ m.length ≤ 100 ∧ m.length ≤ c2 ∧ c2 ≤ maxLen ∧ RI w' w.heap.size w'.heap.size A3 r ∧ r.length ≤ 100 ∧ r.length ≤ c3 ∧ c3 ≤ maxLen ∧ RI w' w.heap.size w'.heap.size A4 l ∧ l.length ≤ 100 ∧ l.length ≤ c4 ∧ c4 ≤ maxLen) ∧ Below w.heap.size w w'
end Go.Proofs.Ytcoipkogfgcdeaa
namespace Go.Proofs.Ytcoipkogfgcdeaa
open Go.RowKit
theorem results_four {fn : Func} {t u v x : Tmp} (h : fn.results = #[.tmp t, .tmp u, .tmp v, .tmp x]) (tmps : Array Value) (P : Program) (w : World) :
    (results fn tmps).run P w = .ok (.tuple #[tmps.getD t undef, tmps.getD u undef, tmps.getD v undef, tmps.getD x undef]) w := by
  simp [results, h]
theorem one7 (a0 a1 a2 a3 a4 a5 a6 : Int) : ∀ k, k < 7 → ∃ x, (#[Value.int .i64 a0, .int .i64 a1, .int .i64 a2, .int .i64 a3, .int .i64 a4, .int .i64 a5, .int .i64 a6] : Array Value)[k]? = some (.int .i64 x) := by
  intro k hk
  match k, hk with
  | 0, _ => exact ⟨_, rfl⟩
  | 1, _ => exact ⟨_, rfl⟩
  | 2, _ => exact ⟨_, rfl⟩
  | 3, _ => exact ⟨_, rfl⟩
  | 4, _ => exact ⟨_, rfl⟩
  | 5, _ => exact ⟨_, rfl⟩
  | 6, _ => exact ⟨_, rfl⟩
theorem one5 (a0 a1 a2 a3 a4 : Int) : ∀ k, k < 5 → ∃ x, (#[Value.int .i64 a0, .int .i64 a1, .int .i64 a2, .int .i64 a3, .int .i64 a4] : Array Value)[k]? = some (.int .i64 x) := by
  intro k hk
  match k, hk with
  | 0, _ => exact ⟨_, rfl⟩
  | 1, _ => exact ⟨_, rfl⟩
  | 2, _ => exact ⟨_, rfl⟩
  | 3, _ => exact ⟨_, rfl⟩
  | 4, _ => exact ⟨_, rfl⟩
/-- a graph, a list and a number -/
def DrawGLN (w : World) (e : Ending) (w' : World) : Prop := (∃ A c g A2 c2 m x, e = .returned (.tuple #[.slice A (List.length g) c, .slice A2 (List.length m) c2, .int .i64 x]) ∧ RG w' w.heap.size w'.heap.size A g ∧ g.length ≤ 16 ∧ g.length ≤ c ∧ c ≤ maxLen ∧
  RI w' w.heap.size w'.heap.size A2 m ∧ m.length ≤ 100 ∧ m.length ≤ c2 ∧ c2 ≤ maxLen) ∧ Below w.heap.size w w'
theorem OI.blk {w : World} {B : Nat} {A : Option Addr} {c : Nat} {l : List Int} (h : OI w B A c l) (h0 : 0 < l.length) : ∃ b cs, A = some ⟨b, 0, none⟩ ∧ B ≤ b ∧ Blk w b 3 cs ∧ RI w B w.heap.size (some ⟨b, 0, none⟩) l := by
  have hr := h.ri
  rcases h.2 with ⟨hv, hn⟩ | ⟨b, cap, cur, hv, hb, hg, hnc, hcm, hcs, ht⟩
  · omega
  · injection hv with hA hn hc
    subst hA
    exact ⟨b, cur, rfl, hb, hg, hr⟩
theorem Blk.fx {w w' : World} {rb b : Nat} {t : TypeId} {cs : Array Value} (h : Blk w b t cs) (hf : Fx rb w w') (hne : b ≠ rb) : Blk w' b t cs := (hf.block b h.lt hne).trans h
/-- beginnings, and what they are for -/
def StX (lo rb P : Nat) (w : World) (e : Ending) (w' : World) : Prop := (∃ A2 c2 m x A3 c3 S, e = .returned (.tuple #[.slice A2 (List.length m) c2, .int .i64 x, .slice A3 (List.length S) c3]) ∧ RI w' w.heap.size w'.heap.size A2 m ∧ m.length ≤ 100 ∧ m.length ≤ c2 ∧ c2 ≤ maxLen ∧
  RI w' w.heap.size w'.heap.size A3 S ∧ S.length ≤ 100 ∧ S.length ≤ c3 ∧ c3 ≤ maxLen) ∧ RD w' lo rb P ∧ Fx rb w w'
/-- a graph, a list, a number and a list -/
def DrawGLNL (w : World) (e : Ending) (w' : World) : Prop := (∃ A c g A2 c2 m x A3 c3 S, e = .returned (.tuple #[.slice A (List.length g) c, .slice A2 (List.length m) c2, .int .i64 x, .slice A3 (List.length S) c3]) ∧ RG w' w.heap.size w'.heap.size A g ∧ g.length ≤ 16 ∧ g.length ≤ c ∧ c ≤ maxLen ∧
  RI w' w.heap.size w'.heap.size A2 m ∧ m.length ≤ 100 ∧ m.length ≤ c2 ∧ c2 ≤ maxLen ∧ RI w' w.heap.size w'.heap.size A3 S ∧ S.length ≤ 100 ∧ S.length ≤ c3 ∧ c3 ≤ maxLen) ∧ Below w.heap.size w w'
/-- a graph, a list, a number, a list and a number -/
def DrawGLNLN (w : World) (e : Ending) (w' : World) : Prop := (∃ A c g A2 c2 m x A3 c3 S y, e = .returned (.tuple #[.slice A (List.length g) c, .slice A2 (List.length m) c2, .int .i64 x, .slice A3 (List.length S) c3, .int .i64 y]) ∧ RG w' w.heap.size w'.heap.size A g ∧ g.length ≤ 16 ∧ g.length ≤ c ∧ c ≤ maxLen ∧
  RI w' w.heap.size w'.heap.size A2 m ∧ m.length ≤ 100 ∧ m.length ≤ c2 ∧ c2 ≤ maxLen ∧ RI w' w.heap.size w'.heap.size A3 S ∧ S.length ≤ 100 ∧ S.length ≤ c3 ∧ c3 ≤ maxLen) ∧ Below w.heap.size w w'
theorem RG.ne {w w' : World} {lo hi rb : Nat} {A : Option Addr} {g : List Bs.T} (h : RG w lo hi A g) (hf : Fx rb w w') (hlo : rb < lo) (hh : hi ≤ w.heap.size) : RG w' lo hi A g :=
  h.keep fun p h1 h2 => hf.cell (by omega) (by omega)
end Go.Proofs.Ytcoipkogfgcdeaa
