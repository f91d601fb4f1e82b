/-
  WALKS: the queue of ends, of the program: without its first.
-/
import Derived.Test.YtfholjgndpefdaaW42
import Derived.Test.YtfholjgndpefdaaK14
namespace Go.Proofs.Ytfholjgndpefdaa
open Go.RowKit
/-- a queue of ends in memory: its cells lie as those of a heap -/
def QB (w : World) (b : Nat) (f : Nat → Int × Int) (n : Int) : Prop := Blk w b 78 (hpA f n)
theorem QB.n {w : World} {b : Nat} {f : Nat → Int × Int} {n : Int} (h : QB w b f n) : w.cell? ⟨b, 16, none⟩ = some (.int .i64 n) := (Blk.cell h 16).trans rfl
theorem QB.fst {w : World} {b : Nat} {f : Nat → Int × Int} {n : Int} (h : QB w b f n) {i : Nat} (hi : i < 8) : w.cell? ⟨b, i * 2, none⟩ = some (.int .i64 (f i).1) := (Blk.cell h _).trans (hpA_at f n hi).1
theorem QB.snd {w : World} {b : Nat} {f : Nat → Int × Int} {n : Int} (h : QB w b f n) {i : Nat} (hi : i < 8) : w.cell? ⟨b, i * 2 + 1, none⟩ = some (.int .i64 (f i).2) := (Blk.cell h _).trans (hpA_at f n hi).2
theorem QB.frozen {w : World} {b : Nat} {f : Nat → Int × Int} {n : Int} (h : QB w b f n) (i : Nat) : w.frozen? ⟨b, i, none⟩ = false := Blk.frozen h i
theorem QB.setN {w : World} {b : Nat} {f : Nat → Int × Int} {n : Int} (h : QB w b f n) (m : Int) : QB (w.setCell ⟨b, 16, none⟩ (.int .i64 m)) b f m := by
  unfold QB
  rw [← hpA_size_set f n m]
  exact Blk.set_ h 16 _
theorem QB.setP {w : World} {b : Nat} {f : Nat → Int × Int} {n : Int} (h : QB w b f n) {i : Nat} (hi : i < 8) (x : Int × Int) : QB ((w.setCell ⟨b, i * 2, none⟩ (.int .i64 x.1)).setCell ⟨b, i * 2 + 1, none⟩ (.int .i64 x.2)) b (Bs.upd f i x) n := by
  unfold QB
  rw [← hpA_set f n hi x]
  exact Blk.set_ (Blk.set_ h _ _) _ _
theorem QB.below {w w' : World} {b B : Nat} {f : Nat → Int × Int} {n : Int} (h : QB w b f n) (hb : Below B w w') (hg : b < B) : QB w' b f n := Blk.below h hb hg
theorem QB.lt {w : World} {b : Nat} {f : Nat → Int × Int} {n : Int} (h : QB w b f n) : b < w.heap.size := Blk.lt h
theorem QB.far {w : World} {b : Nat} {f : Nat → Int × Int} {n : Int} (h : QB w b f n) {p : Addr} (hp : b ≠ p.block) (u : Value) : QB (w.setCell p u) b f n := Blk.far h hp u
theorem QB.alloc {w : World} {b : Nat} {f : Nat → Int × Int} {n : Int} (h : QB w b f n) (o : Obj) : QB (w.alloc o) b f n := Blk.alloc h o
theorem QB.new (w : World) (f : Nat → Int × Int) (n : Int) : QB (w.alloc (.cells (hpA f n) 78)) w.heap.size f n := Blk.new w _ _
theorem qSize : (Try.prog.info? 78).map (·.size) = some 17 := by kernel_rfl
theorem qOne (f : Nat → Int × Int) (n : Int) : (hpA f n).all (·.oneCell') = true := by simp [hpA, Value.oneCell']
theorem q_load {ops : Array Oper} {rest : List Oper} {op : Oper} {c : Act} {w : World} {Q : Exit → Act → World → Prop} (hgd : op.guard = none) (x : Operand) (ho : op.op = .load 78 x)
    (a : Nat) (f : Nat → Int × Int) (n : Int) (hx : c.eval x = .pointer (some ⟨a, 0, none⟩)) (hb : QB w a f n) (h : wpList Try.prog ops Q rest (c.put op.dst (.agg (hpA f n))) w) : wpList Try.prog ops Q (op :: rest) c w :=
  wpList_load_row hgd 78 x ho a hx 78 (hpA f n) (0, 0) _ hb Try.underlying78 rfl qSize h
theorem qRow_only (w : World) (a : Nat) (f f' : Nat → Int × Int) (n n' : Int) (hb : QB w a f n) : QB (w.setRow a (hpA f' n')) a f' n' ∧ OnlyB a w (w.setRow a (hpA f' n')) := by
  refine ⟨setRow_heap w a _ _ _ _ hb, rfl, rfl, rfl, by simp, fun k hk => setRow_other w a k _ hk⟩
theorem q_store {ops : Array Oper} {rest : List Oper} {op : Oper} {c : Act} {w : World} {Q : Exit → Act → World → Prop} (hgd : op.guard = none) (x y : Operand) (ho : op.op = .store 78 x y)
    (a : Nat) (f f' : Nat → Int × Int) (n n' : Int) (hx : c.eval x = .pointer (some ⟨a, 0, none⟩)) (hy : c.eval y = .agg (hpA f' n')) (hb : QB w a f n)
    (h : ∀ w', QB w' a f' n' → OnlyB a w w' → wpList Try.prog ops Q rest (c.put op.dst undef) w') : wpList Try.prog ops Q (op :: rest) c w :=
  wpList_store_row hgd 78 x y ho a (hpA f' n') hx hy 78 (hpA f n) hb qSize rfl (qOne _ _) (h _ (qRow_only w a f f' n n' hb).1 (qRow_only w a f f' n n' hb).2)
theorem q_ret {fn : Func} {p : Tmp} (h : fn.results = #[.cell p 78]) (tmps : Array Value) (w : World) (a : Nat) (f : Nat → Int × Int) (n : Int) (hp : tmps.getD p undef = .pointer (some ⟨a, 0, none⟩)) (hg : QB w a f n) :
    (results fn tmps).run Try.prog w = .ok (.agg (hpA f n)) w :=
  results_cell_row h tmps w a 78 _ (0, 0) _ hp hg Try.underlying78 rfl qSize
def zP : Nat → Int × Int := fun _ => (0, 0)
/-- the first p places moved on by one -/
def Bs.shF (f : Nat → Int × Int) (p : Nat) : Nat → Int × Int := fun i => if i < p then f (i + 1) else f i
theorem Bs.shF_zero (f : Nat → Int × Int) : Bs.shF f 0 = f := by funext i; unfold Bs.shF; rw [if_neg (by omega)]
theorem Bs.shF_at (f : Nat → Int × Int) {p i : Nat} (h : p ≤ i) : Bs.shF f p i = f i := by unfold Bs.shF; rw [if_neg (by omega)]
theorem Bs.shF_succ (f : Nat → Int × Int) (p : Nat) : Bs.upd (Bs.shF f p) p (f (p + 1)) = Bs.shF f (p + 1) := by
  funext i
  unfold Bs.upd Bs.shF
  by_cases e : i = p
  · subst e; rw [if_pos rfl, if_pos (by omega)]
  · rw [if_neg e]
    by_cases h : i < p
    · rw [if_pos h, if_pos (by omega)]
    · rw [if_neg h, if_neg (by omega)]
set_option maxRecDepth 20000 in
set_option maxHeartbeats 1600000 in
theorem qWithoutFirst_any (f : Nat → Int × Int) (n : Nat) (hn : n < 8) (w : World) :
    Calls Try.prog 102 #[.agg (hpA f ((n : Int) + 1))] w fun e w' => e = .returned (.agg (hpA (Bs.shF f n) n)) ∧ Below w.heap.size w w' := by
  obtain ⟨PA, hPA⟩ : ∃ PA, PA = hpA f ((n : Int) + 1) := ⟨_, rfl⟩
  obtain ⟨PB, hPB⟩ : ∃ PB, PB = hpA f (n : Int) := ⟨_, rfl⟩
  have hset : PA.setIfInBounds 16 (.int .i64 (n : Int)) = PB := by rw [hPA, hPB]; exact hpA_size_set _ _ _
  have e16 : PA[16]? = some (.int .i64 ((n : Int) + 1)) := by rw [hPA]; exact hpA_n _ _
  have p1 := QB.new w f (n : Int)
  rw [← hPB] at p1
  have hz : (.cells (hpA zP 0) 78 : Obj) = .cells #[.int .i64 0, .int .i64 0, .int .i64 0, .int .i64 0, .int .i64 0, .int .i64 0, .int .i64 0, .int .i64 0, .int .i64 0, .int .i64 0, .int .i64 0, .int .i64 0, .int .i64 0, .int .i64 0, .int .i64 0, .int .i64 0, .int .i64 0] 78 := rfl
  have p2 := QB.new (w.alloc (.cells PB 78)) zP 0
  have p1' := p1.alloc (.cells (hpA zP 0) 78)
  have hbl := ((Below.refl w.heap.size w).alloc (Nat.le_refl _) (.cells PB 78)).alloc (by simp) (.cells (hpA zP 0) 78)
  simp only [World.size_alloc] at p2
  rw [hz] at p2 p1' hbl
  have HP := Lib.hid p1'
  have HZ := Lib.hid p2
  have HB := Lib.hid hbl
  rw [← hPA]
  clear p1 p2 p1' hbl hz hPA hPB
  have hw : IntKind.i64.wrap (n : Int) = (n : Int) := IntWalk.i64_in _ ⟨by omega, by omega⟩
  go_enter Try.func102, Try.ntmps102
  go_wp2_with fail
  go_loopw [3] (fun i wr => ∃ (p : Nat), p ≤ n ∧ i = .int .i64 p ∧ QB wr w.heap.size (Bs.shF f p) n ∧ QB wr (w.heap.size + 1) zP 0 ∧ Below w.heap.size w wr) (fun i _ => n - (intOf i).toNat)
  case atStart => exact ⟨0, Nat.zero_le _, rfl, by rw [Bs.shF_zero]; exact HP.out, HZ.out, HB.out⟩
  case round =>
    obtain ⟨p, hp, rfl, hq, hz, hb⟩ := hrel
    clear HP HZ HB
    have k16 := hq.n
    by_cases hlt : p < n
    · have c0 := hq.fst (i := p + 1) (by omega)
      have c1 := hq.snd (i := p + 1) (by omega)
      rw [Bs.shF_at f (by omega)] at c0 c1
      have d0 := hq.fst (i := p) (by omega)
      have d1 := hq.snd (i := p) (by omega)
      have g0 := hq.frozen (p * 2)
      have g1 := hq.frozen (p * 2 + 1)
      have hs := hq.setP (i := p) (by omega) (f (p + 1))
      rw [Bs.shF_succ] at hs
      have HS := Lib.hid hs
      have HZ := Lib.hid ((hz.far (p := ⟨w.heap.size, p * 2, none⟩) (by simp) (.int .i64 (f (p + 1)).1)).far (p := ⟨w.heap.size, p * 2 + 1, none⟩) (by simp) (.int .i64 (f (p + 1)).2))
      have HB := Lib.hid ((hb.setCell (p := ⟨w.heap.size, p * 2, none⟩) (Nat.le_refl _) (.int .i64 (f (p + 1)).1)).setCell (p := ⟨w.heap.size, p * 2 + 1, none⟩) (Nat.le_refl _) (.int .i64 (f (p + 1)).2))
      have i0 : (0 : Int) ≤ (p : Int) := by omega
      have i1 : (p : Int) < 8 := by omega
      have i2 : (p : Int) + 1 < 8 := by omega
      have i3 : (0 : Int) ≤ (p : Int) + 1 := by omega
      have i4 : (p : Int) < (n : Int) := by omega
      have hwp : IntKind.i64.wrap ((p : Int) + 1) = (p : Int) + 1 := IntWalk.i64_in _ ⟨by omega, by omega⟩
      have htn : ((p : Int) + 1).toNat = p + 1 := by omega
      clear hs hq hz hb
      generalize Bs.shF f p = fp at *
      generalize (f (p + 1)).1 = x0 at *
      generalize (f (p + 1)).2 = x1 at *
      go_wp2
      go_roundw
      case rel => exact ⟨p + 1, by omega, by go_num, HS.out, HZ.out, HB.out⟩
      case measure => simp [intOf]; omega
    · obtain rfl : p = n := by omega
      have HQ := Lib.hid hq
      have HZ := Lib.hid hz
      have HB := Lib.hid hb
      clear hq hz hb
      go_wp2_with (first
        | (refine q_load rfl _ rfl w.heap.size (Bs.shF f p) p rfl HQ.out ?_)
        | (refine q_store rfl _ _ rfl (w.heap.size + 1) zP (Bs.shF f p) 0 p rfl rfl HZ.out ?_; intro w9 h9 o9))
      exact bodyPost_ret (q_ret rfl _ _ (w.heap.size + 1) (Bs.shF f p) p rfl h9) rfl ⟨rfl, HB.out.trans (o9.below (by omega))⟩
end Go.Proofs.Ytfholjgndpefdaa
