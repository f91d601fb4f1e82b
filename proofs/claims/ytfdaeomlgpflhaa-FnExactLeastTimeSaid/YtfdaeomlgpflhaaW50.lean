/-
  WALKS: beginnings of tasks, of the program: as cells, in and out of memory; one more; all of a list.
-/
import Derived.Test.YtfdaeomlgpflhaaW43
import Derived.Test.YtfdaeomlgpflhaaMath40
namespace Go.Proofs.Ytfdaeomlgpflhaa
open Go.RowKit
/-- beginnings as cells -/
def bgA (f : Nat → Int) (b : Nat) : Array Value := #[.int .i64 (f 0), .int .i64 (f 1), .int .i64 (f 2), .int .i64 (f 3), .int .i64 (f 4), .int .i64 (f 5), .int .i64 (f 6), .int .i64 (f 7), .int .u64 (b : Int)]
theorem bgA_size (f : Nat → Int) (b : Nat) : (bgA f b).size = 9 := rfl
theorem bgA_b (f : Nat → Int) (b : Nat) : (bgA f b)[8]? = some (.int .u64 (b : Int)) := rfl
theorem bgA_at (f : Nat → Int) (b : Nat) {i : Nat} (h : i < 8) : (bgA f b)[i]? = some (.int .i64 (f i)) := by
  rcases eight h with rfl | rfl | rfl | rfl | rfl | rfl | rfl | rfl <;> rfl
theorem bgA_setB (f : Nat → Int) (b c : Nat) : (bgA f b).setIfInBounds 8 (.int .u64 (c : Int)) = bgA f c := rfl
theorem bgA_set (f : Nat → Int) (b : Nat) {i : Nat} (h : i < 8) (x : Int) : (bgA f b).setIfInBounds i (.int .i64 x) = bgA (Bs.upd f i x) b := by
  rcases eight h with rfl | rfl | rfl | rfl | rfl | rfl | rfl | rfl <;> rfl
theorem bgA_congr {f f' : Nat → Int} (b : Nat) (h : ∀ i, i < 8 → f i = f' i) : bgA f b = bgA f' b := by
  unfold bgA
  rw [h 0 (by omega), h 1 (by omega), h 2 (by omega), h 3 (by omega), h 4 (by omega), h 5 (by omega), h 6 (by omega), h 7 (by omega)]
theorem bgOne (f : Nat → Int) (b : Nat) : (bgA f b).all (·.oneCell') = true := by simp [bgA, Value.oneCell']
theorem bgSize : (Try.prog.info? 54).map (·.size) = some 9 := by kernel_rfl
/-- beginnings in memory -/
def BG (w : World) (a : Nat) (f : Nat → Int) (b : Nat) : Prop := Blk w a 54 (bgA f b)
theorem BG.b {w : World} {a b : Nat} {f : Nat → Int} (h : BG w a f b) : w.cell? ⟨a, 8, none⟩ = some (.int .u64 (b : Int)) := (Blk.cell h 8).trans rfl
theorem BG.at_ {w : World} {a b : Nat} {f : Nat → Int} (h : BG w a f b) {i : Nat} (hi : i < 8) : w.cell? ⟨a, i, none⟩ = some (.int .i64 (f i)) := (Blk.cell h _).trans (bgA_at f b hi)
theorem BG.frozen {w : World} {a b : Nat} {f : Nat → Int} (h : BG w a f b) (i : Nat) : w.frozen? ⟨a, i, none⟩ = false := Blk.frozen h i
theorem BG.setB {w : World} {a b : Nat} {f : Nat → Int} (h : BG w a f b) (c : Nat) : BG (w.setCell ⟨a, 8, none⟩ (.int .u64 (c : Int))) a f c := by
  unfold BG
  rw [← bgA_setB f b c]
  exact Blk.set_ h 8 _
theorem BG.setP {w : World} {a b : Nat} {f : Nat → Int} (h : BG w a f b) {i : Nat} (hi : i < 8) (x : Int) : BG (w.setCell ⟨a, i, none⟩ (.int .i64 x)) a (Bs.upd f i x) b := by
  unfold BG
  rw [← bgA_set f b hi x]
  exact Blk.set_ h _ _
theorem BG.below {w w' : World} {a b B : Nat} {f : Nat → Int} (h : BG w a f b) (hb : Below B w w') (hg : a < B) : BG w' a f b := Blk.below h hb hg
theorem BG.lt {w : World} {a b : Nat} {f : Nat → Int} (h : BG w a f b) : a < w.heap.size := Blk.lt h
theorem BG.far {w : World} {a b : Nat} {f : Nat → Int} (h : BG w a f b) {p : Addr} (hp : a ≠ p.block) (u : Value) : BG (w.setCell p u) a f b := Blk.far h hp u
theorem BG.alloc {w : World} {a b : Nat} {f : Nat → Int} (h : BG w a f b) (o : Obj) : BG (w.alloc o) a f b := Blk.alloc h o
theorem BG.new (w : World) (f : Nat → Int) (b : Nat) : BG (w.alloc (.cells (bgA f b) 54)) w.heap.size f b := Blk.new w _ _
theorem BG.drewN {w : World} {a b : Nat} {f : Nat → Int} (h : BG w a f b) (k : Nat) : BG (w.drewN k) a f b := h
theorem OnlyB.bg {b g s : Nat} {f : Nat → Int} {w w' : World} (h : OnlyB b w w') (hb : BG w g f s) (hne : g ≠ b) : BG w' g f s := (h.far g hne).trans hb
theorem bgRow_only (w : World) (a : Nat) (f f' : Nat → Int) (b b' : Nat) (hb : BG w a f b) : BG (w.setRow a (bgA f' b')) a f' b' ∧ OnlyB a w (w.setRow a (bgA f' b')) := by
  refine ⟨setRow_heap w a _ _ _ _ hb, rfl, rfl, rfl, by simp, fun k hk => setRow_other w a k _ hk⟩
theorem bg_load {ops : Array Oper} {rest : List Oper} {o : Oper} {a : Act} {w : World} {Q : Exit → Act → World → Prop} (hgd : o.guard = none) (x : Operand) (ho : o.op = .load 54 x)
    (b : Nat) (f : Nat → Int) (s : Nat) (hx : a.eval x = .pointer (some ⟨b, 0, none⟩)) (hb : BG w b f s) (h : wpList Try.prog ops Q rest (a.put o.dst (.agg (bgA f s))) w) : wpList Try.prog ops Q (o :: rest) a w :=
  wpList_load_row hgd 54 x ho b hx 54 (bgA f s) (0, 0) _ hb Try.underlying54 rfl bgSize h
theorem bg_store {ops : Array Oper} {rest : List Oper} {o : Oper} {a : Act} {w : World} {Q : Exit → Act → World → Prop} (hgd : o.guard = none) (x y : Operand) (ho : o.op = .store 54 x y)
    (b : Nat) (f f' : Nat → Int) (s s' : Nat) (hx : a.eval x = .pointer (some ⟨b, 0, none⟩)) (hy : a.eval y = .agg (bgA f' s')) (hb : BG w b f s)
    (h : ∀ w', BG w' b f' s' → OnlyB b w w' → wpList Try.prog ops Q rest (a.put o.dst undef) w') : wpList Try.prog ops Q (o :: rest) a w :=
  wpList_store_row hgd 54 x y ho b (bgA f' s') hx hy 54 (bgA f s) hb bgSize rfl (bgOne _ _) (h _ (bgRow_only w b f f' s s' hb).1 (bgRow_only w b f f' s s' hb).2)
theorem bg_ret {fn : Func} {p : Tmp} (h : fn.results = #[.cell p 54]) (tmps : Array Value) (w : World) (g : Nat) (f : Nat → Int) (b : Nat) (hp : tmps.getD p undef = .pointer (some ⟨g, 0, none⟩)) (hg : BG w g f b) :
    (results fn tmps).run Try.prog w = .ok (.agg (bgA f b)) w :=
  results_cell_row h tmps w g 54 _ (0, 0) _ hp hg Try.underlying54 rfl bgSize
theorem step_bg_load {ops : Array Oper} {o : Oper} {a : Act} {w : World} {K : Act → World → Prop} {Q : Exit → Act → World → Prop} {E : Prop} (hgd : o.guard = none) (x : Operand) (ho : o.op = .load 54 x)
    (b : Nat) (f : Nat → Int) (n : Nat) (hx : a.eval x = .pointer (some ⟨b, 0, none⟩)) (hb : BG w b f n) (h : K (a.put o.dst (.agg (bgA f n))) w) :
    if Region.wanted o (yielded ops a.tmps) = true then Oper.wp Try.prog o a w K Q else E := by
  have hw : Region.wanted o (yielded ops a.tmps) = true := by simp [Region.wanted, hgd]
  rw [if_pos hw]
  exact wp_load_row 54 x ho b hx 54 (bgA f n) (0, 0) _ hb Try.underlying54 rfl bgSize h
def z8 : Nat → Int := fun _ => 0
theorem z8A : bgA z8 0 = #[.int .i64 0, .int .i64 0, .int .i64 0, .int .i64 0, .int .i64 0, .int .i64 0, .int .i64 0, .int .i64 0, .int .u64 0] := rfl
theorem laterOf_any (a b : Int) (w : World) : Calls Try.prog 56 #[.int .i64 a, .int .i64 b] w fun e w' => e = .returned (.int .i64 (max a b)) ∧ w = w' := by
  go_enter Try.func56, Try.ntmps56
  go_wp2
  all_goals go_ret
  all_goals exact ⟨ret_int (by omega), rfl⟩
set_option maxHeartbeats 400000 in
theorem over_any (f : Nat → Int) (b : Nat) (A : Option Addr) (c : Nat) (g : List Bs.T) (v : Nat) (lo hi : Nat) (w : World) (h : RG w lo hi A g) (hh : hi ≤ w.heap.size) (hF : Bs.fine g = true) (hv : v < g.length) (hf : ∀ i, i < 8 → 0 ≤ f i ∧ f i ≤ 100000) :
    Calls Try.prog 57 #[.agg (bgA f b), .slice A g.length c, .int .i64 (v : Int)] w fun e w' => e = .returned (.int .i64 (f v + Bs.timeOf g v)) ∧ Below w.heap.size w w' := by
  have hgl := Bs.fine_len hF
  have hv8 : v < 8 := by omega
  have hb := BG.new w f b
  have hal : Below w.heap.size w (w.alloc (.cells (bgA f b) 54)) := (Below.refl _ _).alloc (Nat.le_refl _) _
  have hsz := bgA_size f b
  have kv := hb.at_ hv8
  have hfv := hf v hv8
  have ht := Bs.fine_time' hF hv
  obtain ⟨bg, og, N, cN, rfl, _, hgh, q0, q1, q2, q3, hlN, hcN, hN⟩ := (h.below hal hh) v hv
  have i0 : (0 : Int) ≤ (v : Int) := by omega
  have i1 : (v : Int) < (g.length : Int) := by omega
  have i2 : (v : Int) < 8 := by omega
  rw [time_at hv]
  have HAL := Lib.hid hal
  clear hb hal hN q1 q2 q3 hf h
  generalize g[v].time = tv at *
  generalize f v = fv at *
  have hw : IntKind.i64.wrap (fv + tv) = fv + tv := IntWalk.i64_in _ ⟨by omega, by omega⟩
  go_enter Try.func57, Try.ntmps57
  go_wp2_with fail
  generalize w.alloc (.cells (bgA f b) 54) = W1 at *
  go_quiet (fail)
  go_wp2
  go_ret
  exact ⟨rfl, HAL.out.drewN _⟩
set_option maxHeartbeats 800000 in
theorem bgWith_any (f : Nat → Int) (b v : Nat) (t : Int) (w : World) (hb8 : b < 256) (hv : v < 8) :
    Calls Try.prog 81 #[.agg (bgA f b), .int .i64 (v : Int), .int .i64 t] w fun e w' => e = .returned (.agg (bgA (Bs.upd f v t) (b ||| 1 <<< v))) ∧ Below w.heap.size w w' := by
  have b1 := (BG.new w (Bs.upd f v t) b).alloc (.cells (bgA z8 0) 54)
  have b2 := BG.new (w.alloc (.cells (bgA (Bs.upd f v t) b) 54)) z8 0
  rw [show (w.alloc (.cells (bgA (Bs.upd f v t) b) 54)).heap.size = w.heap.size + 1 from by simp] at b2
  have hbl : Below w.heap.size w ((w.alloc (.cells (bgA (Bs.upd f v t) b) 54)).alloc (.cells (bgA z8 0) 54)) := ((Below.refl _ _).alloc (Nat.le_refl _) _).alloc (by simp) _
  have k8 := b1.b
  have f8 := b1.frozen 8
  have b0 := (BG.new w f b).alloc (.cells (bgA z8 0) 54)
  have kv := b0.at_ hv
  have fv := b0.frozen v
  have hsz := bgA_size f b
  have i0 : (0 : Int) ≤ (v : Int) := by omega
  have i1 : (v : Int) < 8 := by omega
  have B1 := Lib.hid b1
  have B2 := Lib.hid b2
  have HB := Lib.hid hbl
  have HO := Lib.hid (or_pow b v hb8 hv)
  rw [z8A] at k8 f8 kv fv hbl B1 B2 HB
  have hne : (w.heap.size + 1) ≠ w.heap.size := by omega
  clear b1 b2 hbl b0
  go_enter Try.func81, Try.ntmps81
  go_wp2_with fail
  rw [bgA_set f b hv t]
  generalize (w.alloc (.cells (bgA (Bs.upd f v t) b) 54)).alloc (.cells #[.int .i64 0, .int .i64 0, .int .i64 0, .int .i64 0, .int .i64 0, .int .i64 0, .int .i64 0, .int .i64 0, .int .u64 0] 54) = W at *
  go_region_law (fail)
  all_goals go_wp2_with (first
    | (refine bg_load rfl _ rfl w.heap.size (Bs.upd f v t) (b ||| 1 <<< v) rfl (by rw [HO.out]; exact (B1.out.setB _)) ?_)
    | (refine bg_store rfl _ _ rfl (w.heap.size + 1) z8 (Bs.upd f v t) 0 (b ||| 1 <<< v) rfl rfl (B2.out.far (by exact hne) _) ?_; intro w9 h9 o9))
  all_goals refine bodyPost_ret (bg_ret rfl _ _ (w.heap.size + 1) (Bs.upd f v t) (b ||| 1 <<< v) rfl h9) rfl ⟨rfl, ?_⟩
  all_goals exact (((HB.out.drewN 1).setCell (by exact Nat.le_refl _) _).trans ((o9.below (Nat.le_succ _))))
end Go.Proofs.Ytfdaeomlgpflhaa
