/-
  WALKS: a plan at a time as cells, in and out of memory.
-/
import Derived.Test.YtfholjgndpefdaaW81
import Derived.Deep.MidRow
namespace Go.Proofs.Ytfholjgndpefdaa
open Go.RowKit
/-- a plan at a time as cells: the time, the beginnings, what is over, the ends to come -/
def psA (t : Int) (f : Nat → Int) (b o : Nat) (h : Nat → Int × Int) (n : Int) : Array Value := #[.int .i64 t, .int .i64 (f 0), .int .i64 (f 1), .int .i64 (f 2), .int .i64 (f 3), .int .i64 (f 4), .int .i64 (f 5), .int .i64 (f 6), .int .i64 (f 7), .int .u64 (b : Int), .int .u64 (o : Int),
  .int .i64 (h 0).1, .int .i64 (h 0).2, .int .i64 (h 1).1, .int .i64 (h 1).2, .int .i64 (h 2).1, .int .i64 (h 2).2, .int .i64 (h 3).1, .int .i64 (h 3).2, .int .i64 (h 4).1, .int .i64 (h 4).2, .int .i64 (h 5).1, .int .i64 (h 5).2, .int .i64 (h 6).1, .int .i64 (h 6).2, .int .i64 (h 7).1, .int .i64 (h 7).2, .int .i64 n]
theorem psSize : (Try.prog.info? 80).map (·.size) = some 28 := by kernel_rfl
theorem psOne (t : Int) (f : Nat → Int) (b o : Nat) (h : Nat → Int × Int) (n : Int) : (psA t f b o h n).all (·.oneCell') = true := by simp [psA, Value.oneCell']
def PS (w : World) (a : Nat) (t : Int) (f : Nat → Int) (b o : Nat) (h : Nat → Int × Int) (n : Int) : Prop := Blk w a 80 (psA t f b o h n)
/-- a row's cells, some of them stored anew -/
def spl (cs : Array Value) (k : Nat) : List Value → Array Value
  | [] => cs
  | v :: r => spl (cs.setIfInBounds k v) (k + 1) r
theorem Blk.spl {a : Nat} {ty : TypeId} : ∀ (vs : List Value) (k : Nat) (w : World) (cs : Array Value), Blk w a ty cs → Blk (w.setCells a k vs) a ty (spl cs k vs) := by
  intro vs
  induction vs with
  | nil => intro k w cs h; exact h
  | cons v r ih => intro k w cs h; exact ih (k + 1) _ _ (Blk.set_ h k v)
theorem Blk.splFar {a g : Nat} {ty : TypeId} {cs : Array Value} (hne : g ≠ a) : ∀ (vs : List Value) (k : Nat) (w : World), Blk w g ty cs → Blk (w.setCells a k vs) g ty cs := by
  intro vs
  induction vs with
  | nil => intro k w h; exact h
  | cons v r ih => intro k w h; exact ih (k + 1) _ (Blk.far (p := ⟨a, k, none⟩) h hne v)
theorem Below.spl {B a : Nat} {w : World} (ha : B ≤ a) : ∀ (vs : List Value) (k : Nat) (w' : World), Below B w w' → Below B w (w'.setCells a k vs) := by
  intro vs
  induction vs with
  | nil => intro k w' h; exact h
  | cons v r ih => intro k w' h; exact ih (k + 1) _ (h.setCell (p := ⟨a, k, none⟩) ha v)
variable {w w' : World} {a b o : Nat} {t n : Int} {f : Nat → Int} {h : Nat → Int × Int}
theorem PS.new (w : World) (t : Int) (f : Nat → Int) (b o : Nat) (h : Nat → Int × Int) (n : Int) : PS (w.alloc (.cells (psA t f b o h n) 80)) w.heap.size t f b o h n := Blk.new w _ _
theorem PS.frozen (p : PS w a t f b o h n) (i : Nat) : w.frozen? ⟨a, i, none⟩ = false := Blk.frozen p i
theorem PS.now (p : PS w a t f b o h n) : w.cell? ⟨a, 0, none⟩ = some (.int .i64 t) := (Blk.cell p 0).trans rfl
theorem PS.over (p : PS w a t f b o h n) : w.cell? ⟨a, 10, none⟩ = some (.int .u64 (o : Int)) := (Blk.cell p 10).trans rfl
theorem PS.begun (p : PS w a t f b o h n) : w.cell? ⟨a, 9, none⟩ = some (.int .u64 (b : Int)) := (Blk.cell p 9).trans rfl
theorem PS.first (p : PS w a t f b o h n) : w.cell? ⟨a, 11, none⟩ = some (.int .i64 (h 0).1) ∧ w.cell? ⟨a, 12, none⟩ = some (.int .i64 (h 0).2) := ⟨(Blk.cell p 11).trans rfl, (Blk.cell p 12).trans rfl⟩
theorem PS.size_ (p : PS w a t f b o h n) : w.cell? ⟨a, 27, none⟩ = some (.int .i64 n) := (Blk.cell p 27).trans rfl
theorem PS.setNow (p : PS w a t f b o h n) (x : Int) : PS (w.setCell ⟨a, 0, none⟩ (.int .i64 x)) a x f b o h n := Blk.set_ p 0 _
theorem PS.setOver (p : PS w a t f b o h n) (x : Nat) : PS (w.setCell ⟨a, 10, none⟩ (.int .u64 (x : Int))) a t f b x h n := Blk.set_ p 10 _
theorem PS.below {B : Nat} (p : PS w a t f b o h n) (hb : Below B w w') (hg : a < B) : PS w' a t f b o h n := Blk.below p hb hg
theorem PS.lt (p : PS w a t f b o h n) : a < w.heap.size := Blk.lt p
theorem PS.alloc (p : PS w a t f b o h n) (x : Obj) : PS (w.alloc x) a t f b o h n := Blk.alloc p x
theorem PS.far (p : PS w a t f b o h n) {q : Addr} (hp : a ≠ q.block) (u : Value) : PS (w.setCell q u) a t f b o h n := Blk.far p hp u
theorem PS.setPlan (p : PS w a t f b o h n) (f' : Nat → Int) (b' : Nat) : PS (w.setCells a 1 (bgA f' b').toList) a t f' b' o h n := by
  have e : spl (psA t f b o h n) 1 (bgA f' b').toList = psA t f' b' o h n := by simp [spl, psA, bgA]
  have := Blk.spl (bgA f' b').toList 1 w _ p
  rw [e] at this
  exact this
theorem PS.setEnds (p : PS w a t f b o h n) (h' : Nat → Int × Int) (n' : Int) : PS (w.setCells a 11 (hpA h' n').toList) a t f b o h' n' := by
  have e : spl (psA t f b o h n) 11 (hpA h' n').toList = psA t f b o h' n' := by simp [spl, psA, hpA]
  have := Blk.spl (hpA h' n').toList 11 w _ p
  rw [e] at this
  exact this
/-- the beginnings lie in the middle -/
theorem PS.planRange (p : PS w a t f b o h n) : w.rangeAt a 1 (bgA f b).toList := by
  intro j v hv
  have hj : j < 9 := (List.getElem?_eq_some_iff.1 hv).1
  refine (Blk.cell p (1 + j)).trans ?_
  rw [← hv]
  match j, hj with
  | 0, _ => rfl
  | 1, _ => rfl
  | 2, _ => rfl
  | 3, _ => rfl
  | 4, _ => rfl
  | 5, _ => rfl
  | 6, _ => rfl
  | 7, _ => rfl
  | 8, _ => rfl
theorem PS.planThere (p : PS w a t f b o h n) : w.there a 1 9 := by
  intro j hj
  refine ⟨?_, Blk.frozen p _⟩
  rw [Blk.cell p (1 + j)]
  match j, hj with
  | 0, _ => rfl
  | 1, _ => rfl
  | 2, _ => rfl
  | 3, _ => rfl
  | 4, _ => rfl
  | 5, _ => rfl
  | 6, _ => rfl
  | 7, _ => rfl
  | 8, _ => rfl
/-- the ends lie behind -/
theorem PS.endsRange (p : PS w a t f b o h n) : w.rangeAt a 11 (hpA h n).toList := by
  intro j v hv
  have hj : j < 17 := (List.getElem?_eq_some_iff.1 hv).1
  refine (Blk.cell p (11 + j)).trans ?_
  rw [← hv]
  match j, hj with
  | 0, _ => rfl
  | 1, _ => rfl
  | 2, _ => rfl
  | 3, _ => rfl
  | 4, _ => rfl
  | 5, _ => rfl
  | 6, _ => rfl
  | 7, _ => rfl
  | 8, _ => rfl
  | 9, _ => rfl
  | 10, _ => rfl
  | 11, _ => rfl
  | 12, _ => rfl
  | 13, _ => rfl
  | 14, _ => rfl
  | 15, _ => rfl
  | 16, _ => rfl
theorem PS.endsThere (p : PS w a t f b o h n) : w.there a 11 17 := by
  intro j hj
  refine ⟨?_, Blk.frozen p _⟩
  rw [Blk.cell p (11 + j)]
  match j, hj with
  | 0, _ => rfl
  | 1, _ => rfl
  | 2, _ => rfl
  | 3, _ => rfl
  | 4, _ => rfl
  | 5, _ => rfl
  | 6, _ => rfl
  | 7, _ => rfl
  | 8, _ => rfl
  | 9, _ => rfl
  | 10, _ => rfl
  | 11, _ => rfl
  | 12, _ => rfl
  | 13, _ => rfl
  | 14, _ => rfl
  | 15, _ => rfl
  | 16, _ => rfl
  | k + 17, hk => exact absurd hk (by omega)
section
variable {ops : Array Oper} {rest : List Oper} {op : Oper} {c : Act} {Q : Exit → Act → World → Prop}
theorem ps_load (hgd : op.guard = none) (x : Operand) (ho : op.op = .load 80 x) (a : Nat) (t : Int) (f : Nat → Int) (b o : Nat) (h : Nat → Int × Int) (n : Int) (hx : c.eval x = .pointer (some ⟨a, 0, none⟩)) (hb : PS w a t f b o h n) (hk : wpList Try.prog ops Q rest (c.put op.dst (.agg (psA t f b o h n))) w) : wpList Try.prog ops Q (op :: rest) c w :=
  wpList_load_row hgd 80 x ho a hx 80 (psA t f b o h n) (0, 0) _ hb Try.underlying80 rfl psSize hk
theorem psRow_only (w : World) (a : Nat) (t t' : Int) (f f' : Nat → Int) (b b' o o' : Nat) (h h' : Nat → Int × Int) (n n' : Int) (hb : PS w a t f b o h n) : PS (w.setRow a (psA t' f' b' o' h' n')) a t' f' b' o' h' n' ∧ OnlyB a w (w.setRow a (psA t' f' b' o' h' n')) := by
  refine ⟨setRow_heap w a _ _ _ _ hb, rfl, rfl, rfl, by simp, fun k hk => setRow_other w a k _ hk⟩
theorem ps_store (hgd : op.guard = none) (x y : Operand) (ho : op.op = .store 80 x y) (a : Nat) (t t' : Int) (f f' : Nat → Int) (b b' o o' : Nat) (h h' : Nat → Int × Int) (n n' : Int) (hx : c.eval x = .pointer (some ⟨a, 0, none⟩)) (hy : c.eval y = .agg (psA t' f' b' o' h' n')) (hb : PS w a t f b o h n)
    (hk : ∀ w', PS w' a t' f' b' o' h' n' → OnlyB a w w' → wpList Try.prog ops Q rest (c.put op.dst undef) w') : wpList Try.prog ops Q (op :: rest) c w :=
  wpList_store_row hgd 80 x y ho a (psA t' f' b' o' h' n') hx hy 80 (psA t f b o h n) hb psSize rfl (psOne _ _ _ _ _ _) (hk _ (psRow_only w a t t' f f' b b' o o' h h' n n' hb).1 (psRow_only w a t t' f f' b b' o o' h h' n n' hb).2)
theorem ps_ret {fn : Func} {p : Tmp} (hr : fn.results = #[.cell p 80]) (tmps : Array Value) (w : World) (a : Nat) (t : Int) (f : Nat → Int) (b o : Nat) (h : Nat → Int × Int) (n : Int) (hp : tmps.getD p undef = .pointer (some ⟨a, 0, none⟩)) (hg : PS w a t f b o h n) :
    (results fn tmps).run Try.prog w = .ok (.agg (psA t f b o h n)) w :=
  results_cell_row hr tmps w a 80 _ (0, 0) _ hp hg Try.underlying80 rfl psSize
theorem ps_plan (hgd : op.guard = none) (x : Operand) (ho : op.op = .load 73 x) (a : Nat) (t : Int) (f : Nat → Int) (b o : Nat) (h : Nat → Int × Int) (n : Int) (hx : c.eval x = .pointer (some ⟨a, 1, none⟩)) (hb : PS w a t f b o h n) (hk : wpList Try.prog ops Q rest (c.put op.dst (.agg (bgA f b))) w) : wpList Try.prog ops Q (op :: rest) c w :=
  wpList_load_mid hgd 73 x ho a 1 hx (bgA f b).toList _ hb.planRange Try.underlying73 rfl bgSize hk
theorem ps_setPlan (hgd : op.guard = none) (x y : Operand) (ho : op.op = .store 73 x y) (a : Nat) (t : Int) (f f' : Nat → Int) (b b' o : Nat) (h : Nat → Int × Int) (n : Int) (hx : c.eval x = .pointer (some ⟨a, 1, none⟩)) (hy : c.eval y = .agg (bgA f' b')) (hb : PS w a t f b o h n)
    (hk : wpList Try.prog ops Q rest (c.put op.dst undef) (w.setCells a 1 (bgA f' b').toList)) : wpList Try.prog ops Q (op :: rest) c w :=
  wpList_store_mid hgd 73 x y ho a 1 (bgA f' b') hx hy hb.planThere bgSize (bgOne _ _) hk
theorem ps_ends (hgd : op.guard = none) (x : Operand) (ho : op.op = .load 78 x) (a : Nat) (t : Int) (f : Nat → Int) (b o : Nat) (h : Nat → Int × Int) (n : Int) (hx : c.eval x = .pointer (some ⟨a, 11, none⟩)) (hb : PS w a t f b o h n) (hk : wpList Try.prog ops Q rest (c.put op.dst (.agg (hpA h n))) w) : wpList Try.prog ops Q (op :: rest) c w :=
  wpList_load_mid hgd 78 x ho a 11 hx (hpA h n).toList _ hb.endsRange Try.underlying78 rfl qSize hk
theorem ps_setEnds (hgd : op.guard = none) (x y : Operand) (ho : op.op = .store 78 x y) (a : Nat) (t : Int) (f : Nat → Int) (b o : Nat) (h h' : Nat → Int × Int) (n n' : Int) (hx : c.eval x = .pointer (some ⟨a, 11, none⟩)) (hy : c.eval y = .agg (hpA h' n')) (hb : PS w a t f b o h n)
    (hk : wpList Try.prog ops Q rest (c.put op.dst undef) (w.setCells a 11 (hpA h' n').toList)) : wpList Try.prog ops Q (op :: rest) c w :=
  wpList_store_mid hgd 78 x y ho a 11 (hpA h' n') hx hy hb.endsThere qSize (qOne _ _) hk
end
end Go.Proofs.Ytfholjgndpefdaa
