/-
  MERGED TEXTS: W112 W113 W114.
-/
import Derived.Test.YtihgakbopkaemaaK14
import Derived.Test.YtihgakbopkaemaaMem11
import Derived.Test.YtihgakbopkaemaaW111
import Derived.Test.YtihgakbopkaemaaK5
namespace Go.Proofs.Ytihgakbopkaemaa
open Go.RowKit
/-- a state as cells: the time, the beginnings, what is over -/
def lsA (t : Int) (f : Nat → Int) (b o : Nat) : Array Value := #[.int .i64 t, .int .i64 (f 0), .int .i64 (f 1), .int .i64 (f 2), .int .i64 (f 3), .int .i64 (f 4), .int .i64 (f 5), .int .i64 (f 6), .int .i64 (f 7), .int .u64 (b : Int), .int .u64 (o : Int)]
theorem lsSize : (Try.prog.info? 61).map (·.size) = some 11 := by kernel_rfl
theorem lsOne (t : Int) (f : Nat → Int) (b o : Nat) : (lsA t f b o).all (·.oneCell') = true := by simp [lsA, Value.oneCell']
theorem lsA_size (t : Int) (f : Nat → Int) (b o : Nat) : (lsA t f b o).size = 11 := rfl
def LS (w : World) (a : Nat) (t : Int) (f : Nat → Int) (b o : Nat) : Prop := Blk w a 61 (lsA t f b o)
/-- a row's cells, some of them stored anew -/
def splL (cs : Array Value) (k : Nat) : List Value → Array Value
  | [] => cs
  | v :: r => splL (cs.setIfInBounds k v) (k + 1) r
theorem Blk.splL {a : Nat} {ty : TypeId} : ∀ (vs : List Value) (k : Nat) (w : World) (cs : Array Value), Blk w a ty cs → Blk (w.setCells a k vs) a ty (splL cs k vs) := by
  intro vs
  induction vs with
  | nil => intro k w cs h; exact h
  | cons v r ih => intro k w cs h; exact ih (k + 1) _ _ (Blk.set_ h k v)
theorem Blk.splFarL {a g : Nat} {ty : TypeId} {cs : Array Value} (hne : g ≠ a) : ∀ (vs : List Value) (k : Nat) (w : World), Blk w g ty cs → Blk (w.setCells a k vs) g ty cs := by
  intro vs
  induction vs with
  | nil => intro k w h; exact h
  | cons v r ih => intro k w h; exact ih (k + 1) _ (Blk.far (p := ⟨a, k, none⟩) h hne v)
theorem Below.splL {B a : Nat} {w : World} (ha : B ≤ a) : ∀ (vs : List Value) (k : Nat) (w' : World), Below B w w' → Below B w (w'.setCells a k vs) := by
  intro vs
  induction vs with
  | nil => intro k w' h; exact h
  | cons v r ih => intro k w' h; exact ih (k + 1) _ (h.setCell (p := ⟨a, k, none⟩) ha v)
section
variable {w w' : World} {a b o : Nat} {t : Int} {f : Nat → Int}
theorem LS.new (w : World) (t : Int) (f : Nat → Int) (b o : Nat) : LS (w.alloc (.cells (lsA t f b o) 61)) w.heap.size t f b o := Blk.new w _ _
theorem LS.frozen (p : LS w a t f b o) (i : Nat) : w.frozen? ⟨a, i, none⟩ = false := Blk.frozen p i
theorem LS.now (p : LS w a t f b o) : w.cell? ⟨a, 0, none⟩ = some (.int .i64 t) := (Blk.cell p 0).trans rfl
theorem LS.over (p : LS w a t f b o) : w.cell? ⟨a, 10, none⟩ = some (.int .u64 (o : Int)) := (Blk.cell p 10).trans rfl
theorem LS.begun (p : LS w a t f b o) : w.cell? ⟨a, 9, none⟩ = some (.int .u64 (b : Int)) := (Blk.cell p 9).trans rfl
theorem LS.setNow (p : LS w a t f b o) (x : Int) : LS (w.setCell ⟨a, 0, none⟩ (.int .i64 x)) a x f b o := Blk.set_ p 0 _
theorem LS.setOver (p : LS w a t f b o) (x : Nat) : LS (w.setCell ⟨a, 10, none⟩ (.int .u64 (x : Int))) a t f b x := Blk.set_ p 10 _
theorem LS.below {B : Nat} (p : LS w a t f b o) (hb : Below B w w') (hg : a < B) : LS w' a t f b o := Blk.below p hb hg
theorem LS.lt (p : LS w a t f b o) : a < w.heap.size := Blk.lt p
theorem LS.alloc (p : LS w a t f b o) (x : Obj) : LS (w.alloc x) a t f b o := Blk.alloc p x
theorem LS.far (p : LS w a t f b o) {q : Addr} (hp : a ≠ q.block) (u : Value) : LS (w.setCell q u) a t f b o := Blk.far p hp u
theorem LS.setPlan (p : LS w a t f b o) (f' : Nat → Int) (b' : Nat) : LS (w.setCells a 1 (bgA f' b').toList) a t f' b' o := by
  have e : splL (lsA t f b o) 1 (bgA f' b').toList = lsA t f' b' o := by simp [splL, lsA, bgA]
  have := Blk.splL (bgA f' b').toList 1 w _ p
  rw [e] at this
  exact this
/-- the beginnings lie in the middle -/
theorem LS.planRange (p : LS w a t f b o) : w.rangeAt a 1 (bgA f b).toList := by
  intro j v hv
  have hj : j < 9 := (List.getElem?_eq_some_iff.1 hv).1
  refine (Blk.cell p (1 + j)).trans ?_
  rw [← hv]
  match j, hj with
  | 0, _ => rfl
  | 1, _ => rfl
  | 2, _ => rfl
  | 3, _ => rfl
  | 4, _ => rfl
  | 5, _ => rfl
  | 6, _ => rfl
  | 7, _ => rfl
  | 8, _ => rfl
theorem LS.planThere (p : LS w a t f b o) : w.there a 1 9 := by
  intro j hj
  refine ⟨?_, Blk.frozen p _⟩
  rw [Blk.cell p (1 + j)]
  match j, hj with
  | 0, _ => rfl
  | 1, _ => rfl
  | 2, _ => rfl
  | 3, _ => rfl
  | 4, _ => rfl
  | 5, _ => rfl
  | 6, _ => rfl
  | 7, _ => rfl
  | 8, _ => rfl
end
section
variable {w : World} {ops : Array Oper} {rest : List Oper} {op : Oper} {c : Act} {Q : Exit → Act → World → Prop}
theorem ls_load (hgd : op.guard = none) (x : Operand) (ho : op.op = .load 61 x) (a : Nat) (t : Int) (f : Nat → Int) (b o : Nat) (hx : c.eval x = .pointer (some ⟨a, 0, none⟩)) (hb : LS w a t f b o) (hk : wpList Try.prog ops Q rest (c.put op.dst (.agg (lsA t f b o))) w) : wpList Try.prog ops Q (op :: rest) c w :=
  wpList_load_row hgd 61 x ho a hx 61 (lsA t f b o) (0, 0) _ hb Try.underlying61 rfl lsSize hk
theorem lsRow_only (w : World) (a : Nat) (t t' : Int) (f f' : Nat → Int) (b b' o o' : Nat) (hb : LS w a t f b o) : LS (w.setRow a (lsA t' f' b' o')) a t' f' b' o' ∧ OnlyB a w (w.setRow a (lsA t' f' b' o')) := by
  refine ⟨setRow_heap w a _ _ _ _ hb, rfl, rfl, rfl, by simp, fun k hk => setRow_other w a k _ hk⟩
theorem ls_store (hgd : op.guard = none) (x y : Operand) (ho : op.op = .store 61 x y) (a : Nat) (t t' : Int) (f f' : Nat → Int) (b b' o o' : Nat) (hx : c.eval x = .pointer (some ⟨a, 0, none⟩)) (hy : c.eval y = .agg (lsA t' f' b' o')) (hb : LS w a t f b o)
    (hk : ∀ w', LS w' a t' f' b' o' → OnlyB a w w' → wpList Try.prog ops Q rest (c.put op.dst undef) w') : wpList Try.prog ops Q (op :: rest) c w :=
  wpList_store_row hgd 61 x y ho a (lsA t' f' b' o') hx hy 61 (lsA t f b o) hb lsSize rfl (lsOne _ _ _ _) (hk _ (lsRow_only w a t t' f f' b b' o o' hb).1 (lsRow_only w a t t' f f' b b' o o' hb).2)
theorem ls_ret {fn : Func} {p : Tmp} (hr : fn.results = #[.cell p 61]) (tmps : Array Value) (w : World) (a : Nat) (t : Int) (f : Nat → Int) (b o : Nat) (hp : tmps.getD p undef = .pointer (some ⟨a, 0, none⟩)) (hg : LS w a t f b o) :
    (results fn tmps).run Try.prog w = .ok (.agg (lsA t f b o)) w :=
  results_cell_row hr tmps w a 61 _ (0, 0) _ hp hg Try.underlying61 rfl lsSize
theorem ls_plan (hgd : op.guard = none) (x : Operand) (ho : op.op = .load 57 x) (a : Nat) (t : Int) (f : Nat → Int) (b o : Nat) (hx : c.eval x = .pointer (some ⟨a, 1, none⟩)) (hb : LS w a t f b o) (hk : wpList Try.prog ops Q rest (c.put op.dst (.agg (bgA f b))) w) : wpList Try.prog ops Q (op :: rest) c w :=
  wpList_load_mid hgd 57 x ho a 1 hx (bgA f b).toList _ hb.planRange Try.underlying57 rfl bgSize hk
theorem ls_setPlan (hgd : op.guard = none) (x y : Operand) (ho : op.op = .store 57 x y) (a : Nat) (t : Int) (f f' : Nat → Int) (b b' o : Nat) (hx : c.eval x = .pointer (some ⟨a, 1, none⟩)) (hy : c.eval y = .agg (bgA f' b')) (hb : LS w a t f b o)
    (hk : wpList Try.prog ops Q rest (c.put op.dst undef) (w.setCells a 1 (bgA f' b').toList)) : wpList Try.prog ops Q (op :: rest) c w :=
  wpList_store_mid hgd 57 x y ho a 1 (bgA f' b') hx hy hb.planThere bgSize (bgOne _ _) hk
end
theorem OnlyB.cells {a : Nat} : ∀ (vs : List Value) (k : Nat) (w : World), OnlyB a w (w.setCells a k vs) := by
  intro vs
  induction vs with
  | nil => intro k w; exact ⟨rfl, rfl, rfl, rfl, fun _ _ => rfl⟩
  | cons v r ih => intro k w; exact (OnlyB.setE w a k v).transE (ih (k + 1) _)
theorem ls_setPlan2 {w : World} {ops : Array Oper} {rest : List Oper} {op : Oper} {c : Act} {Q : Exit → Act → World → Prop} (hgd : op.guard = none) (x y : Operand) (ho : op.op = .store 57 x y) (a : Nat) (t : Int) (f f' : Nat → Int) (b b' o : Nat) (hx : c.eval x = .pointer (some ⟨a, 1, none⟩)) (hy : c.eval y = .agg (bgA f' b')) (hb : LS w a t f b o)
    (hk : ∀ w', LS w' a t f' b' o → OnlyB a w w' → wpList Try.prog ops Q rest (c.put op.dst undef) w') : wpList Try.prog ops Q (op :: rest) c w :=
  ls_setPlan hgd x y ho a t f f' b b' o hx hy hb (hk _ (hb.setPlan f' b') (OnlyB.cells _ _ _))
/-- an event's cells -/
def eA (x : Bs.E) : Array Value := #[.int .i64 x.at_, .int .i64 x.task, .bool x.over]
/-- what runs, as bits -/
def runN (b o : Nat) : Nat := b &&& (18446744073709551615 - o)
theorem runN_lt {b o : Nat} (hb : b < 256) : runN b o < 256 := by
  unfold runN
  exact Nat.lt_of_le_of_lt Nat.and_le_left hb
theorem running_any (t : Int) (f : Nat → Int) (b o : Nat) (w : World) (hb8 : b < 256) (ho8 : o < 256) :
    Calls Try.prog 55 #[.agg (lsA t f b o)] w fun e w' => e = .returned (.int .u64 (runN b o : Int)) ∧ Below w.heap.size w w' := by
  have hb := LS.new w t f b o
  have hal : Below w.heap.size w (w.alloc (.cells (lsA t f b o) 61)) := (Below.refl _ _).alloc (Nat.le_refl _) _
  have k9 := hb.begun
  have k10 := hb.over
  have hsz := lsA_size t f b o
  have HE := Lib.hid (show bits .andNot .u64 ((b : Nat) : Int) ((o : Nat) : Int) = (runN b o : Int) from u64_andNot_nat _ _ (by omega) (by omega))
  have HAL := Lib.hid hal
  clear hb hal
  go_enter Try.func55, Try.ntmps55
  go_wp2
  go_ret
  exact ⟨by rw [← HE.out]; rfl, HAL.out⟩
theorem lsA_now (t x : Int) (f : Nat → Int) (b o : Nat) : (lsA t f b o).setIfInBounds 0 (.int .i64 x) = lsA x f b o := rfl
/-- the memory in which an event is laid to a state -/
structure AM (w W : World) (t : Int) (f : Nat → Int) (b o : Nat) (x a : Int) (v : Bool) : Prop where
  st : LS W w.heap.size t f b o
  ev : Blk W (w.heap.size + 1) 33 #[.int .i64 x, .int .i64 a, .bool v]
  zero : LS W (w.heap.size + 1 + 1) 0 z8 0 0
  below : Below w.heap.size w W
theorem AM.new (w : World) (t : Int) (f : Nat → Int) (b o : Nat) (x a : Int) (v : Bool) : AM w (((w.alloc (.cells (lsA t f b o) 61)).alloc (.cells #[.int .i64 x, .int .i64 a, .bool v] 33)).alloc (.cells #[.int .i64 0, .int .i64 0, .int .i64 0, .int .i64 0, .int .i64 0, .int .i64 0, .int .i64 0, .int .i64 0, .int .i64 0, .int .u64 0, .int .u64 0] 61)) t f b o x a v := by
  have l1 := ((LS.new w t f b o).alloc (.cells #[.int .i64 x, .int .i64 a, .bool v] 33)).alloc (.cells (lsA 0 z8 0 0) 61)
  have l2 := ((Blk.new (w.alloc (.cells (lsA t f b o) 61)) 33 #[.int .i64 x, .int .i64 a, .bool v]).alloc (.cells (lsA 0 z8 0 0) 61))
  have l3 := LS.new ((w.alloc (.cells (lsA t f b o) 61)).alloc (.cells #[.int .i64 x, .int .i64 a, .bool v] 33)) 0 z8 0 0
  simp only [World.size_alloc] at l2 l3
  exact ⟨l1, l2, l3, ((((Below.refl w.heap.size w).alloc (Nat.le_refl _) _).alloc (by simp) _).alloc (by simp; omega) _)⟩
set_option maxHeartbeats 1600000 in
theorem after_over (t : Int) (f : Nat → Int) (b o : Nat) (x a : Int) (v : Nat) (w : World) (hv : v < 8) (ho8 : o < 256) (ha : a = (v : Int)) :
    Calls Try.prog 38 #[.agg (lsA t f b o), .agg #[.int .i64 x, .int .i64 a, .bool true]] w fun e w' => e = .returned (.agg (lsA x f b (o ||| 1 <<< v))) ∧ Below w.heap.size w w' := by
  subst ha
  have hm := AM.new w x f b o x (v : Int) true
  have hsz := lsA_size t f b o
  have HM := Lib.hid hm
  have HO := Lib.hid (or_pow o v ho8 hv)
  have i0 : (0 : Int) ≤ (v : Int) := by omega
  have i1 : (v : Int) < 8 := by omega
  clear hm
  go_enter Try.func38, Try.ntmps38
  go_wp2_with fail
  rw [lsA_now]
  generalize (((w.alloc (.cells (lsA x f b o) 61)).alloc (.cells #[.int .i64 x, .int .i64 (v : Int), .bool true] 33)).alloc (.cells #[.int .i64 0, .int .i64 0, .int .i64 0, .int .i64 0, .int .i64 0, .int .i64 0, .int .i64 0, .int .i64 0, .int .i64 0, .int .u64 0, .int .u64 0] 61)) = W at *
  have k10 := HM.out.st.over
  have f10 := HM.out.st.frozen 10
  have e1 : W.cell? ⟨w.heap.size + 1, 1, none⟩ = some (.int .i64 (v : Int)) := (Blk.cell HM.out.ev 1).trans rfl
  have hne : w.heap.size + 1 + 1 ≠ w.heap.size := by omega
  go_region_law (fail)
  all_goals go_wp2_with (first
    | (refine ls_load rfl _ rfl w.heap.size x f b (o ||| 1 <<< v) rfl (by rw [HO.out]; exact (HM.out.st.setOver _)) ?_)
    | (refine ls_store rfl _ _ rfl (w.heap.size + 1 + 1) 0 x z8 f 0 b 0 (o ||| 1 <<< v) rfl rfl (HM.out.zero.far (by exact hne) _) ?_; intro w9 h9 o9))
  all_goals refine bodyPost_ret (ls_ret rfl _ _ (w.heap.size + 1 + 1) x f b (o ||| 1 <<< v) rfl h9) rfl ⟨rfl, ?_⟩
  all_goals exact (((HM.out.below.drewN 1).setCell (by exact Nat.le_refl _) _).trans ((o9.below (by omega))))
set_option maxHeartbeats 1600000 in
theorem after_begin (t : Int) (f : Nat → Int) (b o : Nat) (x a : Int) (v : Nat) (w : World) (hv : v < 8) (hb8 : b < 256) (ha : a = (v : Int)) :
    Calls Try.prog 38 #[.agg (lsA t f b o), .agg #[.int .i64 x, .int .i64 a, .bool false]] w fun e w' => e = .returned (.agg (lsA x (Bs.upd f v x) (b ||| 1 <<< v) o)) ∧ Below w.heap.size w w' := by
  subst ha
  have hm := AM.new w x f b o x (v : Int) false
  have hsz := lsA_size t f b o
  have HM := Lib.hid hm
  have C1 := Lib.hid (fun W => bgWith_any f b v x W hb8 hv)
  have i0 : (0 : Int) ≤ (v : Int) := by omega
  have i1 : (v : Int) < 8 := by omega
  clear hm
  go_enter Try.func38, Try.ntmps38
  go_wp2_with fail
  rw [lsA_now]
  generalize (((w.alloc (.cells (lsA x f b o) 61)).alloc (.cells #[.int .i64 x, .int .i64 (v : Int), .bool false] 33)).alloc (.cells #[.int .i64 0, .int .i64 0, .int .i64 0, .int .i64 0, .int .i64 0, .int .i64 0, .int .i64 0, .int .i64 0, .int .i64 0, .int .u64 0, .int .u64 0] 61)) = W at *
  show Calls Try.prog 69 #[.agg (bgA f b), .int .i64 (v : Int), .int .i64 x] W _
  with_reducible refine (C1.out _).mono ?_
  rintro e w2 ⟨rfl, hb2⟩
  have sz := HM.out.zero.lt
  have h2 := HM.out.st.below hb2 (by omega)
  have z2 := HM.out.zero.below hb2 sz
  have H2 := Lib.hid h2
  have Z2 := Lib.hid z2
  have B2 := Lib.hid (HM.out.below.trans (hb2.mono (by omega)))
  have hne : w.heap.size + 1 + 1 ≠ w.heap.size := by omega
  clear h2 z2 hb2
  go_wp2_with (first
    | (refine ls_setPlan2 rfl _ _ rfl w.heap.size x f (Bs.upd f v x) b (b ||| 1 <<< v) o rfl rfl H2.out ?_; intro w3 h3 o3; have H3 := Lib.hid h3; have Z3 := Lib.hid (show LS w3 (w.heap.size + 1 + 1) 0 z8 0 0 from o3.blk Z2.out hne); have B3 := Lib.hid (B2.out.trans (o3.below (Nat.le_refl _))); clear h3 o3)
    | (refine ls_load rfl _ rfl w.heap.size x (Bs.upd f v x) (b ||| 1 <<< v) o rfl H3.out ?_)
    | (refine ls_store rfl _ _ rfl (w.heap.size + 1 + 1) 0 x z8 (Bs.upd f v x) 0 (b ||| 1 <<< v) 0 o rfl rfl Z3.out ?_; intro w9 h9 o9))
  refine bodyPost_ret (ls_ret rfl _ _ (w.heap.size + 1 + 1) x (Bs.upd f v x) (b ||| 1 <<< v) o rfl h9) rfl ⟨rfl, ?_⟩
  exact B3.out.trans (o9.below (by omega))
end Go.Proofs.Ytihgakbopkaemaa
namespace Go.Proofs.Ytihgakbopkaemaa
open Go.RowKit
theorem runN_bit (b o v : Nat) (ho : o < 256) (hv : v < 8) : (runN b o).testBit v = (b.testBit v && !o.testBit v) := by
  unfold runN
  rw [Nat.testBit_and]
  congr 1
  have := Nat.testBit_two_pow_sub_succ (n := 64) (x := o) (by omega) v
  rw [show 18446744073709551615 - o = 2 ^ 64 - (o + 1) from by omega, this]
  have : decide (v < 64) = true := by simp; omega
  rw [this, Bool.true_and]
/-- the memory in which an event is held against a state -/
structure CM (w W : World) (t : Int) (f : Nat → Int) (b o : Nat) (x a : Int) (v : Bool) : Prop where
  st : LS W w.heap.size t f b o
  ev : Blk W (w.heap.size + 1) 33 #[.int .i64 x, .int .i64 a, .bool v]
  below : Below w.heap.size w W
theorem CM.new (w : World) (t : Int) (f : Nat → Int) (b o : Nat) (x a : Int) (v : Bool) : CM w ((w.alloc (.cells (lsA t f b o) 61)).alloc (.cells #[.int .i64 x, .int .i64 a, .bool v] 33)) t f b o x a v := by
  have l1 := (LS.new w t f b o).alloc (.cells #[.int .i64 x, .int .i64 a, .bool v] 33)
  have l2 := (Blk.new (w.alloc (.cells (lsA t f b o) 61)) 33 #[.int .i64 x, .int .i64 a, .bool v])
  simp only [World.size_alloc] at l2
  exact ⟨l1, l2, ((Below.refl w.heap.size w).alloc (Nat.le_refl _) _).alloc (by simp) _⟩
theorem CM.drewN {w W : World} {t : Int} {f : Nat → Int} {b o : Nat} {x a : Int} {v : Bool} (h : CM w W t f b o x a v) (n : Nat) : CM w (W.drewN n) t f b o x a v := ⟨h.st, h.ev, h.below.drewN n⟩
theorem CM.after {w W W' : World} {t : Int} {f : Nat → Int} {b o : Nat} {x a : Int} {v : Bool} (h : CM w W t f b o x a v) (hb : Below W.heap.size W W') : CM w W' t f b o x a v :=
  ⟨h.st.below hb h.st.lt, Blk.below h.ev hb (Blk.lt h.ev), h.below.trans (hb.mono h.below.size)⟩
theorem LS.all_ {w : World} {a b o : Nat} {t : Int} {f : Nat → Int} (p : LS w a t f b o) : w.cell? ⟨a, 0, none⟩ = some (.int .i64 t) ∧ w.cell? ⟨a, 1, none⟩ = some (.int .i64 (f 0)) ∧ w.cell? ⟨a, 2, none⟩ = some (.int .i64 (f 1)) ∧ w.cell? ⟨a, 3, none⟩ = some (.int .i64 (f 2)) ∧ w.cell? ⟨a, 4, none⟩ = some (.int .i64 (f 3)) ∧ w.cell? ⟨a, 5, none⟩ = some (.int .i64 (f 4)) ∧ w.cell? ⟨a, 6, none⟩ = some (.int .i64 (f 5)) ∧ w.cell? ⟨a, 7, none⟩ = some (.int .i64 (f 6)) ∧ w.cell? ⟨a, 8, none⟩ = some (.int .i64 (f 7)) ∧ w.cell? ⟨a, 9, none⟩ = some (.int .u64 (b : Int)) ∧ w.cell? ⟨a, 10, none⟩ = some (.int .u64 (o : Int)) :=
  ⟨(Blk.cell p 0).trans rfl, (Blk.cell p 1).trans rfl, (Blk.cell p 2).trans rfl, (Blk.cell p 3).trans rfl, (Blk.cell p 4).trans rfl, (Blk.cell p 5).trans rfl, (Blk.cell p 6).trans rfl, (Blk.cell p 7).trans rfl, (Blk.cell p 8).trans rfl, (Blk.cell p 9).trans rfl, (Blk.cell p 10).trans rfl⟩
theorem LS.cell_ {w : World} {a b o : Nat} {t : Int} {f : Nat → Int} (p : LS w a t f b o) (i : Nat) : w.cell? ⟨a, i, none⟩ = (lsA t f b o)[i]? := Blk.cell p i
theorem run_ls {op : Oper} {c : Act} {W : World} (x : Operand) (ho : op.op = .load 61 x) (a : Nat) (hx : c.eval x = .pointer (some ⟨a, 0, none⟩)) {t : Int} {f : Nat → Int} {b o : Nat} (h : LS W a t f b o) :
    (execOp c.eval op).run Try.prog W = .ok (.value (.agg (lsA t f b o))) W := by
  unfold execOp
  simp only [ho, hx, Instr.loadAt, Instr.sureAddr, Sem.run_bind, Sem.run_pure, Result.andThen_ok, run_loadVar_row W a 61 61 _ (0, 0) _ h Try.underlying61 rfl lsSize]
theorem run_lsP {op : Oper} {c : Act} {W : World} (x : Operand) (ho : op.op = .load 57 x) (a : Nat) (hx : c.eval x = .pointer (some ⟨a, 1, none⟩)) {t : Int} {f : Nat → Int} {b o : Nat} (h : LS W a t f b o) :
    (execOp c.eval op).run Try.prog W = .ok (.value (.agg (bgA f b))) W := by
  unfold execOp
  simp only [ho, hx, Instr.loadAt, Instr.sureAddr, Sem.run_bind, Sem.run_pure, Result.andThen_ok, run_loadVar_mid W a 1 57 (bgA f b).toList _ h.planRange Try.underlying57 rfl bgSize]
theorem run_evI {op : Oper} {c : Act} {W : World} (x : Operand) (ho : op.op = .load 3 x) (a i : Nat) (hx : c.eval x = .pointer (some ⟨a, i, none⟩)) {ty : TypeId} {cs : Array Value} (h : Blk W a ty cs) {z : Int} (hz : cs[i]? = some (.int .i64 z)) :
    (execOp c.eval op).run Try.prog W = .ok (.value (.int .i64 z)) W := by
  have hc : W.cell? ⟨a, i, none⟩ = some (.int .i64 z) := (Blk.cell h i).trans hz
  unfold execOp
  simp only [ho, hx]
  go_simp
set_option linter.unusedSimpArgs false in
set_option maxRecDepth 20000 in
set_option maxHeartbeats 800000 in
theorem canEnd_any (t : Int) (f : Nat → Int) (b o : Nat) (x : Int) (v : Nat) (ov : Bool) (A : Option Addr) (c : Nat) (g : List Bs.T) (lo hi : Nat) (w : World) (h : RG w lo hi A g) (hh : hi ≤ w.heap.size) (hF : Bs.fine g = true) (hv : v < g.length) (hb8 : b < 256) (ho8 : o < 256) (hf : ∀ i, i < 8 → 0 ≤ f i ∧ f i ≤ 100000) :
    Calls Try.prog 76 #[.agg (lsA t f b o), .slice A g.length c, .agg #[.int .i64 x, .int .i64 (v : Int), .bool ov]] w fun e w' => e = .returned (.bool ((b.testBit v && !o.testBit v) && (x == f v + Bs.timeOf g v))) ∧ Below w.heap.size w w' := by
  have hgl := Bs.fine_len hF
  have hv8 : v < 8 := by omega
  have hm := CM.new w t f b o x (v : Int) ov
  have hsz := lsA_size t f b o
  have HM := Lib.hid hm
  have c1 := fun W => running_any t f b o W hb8 ho8
  have c2 := fun W => hasTask_any (runN b o) v W (runN_lt hb8) hv8
  rw [runN_bit b o v ho8 hv8] at c2
  have HTF := Lib.hid (show (b.testBit v && !o.testBit v) = true ∨ (b.testBit v && !o.testBit v) = false from by cases (b.testBit v && !o.testBit v) <;> simp)
  generalize (b.testBit v && !o.testBit v) = tb at *
  have C2 := Lib.hid c2
  clear c2
  have c3 := fun W (hb : Below w.heap.size w W) => over_any f b A c g v lo hi W (h.below hb hh) (Nat.le_trans hh hb.size) hF hv hf
  have C1 := Lib.hid c1
  have C3 := Lib.hid c3
  clear hm c1 c3 h hf
  go_enter Try.func76, Try.ntmps76
  go_wp2_with fail
  generalize ((w.alloc (.cells (lsA t f b o) 61)).alloc (.cells #[.int .i64 x, .int .i64 (v : Int), .bool ov] 33)) = W at *
  obtain ⟨a0, a1, a2, a3, a4, a5, a6, a7, a8, a9, a10⟩ := HM.out.st.all_
  have e0 : W.cell? ⟨w.heap.size + 1, 0, none⟩ = some (.int .i64 x) := (Blk.cell HM.out.ev 0).trans rfl
  have e1 : W.cell? ⟨w.heap.size + 1, 1, none⟩ = some (.int .i64 (v : Int)) := (Blk.cell HM.out.ev 1).trans rfl
  have HMd := Lib.hid (show CM w W.drew t f b o x (v : Int) ov from HM.out.drewN 1)
  clear a0 a1 a2 a3 a4 a5 a6 a7 a8 a9 a10 e0 e1
  refine wp_region_held_drew (S := fun W => LS W w.heap.size t f b o ∧ Blk W (w.heap.size + 1) 33 #[.int .i64 x, .int .i64 (v : Int), .bool ov]) (by kernel_rfl) ⟨HM.out.st, HM.out.ev⟩ (fun hHeld => ?_)
  refine wpAnyH_take (i := 0) (v := .agg (lsA t f b o)) rfl (by kernel_rfl) (by kernel_rfl) (by kernel_rfl) (fun _ _ _ h => h) (Or.inl ⟨by rfl, fun W hS => run_ls _ rfl w.heap.size rfl hS.1⟩) hHeld ?_
  try simp only [Act.put, List.getElem_toArray, List.getElem_cons_zero, List.getElem_cons_succ, List.setIfInBounds_toArray, List.set_cons_zero, List.set_cons_succ]
  refine wpAnyH_take (i := 2) (v := .pointer (some ⟨w.heap.size + 1, 1, none⟩)) rfl (by kernel_rfl) (by kernel_rfl) (by kernel_rfl) (fun _ _ _ h => h) (Or.inl ⟨by rfl, fun W hS => by first | rfl | (go_simp; rfl)⟩) hHeld ?_
  try simp only [Act.put, List.getElem_toArray, List.getElem_cons_zero, List.getElem_cons_succ, List.setIfInBounds_toArray, List.set_cons_zero, List.set_cons_succ]
  refine wpAnyH_take (i := 3) (v := .int .i64 (v : Int)) rfl (by kernel_rfl) (by kernel_rfl) (by kernel_rfl) (fun _ _ _ h => h) (Or.inl ⟨by rfl, fun W hS => run_evI _ rfl (w.heap.size + 1) 1 rfl hS.2 rfl⟩) hHeld ?_
  try simp only [Act.put, List.getElem_toArray, List.getElem_cons_zero, List.getElem_cons_succ, List.setIfInBounds_toArray, List.set_cons_zero, List.set_cons_succ]
  refine wpAnyH_ready (rs := [1]) (by kernel_rfl) (by simp) ?_
  refine AllReadyH.cons rfl (fun K hK => ?_) AllReadyH.nil
  rw [if_pos (by rfl)]
  go_simp
  go_at_call 55
  with_reducible refine (C1.out _).mono ?_
  rintro e w5 ⟨rfl, hb5⟩
  have HM5 := Lib.hid (HMd.out.after hb5)
  clear hb5
  go_wp2_with fail
  refine hK.out _ _ ⟨HM5.out.st, HM5.out.ev⟩ (fun hHeld => ?_)
  clear hK K
  try simp only [Act.put, List.getElem_toArray, List.getElem_cons_zero, List.getElem_cons_succ, List.setIfInBounds_toArray, List.set_cons_zero, List.set_cons_succ]
  refine wpAnyH_ready (rs := [4]) (by kernel_rfl) (by simp) ?_
  refine AllReadyH.cons rfl (fun K hK => ?_) AllReadyH.nil
  rw [if_pos (by rfl)]
  go_simp
  go_at_call 80
  with_reducible refine (C2.out _).mono ?_
  rintro e w6 ⟨rfl, rfl⟩
  go_wp2_with fail
  refine hK.out _ _ ⟨HM5.out.st, HM5.out.ev⟩ (fun hHeld => ?_)
  clear hK K
  try simp only [Act.put, List.getElem_toArray, List.getElem_cons_zero, List.getElem_cons_succ, List.setIfInBounds_toArray, List.set_cons_zero, List.set_cons_succ]
  rcases HTF.out with htb | htb
  · subst htb
    refine wpAnyH_take (i := 5) (v := .bool true) rfl (by kernel_rfl) (by kernel_rfl) (by kernel_rfl) (fun _ _ _ h => h) (Or.inl ⟨by rfl, fun W hS => by first | rfl | (go_simp; rfl)⟩) hHeld ?_
    try simp only [Act.put, List.getElem_toArray, List.getElem_cons_zero, List.getElem_cons_succ, List.setIfInBounds_toArray, List.set_cons_zero, List.set_cons_succ]
    refine wpAnyH_take (i := 6) (v := .pointer (some ⟨w.heap.size + 1, 0, none⟩)) rfl (by kernel_rfl) (by kernel_rfl) (by kernel_rfl) (fun _ _ _ h => h) (Or.inl ⟨by rfl, fun W hS => by first | rfl | (go_simp; rfl)⟩) hHeld ?_
    try simp only [Act.put, List.getElem_toArray, List.getElem_cons_zero, List.getElem_cons_succ, List.setIfInBounds_toArray, List.set_cons_zero, List.set_cons_succ]
    refine wpAnyH_take (i := 7) (v := .int .i64 x) rfl (by kernel_rfl) (by kernel_rfl) (by kernel_rfl) (fun _ _ _ h => h) (Or.inl ⟨by rfl, fun W hS => run_evI _ rfl (w.heap.size + 1) 0 rfl hS.2 rfl⟩) hHeld ?_
    try simp only [Act.put, List.getElem_toArray, List.getElem_cons_zero, List.getElem_cons_succ, List.setIfInBounds_toArray, List.set_cons_zero, List.set_cons_succ]
    refine wpAnyH_take (i := 8) (v := .pointer (some ⟨w.heap.size, 1, none⟩)) rfl (by kernel_rfl) (by kernel_rfl) (by kernel_rfl) (fun _ _ _ h => h) (Or.inl ⟨by rfl, fun W hS => by first | rfl | (go_simp; rfl)⟩) hHeld ?_
    try simp only [Act.put, List.getElem_toArray, List.getElem_cons_zero, List.getElem_cons_succ, List.setIfInBounds_toArray, List.set_cons_zero, List.set_cons_succ]
    refine wpAnyH_take (i := 9) (v := .agg (bgA f b)) rfl (by kernel_rfl) (by kernel_rfl) (by kernel_rfl) (fun _ _ _ h => h) (Or.inl ⟨by rfl, fun W hS => run_lsP _ rfl w.heap.size rfl hS.1⟩) hHeld ?_
    try simp only [Act.put, List.getElem_toArray, List.getElem_cons_zero, List.getElem_cons_succ, List.setIfInBounds_toArray, List.set_cons_zero, List.set_cons_succ]
    refine wpAnyH_take (i := 10) (v := .slice A g.length c) rfl (by kernel_rfl) (by kernel_rfl) (by kernel_rfl) (fun _ _ _ h => h) (Or.inl ⟨by rfl, fun W hS => by first | rfl | (go_simp; rfl)⟩) hHeld ?_
    try simp only [Act.put, List.getElem_toArray, List.getElem_cons_zero, List.getElem_cons_succ, List.setIfInBounds_toArray, List.set_cons_zero, List.set_cons_succ]
    refine wpAnyH_take (i := 11) (v := .pointer (some ⟨w.heap.size + 1, 1, none⟩)) rfl (by kernel_rfl) (by kernel_rfl) (by kernel_rfl) (fun _ _ _ h => h) (Or.inl ⟨by rfl, fun W hS => by first | rfl | (go_simp; rfl)⟩) hHeld ?_
    try simp only [Act.put, List.getElem_toArray, List.getElem_cons_zero, List.getElem_cons_succ, List.setIfInBounds_toArray, List.set_cons_zero, List.set_cons_succ]
    refine wpAnyH_take (i := 12) (v := .int .i64 (v : Int)) rfl (by kernel_rfl) (by kernel_rfl) (by kernel_rfl) (fun _ _ _ h => h) (Or.inl ⟨by rfl, fun W hS => run_evI _ rfl (w.heap.size + 1) 1 rfl hS.2 rfl⟩) hHeld ?_
    try simp only [Act.put, List.getElem_toArray, List.getElem_cons_zero, List.getElem_cons_succ, List.setIfInBounds_toArray, List.set_cons_zero, List.set_cons_succ]
    refine wpAnyH_ready (rs := [13]) (by kernel_rfl) (by simp) ?_
    refine AllReadyH.cons rfl (fun K hK => ?_) AllReadyH.nil
    rw [if_pos (by rfl)]
    go_simp
    go_at_call 58
    with_reducible refine (C3.out _ HM5.out.below).mono ?_
    rintro e w7 ⟨rfl, hb7⟩
    have HM7 := Lib.hid (HM5.out.after hb7)
    clear hb7
    go_wp2_with fail
    refine hK.out _ _ ⟨HM7.out.st, HM7.out.ev⟩ (fun hHeld => ?_)
    clear hK K
    try simp only [Act.put, List.getElem_toArray, List.getElem_cons_zero, List.getElem_cons_succ, List.setIfInBounds_toArray, List.set_cons_zero, List.set_cons_succ]
    refine wpAnyH_take (i := 14) (v := .bool (x == f v + Bs.timeOf g v)) rfl (by kernel_rfl) (by kernel_rfl) (by kernel_rfl) (fun _ _ _ h => h) (Or.inl ⟨by rfl, fun W hS => by first | rfl | (go_simp; rfl)⟩) hHeld ?_
    try simp only [Act.put, List.getElem_toArray, List.getElem_cons_zero, List.getElem_cons_succ, List.setIfInBounds_toArray, List.set_cons_zero, List.set_cons_succ]
    refine wpAnyH_take (i := 15) (v := .bool (x == f v + Bs.timeOf g v)) rfl (by kernel_rfl) (by kernel_rfl) (by kernel_rfl) (fun _ _ _ h => h) (Or.inl ⟨by rfl, fun W hS => by first | rfl | (go_simp; rfl)⟩) hHeld ?_
    try simp only [Act.put, List.getElem_toArray, List.getElem_cons_zero, List.getElem_cons_succ, List.setIfInBounds_toArray, List.set_cons_zero, List.set_cons_succ]
    refine wpAnyH_take (i := 16) (v := .bool (x == f v + Bs.timeOf g v)) rfl (by kernel_rfl) (by kernel_rfl) (by kernel_rfl) (fun _ _ _ h => h) (Or.inl ⟨by rfl, fun W hS => by first | rfl | (go_simp; rfl)⟩) hHeld ?_
    try simp only [Act.put, List.getElem_toArray, List.getElem_cons_zero, List.getElem_cons_succ, List.setIfInBounds_toArray, List.set_cons_zero, List.set_cons_succ]
    refine wpAnyH_done (by kernel_rfl) ?_ _
    go_wp2
    go_ret
    exact ⟨rfl, HM7.out.below⟩
  · subst htb
    refine wpAnyH_take (i := 5) (v := .bool false) rfl (by kernel_rfl) (by kernel_rfl) (by kernel_rfl) (fun _ _ _ h => h) (Or.inl ⟨by rfl, fun W hS => by first | rfl | (go_simp; rfl)⟩) hHeld ?_
    try simp only [Act.put, List.getElem_toArray, List.getElem_cons_zero, List.getElem_cons_succ, List.setIfInBounds_toArray, List.set_cons_zero, List.set_cons_succ]
    refine wpAnyH_take (i := 6) (v := undef) rfl (by kernel_rfl) (by kernel_rfl) (by kernel_rfl) (fun _ _ _ h => h) (Or.inr ⟨by rfl, rfl⟩) hHeld ?_
    try simp only [Act.put, List.getElem_toArray, List.getElem_cons_zero, List.getElem_cons_succ, List.setIfInBounds_toArray, List.set_cons_zero, List.set_cons_succ]
    refine wpAnyH_take (i := 7) (v := undef) rfl (by kernel_rfl) (by kernel_rfl) (by kernel_rfl) (fun _ _ _ h => h) (Or.inr ⟨by rfl, rfl⟩) hHeld ?_
    try simp only [Act.put, List.getElem_toArray, List.getElem_cons_zero, List.getElem_cons_succ, List.setIfInBounds_toArray, List.set_cons_zero, List.set_cons_succ]
    refine wpAnyH_take (i := 8) (v := undef) rfl (by kernel_rfl) (by kernel_rfl) (by kernel_rfl) (fun _ _ _ h => h) (Or.inr ⟨by rfl, rfl⟩) hHeld ?_
    try simp only [Act.put, List.getElem_toArray, List.getElem_cons_zero, List.getElem_cons_succ, List.setIfInBounds_toArray, List.set_cons_zero, List.set_cons_succ]
    refine wpAnyH_take (i := 9) (v := undef) rfl (by kernel_rfl) (by kernel_rfl) (by kernel_rfl) (fun _ _ _ h => h) (Or.inr ⟨by rfl, rfl⟩) hHeld ?_
    try simp only [Act.put, List.getElem_toArray, List.getElem_cons_zero, List.getElem_cons_succ, List.setIfInBounds_toArray, List.set_cons_zero, List.set_cons_succ]
    refine wpAnyH_take (i := 10) (v := undef) rfl (by kernel_rfl) (by kernel_rfl) (by kernel_rfl) (fun _ _ _ h => h) (Or.inr ⟨by rfl, rfl⟩) hHeld ?_
    try simp only [Act.put, List.getElem_toArray, List.getElem_cons_zero, List.getElem_cons_succ, List.setIfInBounds_toArray, List.set_cons_zero, List.set_cons_succ]
    refine wpAnyH_take (i := 11) (v := undef) rfl (by kernel_rfl) (by kernel_rfl) (by kernel_rfl) (fun _ _ _ h => h) (Or.inr ⟨by rfl, rfl⟩) hHeld ?_
    try simp only [Act.put, List.getElem_toArray, List.getElem_cons_zero, List.getElem_cons_succ, List.setIfInBounds_toArray, List.set_cons_zero, List.set_cons_succ]
    refine wpAnyH_take (i := 12) (v := undef) rfl (by kernel_rfl) (by kernel_rfl) (by kernel_rfl) (fun _ _ _ h => h) (Or.inr ⟨by rfl, rfl⟩) hHeld ?_
    try simp only [Act.put, List.getElem_toArray, List.getElem_cons_zero, List.getElem_cons_succ, List.setIfInBounds_toArray, List.set_cons_zero, List.set_cons_succ]
    refine wpAnyH_take (i := 13) (v := undef) rfl (by kernel_rfl) (by kernel_rfl) (by kernel_rfl) (fun _ _ _ h => h) (Or.inr ⟨by rfl, rfl⟩) hHeld ?_
    try simp only [Act.put, List.getElem_toArray, List.getElem_cons_zero, List.getElem_cons_succ, List.setIfInBounds_toArray, List.set_cons_zero, List.set_cons_succ]
    refine wpAnyH_take (i := 14) (v := undef) rfl (by kernel_rfl) (by kernel_rfl) (by kernel_rfl) (fun _ _ _ h => h) (Or.inr ⟨by rfl, rfl⟩) hHeld ?_
    try simp only [Act.put, List.getElem_toArray, List.getElem_cons_zero, List.getElem_cons_succ, List.setIfInBounds_toArray, List.set_cons_zero, List.set_cons_succ]
    refine wpAnyH_take (i := 15) (v := .bool false) rfl (by kernel_rfl) (by kernel_rfl) (by kernel_rfl) (fun _ _ _ h => h) (Or.inl ⟨by rfl, fun W hS => by first | rfl | (go_simp; rfl)⟩) hHeld ?_
    try simp only [Act.put, List.getElem_toArray, List.getElem_cons_zero, List.getElem_cons_succ, List.setIfInBounds_toArray, List.set_cons_zero, List.set_cons_succ]
    refine wpAnyH_take (i := 16) (v := .bool false) rfl (by kernel_rfl) (by kernel_rfl) (by kernel_rfl) (fun _ _ _ h => h) (Or.inl ⟨by rfl, fun W hS => by first | rfl | (go_simp; rfl)⟩) hHeld ?_
    try simp only [Act.put, List.getElem_toArray, List.getElem_cons_zero, List.getElem_cons_succ, List.setIfInBounds_toArray, List.set_cons_zero, List.set_cons_succ]
    refine wpAnyH_done (by kernel_rfl) ?_ _
    go_wp2
    go_ret
    exact ⟨rfl, HM5.out.below⟩
set_option maxRecDepth 20000 in
set_option maxHeartbeats 1600000 in
theorem canBegin_any (t : Int) (f : Nat → Int) (b o : Nat) (B O : List Int) (x : Int) (v : Nat) (ov : Bool) (A : Option Addr) (c : Nat) (g : List Bs.T) (lo hi : Nat) (w : World) (h : RG w lo hi A g) (hh : hi ≤ w.heap.size) (hF : Bs.fine g = true) (hv : v < g.length) (hb : b = Bs.bits B) (ho : o = Bs.bits O) (hB : ∀ y ∈ B, 0 ≤ y ∧ y < 8) (hO : ∀ y ∈ O, 0 ≤ y ∧ y < 8) :
    Calls Try.prog 77 #[.agg (lsA t f b o), .slice A g.length c, .agg #[.int .i64 x, .int .i64 (v : Int), .bool ov]] w fun e w' => e = .returned (.bool (!B.contains (v : Int) && (Bs.need g v).all fun y => O.contains y)) ∧ Below w.heap.size w w' := by
  have hgl := Bs.fine_len hF
  have hv8 : v < 8 := by omega
  have hb8 : b < 256 := by rw [hb]; exact Bs.bits_lt B hB
  have ho8 : o < 256 := by rw [ho]; exact Bs.bits_lt O hO
  have hm := CM.new w t f b o x (v : Int) ov
  have hsz := lsA_size t f b o
  have HM := Lib.hid hm
  have hbt : b.testBit v = B.contains (v : Int) := by rw [hb]; exact Bs.bits_test B (fun y hy => (hB y hy).1) v
  have c2 := fun W => hasTask_any b v W hb8 hv8
  rw [hbt] at c2
  have hn8 : ∀ y ∈ Bs.need g v, 0 ≤ y ∧ y < 8 := fun y hy => by have := Bs.fine_need hF hy; omega
  have hbs : (bits .andNot .u64 ((Bs.bits (Bs.need g v) : Nat) : Int) (o : Int) == 0) = ((Bs.need g v).all fun y => O.contains y) := by
    have h1 := Bs.bits_lt _ hn8
    rw [u64_andNot_nat _ _ (by omega) (by omega), ho, Bool.eq_iff_iff, ← Bs.bits_sub _ O hn8 hO]
    simp only [beq_iff_eq]
    omega
  obtain ⟨bg, og, N, cN, rfl, hl1, hl2, k0, k1, k2, k3, hnc, hcN, hN⟩ := h v hv
  have hne : Bs.need g v = g[v].needs := need_at hv
  rw [hne] at hbs hn8
  have c3 := fun W (hb : Below w.heap.size w W) => setOf_any N cN g[v].needs lo hi W (hN.below hb hh) (by have := Bs.fine_needs_len hF hv; omega) hn8
  have hk1 := fun W (hb : Below w.heap.size w W) => (hb.cell (p := ⟨bg, og + v * 4 + 1, none⟩) (by show bg < _; omega)).trans k1
  have i0 : (0 : Int) ≤ (v : Int) := by omega
  have i1 : (v : Int) < (g.length : Int) := by omega
  rw [hne]
  generalize ((g[v].needs).all fun y => O.contains y) = nb at *
  generalize B.contains (v : Int) = tb at *
  generalize g[v].needs = nd at *
  generalize hND : ((Bs.bits nd : Nat) : Int) = ndb at *
  have HBS := Lib.hid hbs
  have HK1 := Lib.hid hk1
  have C3 := Lib.hid c3
  clear hm c3 h hbs hbt hB hO hn8 hk1 k0 k1 k2 k3 hN hne hF hb ho hND
  go_enter Try.func77, Try.ntmps77
  go_wp2_with fail
  generalize ((w.alloc (.cells (lsA t f b o) 61)).alloc (.cells #[.int .i64 x, .int .i64 (v : Int), .bool ov] 33)) = W at *
  have a9 := HM.out.st.begun
  have a10 := HM.out.st.over
  have e1 : W.cell? ⟨w.heap.size + 1, 1, none⟩ = some (.int .i64 (v : Int)) := (Blk.cell HM.out.ev 1).trans rfl
  have q1 := HK1.out W HM.out.below
  have C2 := fun j => Lib.hid (show Calls Try.prog 80 #[.int .u64 b, .int .i64 v] (W.drewN j) fun e w' => e = .returned (.bool tb) ∧ ∃ m, w' = W.drewN m from (c2 (W.drewN j)).mono fun _ _ ⟨h1, h2⟩ => ⟨h1, j, h2.symm⟩)
  have C4 := fun j => Lib.hid (show Calls Try.prog 48 #[.slice N nd.length cN] (W.drewN j) fun e w' => e = .returned (.int .u64 ndb) ∧ ∃ m, w' = W.drewN m from (C3.out (W.drewN j) (HM.out.below.drewN _)).mono fun _ _ ⟨h1, h2⟩ => ⟨h1, j, h2.symm⟩)
  have hbs := HBS.out
  clear c2 C3
  cases tb
  · go_quiet ((first | (go_at_call 80; with_reducible exact (C2 _).out) | (go_at_call 48; with_reducible exact (C4 _).out)))
    go_wp2
    go_ret
    exact ⟨rfl, HM.out.below.drewN _⟩
  · go_quiet ((first | (go_at_call 80; with_reducible exact (C2 _).out) | (go_at_call 48; with_reducible exact (C4 _).out)))
    go_wp2
    go_ret
    exact ⟨rfl, HM.out.below.drewN _⟩
theorem acc_no {g : List Bs.T} {now : Int} {f : Nat → Int} {B O : List Int} {xa xt : Int} {xo : Bool} (h : xa < now ∨ 200 < xa ∨ ¬ (0 ≤ xt ∧ xt < (g.length : Int))) : Bs.accB g now f B O ⟨xa, xt, xo⟩ = false := by
  unfold Bs.accB
  rcases h with h | h | h
  · have : decide (now ≤ xa) = false := decide_eq_false (by omega)
    simp only [this, Bool.false_and]
  · have : decide (xa ≤ 200) = false := decide_eq_false (by omega)
    simp only [this, Bool.and_false, Bool.false_and]
  · have : decide (0 ≤ xt ∧ xt < (g.length : Int)) = false := decide_eq_false h
    simp only [this, Bool.and_false, Bool.false_and]
theorem acc_over {g : List Bs.T} {now : Int} {f : Nat → Int} {B O : List Int} {xa : Int} {v : Nat} (h1 : now ≤ xa) (h2 : xa ≤ 200) (h3 : v < g.length) : Bs.accB g now f B O ⟨xa, (v : Int), true⟩ = ((B.contains (v : Int) && !O.contains (v : Int)) && (xa == f v + Bs.timeOf g v)) := by
  unfold Bs.accB
  have e1 : decide (now ≤ xa) = true := decide_eq_true h1
  have e2 : decide (xa ≤ 200) = true := decide_eq_true h2
  have e3 : decide (0 ≤ (v : Int) ∧ (v : Int) < (g.length : Int)) = true := decide_eq_true (by omega)
  simp only [e1, e2, e3, Bool.true_and, if_true, Int.toNat_natCast]
theorem acc_begin {g : List Bs.T} {now : Int} {f : Nat → Int} {B O : List Int} {xa : Int} {v : Nat} (h1 : now ≤ xa) (h2 : xa ≤ 200) (h3 : v < g.length) : Bs.accB g now f B O ⟨xa, (v : Int), false⟩ = (!B.contains (v : Int) && (Bs.need g v).all fun y => O.contains y) := by
  unfold Bs.accB
  have e1 : decide (now ≤ xa) = true := decide_eq_true h1
  have e2 : decide (xa ≤ 200) = true := decide_eq_true h2
  have e3 : decide (0 ≤ (v : Int) ∧ (v : Int) < (g.length : Int)) = true := decide_eq_true (by omega)
  simp only [e1, e2, e3, Bool.true_and, Bool.false_eq_true, if_false, Int.toNat_natCast]
set_option maxHeartbeats 1600000 in
theorem accepts_any (now : Int) (f : Nat → Int) (B O : List Int) (xa xt : Int) (xo : Bool) (A : Option Addr) (c : Nat) (g : List Bs.T) (lo hi : Nat) (w : World) (h : RG w lo hi A g) (hh : hi ≤ w.heap.size) (hF : Bs.fine g = true) (hB : ∀ y ∈ B, 0 ≤ y ∧ y < 8) (hO : ∀ y ∈ O, 0 ≤ y ∧ y < 8) (hf : ∀ i, i < 8 → 0 ≤ f i ∧ f i ≤ 100000) :
    Calls Try.prog 37 #[.agg (lsA now f (Bs.bits B) (Bs.bits O)), .slice A g.length c, .agg #[.int .i64 xa, .int .i64 xt, .bool xo]] w fun e w' => e = .returned (.bool (Bs.accB g now f B O ⟨xa, xt, xo⟩)) ∧ Below w.heap.size w w' := by
  have hgl := Bs.fine_len hF
  have hb8 := Bs.bits_lt B hB
  have ho8 := Bs.bits_lt O hO
  have hm := CM.new w now f (Bs.bits B) (Bs.bits O) xa xt xo
  have hsz := lsA_size now f (Bs.bits B) (Bs.bits O)
  have HM := Lib.hid hm
  have c1 := fun W => isTask_any A g.length c xt W (by omega)
  have c2 := fun (v : Nat) (hv : v < g.length) W (hb : Below w.heap.size w W) => canEnd_any now f (Bs.bits B) (Bs.bits O) xa v xo A c g lo hi W (h.below hb hh) (Nat.le_trans hh hb.size) hF hv hb8 ho8 hf
  have c3 := fun (v : Nat) (hv : v < g.length) W (hb : Below w.heap.size w W) => canBegin_any now f (Bs.bits B) (Bs.bits O) B O xa v xo A c g lo hi W (h.below hb hh) (Nat.le_trans hh hb.size) hF hv rfl rfl hB hO
  have HTB := Lib.hid (fun v => Bs.bits_test B (fun y hy => (hB y hy).1) v)
  have HTO := Lib.hid (fun v => Bs.bits_test O (fun y hy => (hO y hy).1) v)
  have C2 := Lib.hid c2
  have C3 := Lib.hid c3
  clear hm h hf hB hO c2 c3 hF
  have a0 := HM.out.st.now
  have e0 : World.cell? _ ⟨w.heap.size + 1, 0, none⟩ = some (.int .i64 xa) := (Blk.cell HM.out.ev 0).trans rfl
  have e1 : World.cell? _ ⟨w.heap.size + 1, 1, none⟩ = some (.int .i64 xt) := (Blk.cell HM.out.ev 1).trans rfl
  have e2 : World.cell? _ ⟨w.heap.size + 1, 2, none⟩ = some (.bool xo) := (Blk.cell HM.out.ev 2).trans rfl
  by_cases h1 : xa < now
  · have HV := Lib.hid (acc_no (g := g) (now := now) (f := f) (B := B) (O := O) (xt := xt) (xo := xo) (.inl h1))
    clear c1
    go_enter Try.func37, Try.ntmps37
    go_wp2
    go_ret
    exact ⟨ret_bool HV.out.symm, HM.out.below⟩
  by_cases h2 : 200 < xa
  · have HV := Lib.hid (acc_no (g := g) (now := now) (f := f) (B := B) (O := O) (xt := xt) (xo := xo) (.inr (.inl h2)))
    clear c1
    go_enter Try.func37, Try.ntmps37
    go_wp2
    go_ret
    exact ⟨ret_bool HV.out.symm, HM.out.below⟩
  by_cases h3 : 0 ≤ xt ∧ xt < (g.length : Int)
  rotate_left
  · have HV := Lib.hid (acc_no (g := g) (now := now) (f := f) (B := B) (O := O) (xa := xa) (xo := xo) (.inr (.inr h3)))
    have hd : decide (0 ≤ xt ∧ xt < (g.length : Int)) = false := decide_eq_false h3
    rw [hd] at c1
    have C1 := Lib.hid c1
    clear c1 h3 hd
    go_enter Try.func37, Try.ntmps37
    go_wp2_with fail
    with_reducible refine (C1.out _).mono ?_
    rintro e w5 ⟨rfl, rfl⟩
    go_wp2
    go_ret
    exact ⟨ret_bool HV.out.symm, HM.out.below⟩
  · have hd : decide (0 ≤ xt ∧ xt < (g.length : Int)) = true := decide_eq_true h3
    rw [hd] at c1
    have C1 := Lib.hid c1
    obtain ⟨v, rfl⟩ : ∃ v : Nat, xt = (v : Int) := ⟨xt.toNat, by omega⟩
    have hv : v < g.length := by omega
    cases xo
    · have HV := Lib.hid (acc_begin (f := f) (B := B) (O := O) (show now ≤ xa by omega) (show xa ≤ 200 by omega) hv)
      have C4 := Lib.hid (C3.out v hv _ HM.out.below)
      clear c1 h3 hd C2 C3
      go_enter Try.func37, Try.ntmps37
      go_wp2_with fail
      with_reducible refine (C1.out _).mono ?_
      rintro e w5 ⟨rfl, rfl⟩
      go_wp2_with (first
        | (refine ls_load rfl _ rfl w.heap.size now f (Bs.bits B) (Bs.bits O) rfl HM.out.st ?_))
      with_reducible refine (C4.out).mono ?_
      rintro e w6 ⟨rfl, hb6⟩
      have HB6 := Lib.hid (HM.out.below.trans (hb6.mono HM.out.below.size))
      clear hb6
      go_wp2
      go_ret
      exact ⟨ret_bool (by rw [HV.out]; simp), HB6.out⟩
    · have HV := Lib.hid (acc_over (f := f) (B := B) (O := O) (show now ≤ xa by omega) (show xa ≤ 200 by omega) hv)
      have c4 := C2.out v hv _ HM.out.below
      rw [HTB.out v, HTO.out v] at c4
      have C4 := Lib.hid c4
      clear c1 h3 hd C2 C3 c4
      go_enter Try.func37, Try.ntmps37
      go_wp2_with fail
      with_reducible refine (C1.out _).mono ?_
      rintro e w5 ⟨rfl, rfl⟩
      go_wp2_with (first
        | (refine ls_load rfl _ rfl w.heap.size now f (Bs.bits B) (Bs.bits O) rfl HM.out.st ?_))
      with_reducible refine (C4.out).mono ?_
      rintro e w6 ⟨rfl, hb6⟩
      have HB6 := Lib.hid (HM.out.below.trans (hb6.mono HM.out.below.size))
      clear hb6
      go_wp2
      go_ret
      exact ⟨ret_bool (by rw [HV.out]; simp), HB6.out⟩
end Go.Proofs.Ytihgakbopkaemaa
namespace Go.Proofs.Ytihgakbopkaemaa
open Go.RowKit
theorem lsZero : lsA 0 z8 0 0 = #[.int .i64 0, .int .i64 0, .int .i64 0, .int .i64 0, .int .i64 0, .int .i64 0, .int .i64 0, .int .i64 0, .int .i64 0, .int .u64 0, .int .u64 0] := rfl
theorem after_any (l : List Bs.E) (k : Nat) (t : Int) (w : World) (hB : ∀ y ∈ Bs.bgL l k, 0 ≤ y ∧ y < 8) (hO : ∀ y ∈ Bs.ovL l k, 0 ≤ y ∧ y < 8) (ht : 0 ≤ (Bs.ge l k).task ∧ (Bs.ge l k).task < 8) :
    Calls Try.prog 38 #[.agg (lsA t (Bs.bgF l k) (Bs.bits (Bs.bgL l k)) (Bs.bits (Bs.ovL l k))), .agg #[.int .i64 (Bs.ge l k).at_, .int .i64 (Bs.ge l k).task, .bool (Bs.ge l k).over]] w fun e w' => e = .returned (.agg (lsA (Bs.nwK l (k + 1)) (Bs.bgF l (k + 1)) (Bs.bits (Bs.bgL l (k + 1))) (Bs.bits (Bs.ovL l (k + 1))))) ∧ Below w.heap.size w w' := by
  have hb8 := Bs.bits_lt _ hB
  have ho8 := Bs.bits_lt _ hO
  have hv : (Bs.ge l k).task = ((Bs.ge l k).task.toNat : Int) := by omega
  have hv8 : (Bs.ge l k).task.toNat < 8 := by omega
  cases ho : (Bs.ge l k).over
  · have e1 : Bs.bgL l (k + 1) = Bs.bgL l k ++ [(Bs.ge l k).task] := by show (if _ then _ else _) = _; rw [ho]; rfl
    have e2 : Bs.ovL l (k + 1) = Bs.ovL l k := by show (if _ then _ else _) = _; rw [ho]; rfl
    have e3 : Bs.bgF l (k + 1) = Bs.upd (Bs.bgF l k) (Bs.ge l k).task.toNat (Bs.ge l k).at_ := by show (if _ then _ else _) = _; rw [ho]; rfl
    rw [e1, e2, e3, Bs.bits_snoc]
    exact after_begin t _ _ _ _ _ _ w hv8 hb8 hv
  · have e1 : Bs.bgL l (k + 1) = Bs.bgL l k := by show (if _ then _ else _) = _; rw [ho]; rfl
    have e2 : Bs.ovL l (k + 1) = Bs.ovL l k ++ [(Bs.ge l k).task] := by show (if _ then _ else _) = _; rw [ho]; rfl
    have e3 : Bs.bgF l (k + 1) = Bs.bgF l k := by show (if _ then _ else _) = _; rw [ho]; rfl
    rw [e1, e2, e3, Bs.bits_snoc]
    exact after_over t _ _ _ _ _ _ w hv8 ho8 hv
/-- an event in a block of its own -/
def EV (w : World) (a : Nat) (x : Bs.E) : Prop := Blk w a 33 #[.int .i64 x.at_, .int .i64 x.task, .bool x.over]
set_option maxHeartbeats 1600000 in
theorem ValidLog_any (A : Option Addr) (c : Nat) (g : List Bs.T) (A1 : Option Addr) (c1 : Nat) (l : List Bs.E) (lo hi l1 h1 : Nat) (w : World) (h : RG w lo hi A g) (hh : hi ≤ w.heap.size) (hm : RE w l1 h1 A1 l) (hh1 : h1 ≤ w.heap.size) (hl : g.length ≤ 9223372036854775807) (hll : l.length ≤ 9223372036854775807) :
    Calls Try.prog 14 #[.slice A g.length c, .slice A1 l.length c1] w fun e w' => e = .returned (.bool (Bs.logV g l)) ∧ Below w.heap.size w w' := by
  have q1 := ValidGraph_any A c g lo hi w h hh hl
  cases hv : Bs.valid g
  · rw [hv] at q1
    have C1 := Lib.hid q1
    have HV := Lib.hid (Bs.logV_no1 (l := l) hv)
    clear q1 hv h hm
    go_enter Try.func14, Try.ntmps14
    go_wp2_with fail
    with_reducible refine (C1.out).mono ?_
    rintro e w1 ⟨rfl, hb⟩
    have HB := Lib.hid hb
    clear hb
    go_wp2
    go_ret
    exact ⟨ret_bool HV.out.symm, HB.out⟩
  rw [hv] at q1
  have C1 := Lib.hid q1
  by_cases h16 : l.length ≤ 16
  rotate_left
  · have HV := Lib.hid (Bs.logV_no2 (g := g) h16)
    have d1 : decide ((l.length : Int) > 16) = true := by simp; omega
    have d2 : decide ((16 : Int) < (l.length : Int)) = true := by simp; omega
    clear q1 hv h hm
    go_enter Try.func14, Try.ntmps14
    go_wp2_with fail
    with_reducible refine (C1.out).mono ?_
    rintro e w1 ⟨rfl, hb⟩
    have HB := Lib.hid hb
    clear hb
    go_wp2
    go_ret
    exact ⟨ret_bool HV.out.symm, HB.out⟩
  have d1 : decide ((l.length : Int) > 16) = false := by simp; omega
  have d2 : decide ((16 : Int) < (l.length : Int)) = false := by simp; omega
  have hF := valid_fine hv
  have h8 := Bs.fine_len hF
  have HLI := Lib.hid (fun k (hk : Bs.evK g l k = true) => Bs.LI.of hF k hk)
  have HES := Lib.hid (fun k => Bs.evK_succ g l k)
  have HENO := Lib.hid (fun k (hk : k < l.length) (hx : Bs.evOk g l k = false) => Bs.logV_no3 (Bs.evK_no (n := l.length) hk hx))
  have HYES := Lib.hid (fun (hx : Bs.evK g l l.length = true) => show Bs.logV g l = true from Bs.logV_iff.2 ⟨hv, h16, hx⟩)
  have C2 := Lib.hid (fun (now : Int) (f : Nat → Int) (B O : List Int) (xa xt : Int) (xo : Bool) W (hb : Below w.heap.size w W) (hB : ∀ y ∈ B, 0 ≤ y ∧ y < 8) (hO : ∀ y ∈ O, 0 ≤ y ∧ y < 8) (hf : ∀ i, i < 8 → 0 ≤ f i ∧ f i ≤ 100000) => accepts_any now f B O xa xt xo A c g lo hi W (h.below hb hh) (Nat.le_trans hh hb.size) hF hB hO hf)
  have HR := Lib.hid hm
  clear q1 hv h hm hF
  go_enter Try.func14, Try.ntmps14
  go_wp2_with fail
  with_reducible refine (C1.out).mono ?_
  rintro e w1 ⟨rfl, hb⟩
  have HS1 := Lib.hid (LS.new w1 0 z8 0 0)
  have HB1 := Lib.hid (hb.alloc hb.size (.cells (lsA 0 z8 0 0) 61))
  rw [lsZero] at HS1 HB1
  have s1 := hb.size
  clear hb C1
  go_wp2
  go_loopw [19] (fun i wr => ∃ (k : Nat), k ≤ l.length ∧ i = .int .i64 k ∧ Bs.evK g l k = true ∧ LS wr w1.heap.size (Bs.nwK l k) (Bs.bgF l k) (Bs.bits (Bs.bgL l k)) (Bs.bits (Bs.ovL l k)) ∧ Below w.heap.size w wr) (fun i _ => l.length - (intOf i).toNat)
  case atStart => exact ⟨0, Nat.zero_le _, rfl, rfl, HS1.out, HB1.out⟩
  case round =>
    obtain ⟨k, hk, rfl, hev, hls, hb⟩ := hrel
    clear HS1 HB1
    have hli := HLI.out k hev
    by_cases hlt : k < l.length
    · obtain ⟨b, o, rfl, _, _, q0, q1, q2⟩ := (HR.out.below hb hh1).at_ hlt
      have hacc := Bs.acc_eq hli
      have c2 := C2.out (Bs.nwK l k) (Bs.bgF l k) (Bs.bgL l k) (Bs.ovL l k) (Bs.ge l k).at_ (Bs.ge l k).task (Bs.ge l k).over _ (hb.alloc hb.size (.cells #[.int .i64 (Bs.ge l k).at_, .int .i64 (Bs.ge l k).task, .bool (Bs.ge l k).over] 33)) (hli.b8 h8) (hli.o8 h8) (fun i _ => by have := hli.fb i; omega)
      have hsu := HES.out k
      rw [hev, Bool.true_and] at hsu
      have hno := HENO.out k hlt
      have HSU := Lib.hid hsu
      have HNO := Lib.hid hno
      have HLS := Lib.hid (hls.alloc (.cells #[.int .i64 (Bs.ge l k).at_, .int .i64 (Bs.ge l k).task, .bool (Bs.ge l k).over] 33))
      have HEV := Lib.hid (show EV (wr.alloc (.cells #[.int .i64 (Bs.ge l k).at_, .int .i64 (Bs.ge l k).task, .bool (Bs.ge l k).over] 33)) wr.heap.size (Bs.ge l k) from Blk.new wr _ _)
      have HBA := Lib.hid (hb.alloc hb.size (.cells #[.int .i64 (Bs.ge l k).at_, .int .i64 (Bs.ge l k).task, .bool (Bs.ge l k).over] 33))
      have slt := hls.lt
      have i0 : (0 : Int) ≤ (k : Int) := by omega
      have i1 : (k : Int) < (l.length : Int) := by omega
      have C3 := Lib.hid (fun (hx : Bs.evOk g l k = true) W => after_any l k (Bs.nwK l k) W (hli.b8 h8) (hli.o8 h8) (by have := Bs.evOk_iff.1 hx; omega))
      rw [show (⟨(Bs.ge l k).at_, (Bs.ge l k).task, (Bs.ge l k).over⟩ : Bs.E) = Bs.ge l k from rfl, hacc] at c2
      have C2a := Lib.hid c2
      clear hls hb hev hli hacc c2 hsu hno HLI HES HENO HYES C2
      generalize Bs.nwK l k = nw at *
      generalize Bs.bgF l k = bf at *
      generalize Bs.bits (Bs.bgL l k) = bb at *
      generalize Bs.bits (Bs.ovL l k) = ob at *
      cases hok : Bs.evOk g l k
      · rw [hok] at C2a
        have HN := Lib.hid (HNO.out hok)
        clear hok C3
        go_wp2_with (first
          | (refine ls_load rfl _ rfl w1.heap.size nw bf bb ob rfl HLS.out ?_))
        with_reducible refine (C2a.out).mono ?_
        rintro e w5 ⟨rfl, hb5⟩
        have HB5 := Lib.hid (HBA.out.trans (hb5.mono HBA.out.size))
        clear hb5
        go_wp2
        go_ret
        exact ⟨ret_bool HN.out.symm, HB5.out⟩
      · rw [hok] at C2a
        have HEK := Lib.hid (HSU.out.trans hok)
        have C3a := Lib.hid (C3.out hok)
        clear hok C3
        go_wp2_with (first
          | (refine ls_load rfl _ rfl w1.heap.size nw bf bb ob rfl HLS.out ?_))
        with_reducible refine (C2a.out).mono ?_
        rintro e w5 ⟨rfl, hb5⟩
        have s5 := hb5.size
        have HB5 := Lib.hid (HBA.out.trans (hb5.mono HBA.out.size))
        have HLS5 := Lib.hid (HLS.out.below hb5 HLS.out.lt)
        have hev5 := Blk.below HEV.out hb5 (Blk.lt HEV.out)
        have v0 : w5.cell? ⟨wr.heap.size, 0, none⟩ = some (.int .i64 (Bs.ge l k).at_) := (Blk.cell hev5 0).trans rfl
        have v1 : w5.cell? ⟨wr.heap.size, 1, none⟩ = some (.int .i64 (Bs.ge l k).task) := (Blk.cell hev5 1).trans rfl
        have v2 : w5.cell? ⟨wr.heap.size, 2, none⟩ = some (.bool (Bs.ge l k).over) := (Blk.cell hev5 2).trans rfl
        clear hb5 hev5 C2a
        go_wp2_with (first
          | (refine ls_load rfl _ rfl w1.heap.size nw bf bb ob rfl HLS5.out ?_))
        with_reducible refine (C3a.out _).mono ?_
        rintro e w6 ⟨rfl, hb6⟩
        have HB6 := Lib.hid (HB5.out.trans (hb6.mono HB5.out.size))
        have HLS6 := Lib.hid (HLS5.out.below hb6 HLS5.out.lt)
        clear hb6
        go_wp2_with (first
          | (refine ls_store rfl _ _ rfl w1.heap.size nw (Bs.nwK l (k + 1)) bf (Bs.bgF l (k + 1)) bb (Bs.bits (Bs.bgL l (k + 1))) ob (Bs.bits (Bs.ovL l (k + 1))) rfl rfl HLS6.out ?_; intro w9 h9 o9; have H9 := Lib.hid h9; have HB9 := Lib.hid (HB6.out.trans (o9.below s1)); clear h9 o9))
        go_roundw
        case rel => exact ⟨k + 1, by omega, by go_num, HEK.out, H9.out, HB9.out⟩
        case measure => simp [intOf]; omega
    · obtain rfl : k = l.length := by omega
      have HV := Lib.hid (HYES.out hev)
      have HB := Lib.hid hb
      clear hls hb hev hli
      go_wp2
      go_ret
      exact ⟨ret_bool HV.out.symm, HB.out⟩
end Go.Proofs.Ytihgakbopkaemaa
