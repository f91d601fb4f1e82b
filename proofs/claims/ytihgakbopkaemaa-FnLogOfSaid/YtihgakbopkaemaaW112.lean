/-
  WALKS: the state behind some events of a log, of the program: as cells, in and out of memory; what runs; one event more.
-/
import Derived.Test.YtihgakbopkaemaaK14
import Derived.Test.YtihgakbopkaemaaMem11
namespace Go.Proofs.Ytihgakbopkaemaa
open Go.RowKit
/-- a state as cells: the time, the beginnings, what is over -/
def lsA (t : Int) (f : Nat → Int) (b o : Nat) : Array Value := #[.int .i64 t, .int .i64 (f 0), .int .i64 (f 1), .int .i64 (f 2), .int .i64 (f 3), .int .i64 (f 4), .int .i64 (f 5), .int .i64 (f 6), .int .i64 (f 7), .int .u64 (b : Int), .int .u64 (o : Int)]
theorem lsSize : (Try.prog.info? 61).map (·.size) = some 11 := by kernel_rfl
theorem lsOne (t : Int) (f : Nat → Int) (b o : Nat) : (lsA t f b o).all (·.oneCell') = true := by simp [lsA, Value.oneCell']
theorem lsA_size (t : Int) (f : Nat → Int) (b o : Nat) : (lsA t f b o).size = 11 := rfl
def LS (w : World) (a : Nat) (t : Int) (f : Nat → Int) (b o : Nat) : Prop := Blk w a 61 (lsA t f b o)
/-- a row's cells, some of them stored anew -/
def splL (cs : Array Value) (k : Nat) : List Value → Array Value
  | [] => cs
  | v :: r => splL (cs.setIfInBounds k v) (k + 1) r
theorem Blk.splL {a : Nat} {ty : TypeId} : ∀ (vs : List Value) (k : Nat) (w : World) (cs : Array Value), Blk w a ty cs → Blk (w.setCells a k vs) a ty (splL cs k vs) := by
  intro vs
  induction vs with
  | nil => intro k w cs h; exact h
  | cons v r ih => intro k w cs h; exact ih (k + 1) _ _ (Blk.set_ h k v)
theorem Blk.splFarL {a g : Nat} {ty : TypeId} {cs : Array Value} (hne : g ≠ a) : ∀ (vs : List Value) (k : Nat) (w : World), Blk w g ty cs → Blk (w.setCells a k vs) g ty cs := by
  intro vs
  induction vs with
  | nil => intro k w h; exact h
  | cons v r ih => intro k w h; exact ih (k + 1) _ (Blk.far (p := ⟨a, k, none⟩) h hne v)
theorem Below.splL {B a : Nat} {w : World} (ha : B ≤ a) : ∀ (vs : List Value) (k : Nat) (w' : World), Below B w w' → Below B w (w'.setCells a k vs) := by
  intro vs
  induction vs with
  | nil => intro k w' h; exact h
  | cons v r ih => intro k w' h; exact ih (k + 1) _ (h.setCell (p := ⟨a, k, none⟩) ha v)
section
variable {w w' : World} {a b o : Nat} {t : Int} {f : Nat → Int}
theorem LS.new (w : World) (t : Int) (f : Nat → Int) (b o : Nat) : LS (w.alloc (.cells (lsA t f b o) 61)) w.heap.size t f b o := Blk.new w _ _
theorem LS.frozen (p : LS w a t f b o) (i : Nat) : w.frozen? ⟨a, i, none⟩ = false := Blk.frozen p i
theorem LS.now (p : LS w a t f b o) : w.cell? ⟨a, 0, none⟩ = some (.int .i64 t) := (Blk.cell p 0).trans rfl
theorem LS.over (p : LS w a t f b o) : w.cell? ⟨a, 10, none⟩ = some (.int .u64 (o : Int)) := (Blk.cell p 10).trans rfl
theorem LS.begun (p : LS w a t f b o) : w.cell? ⟨a, 9, none⟩ = some (.int .u64 (b : Int)) := (Blk.cell p 9).trans rfl
theorem LS.setNow (p : LS w a t f b o) (x : Int) : LS (w.setCell ⟨a, 0, none⟩ (.int .i64 x)) a x f b o := Blk.set_ p 0 _
theorem LS.setOver (p : LS w a t f b o) (x : Nat) : LS (w.setCell ⟨a, 10, none⟩ (.int .u64 (x : Int))) a t f b x := Blk.set_ p 10 _
theorem LS.below {B : Nat} (p : LS w a t f b o) (hb : Below B w w') (hg : a < B) : LS w' a t f b o := Blk.below p hb hg
theorem LS.lt (p : LS w a t f b o) : a < w.heap.size := Blk.lt p
theorem LS.alloc (p : LS w a t f b o) (x : Obj) : LS (w.alloc x) a t f b o := Blk.alloc p x
theorem LS.far (p : LS w a t f b o) {q : Addr} (hp : a ≠ q.block) (u : Value) : LS (w.setCell q u) a t f b o := Blk.far p hp u
theorem LS.setPlan (p : LS w a t f b o) (f' : Nat → Int) (b' : Nat) : LS (w.setCells a 1 (bgA f' b').toList) a t f' b' o := by
  have e : splL (lsA t f b o) 1 (bgA f' b').toList = lsA t f' b' o := by simp [splL, lsA, bgA]
  have := Blk.splL (bgA f' b').toList 1 w _ p
  rw [e] at this
  exact this
/-- the beginnings lie in the middle -/
theorem LS.planRange (p : LS w a t f b o) : w.rangeAt a 1 (bgA f b).toList := by
  intro j v hv
  have hj : j < 9 := (List.getElem?_eq_some_iff.1 hv).1
  refine (Blk.cell p (1 + j)).trans ?_
  rw [← hv]
  match j, hj with
  | 0, _ => rfl
  | 1, _ => rfl
  | 2, _ => rfl
  | 3, _ => rfl
  | 4, _ => rfl
  | 5, _ => rfl
  | 6, _ => rfl
  | 7, _ => rfl
  | 8, _ => rfl
theorem LS.planThere (p : LS w a t f b o) : w.there a 1 9 := by
  intro j hj
  refine ⟨?_, Blk.frozen p _⟩
  rw [Blk.cell p (1 + j)]
  match j, hj with
  | 0, _ => rfl
  | 1, _ => rfl
  | 2, _ => rfl
  | 3, _ => rfl
  | 4, _ => rfl
  | 5, _ => rfl
  | 6, _ => rfl
  | 7, _ => rfl
  | 8, _ => rfl
end
section
variable {w : World} {ops : Array Oper} {rest : List Oper} {op : Oper} {c : Act} {Q : Exit → Act → World → Prop}
theorem ls_load (hgd : op.guard = none) (x : Operand) (ho : op.op = .load 61 x) (a : Nat) (t : Int) (f : Nat → Int) (b o : Nat) (hx : c.eval x = .pointer (some ⟨a, 0, none⟩)) (hb : LS w a t f b o) (hk : wpList Try.prog ops Q rest (c.put op.dst (.agg (lsA t f b o))) w) : wpList Try.prog ops Q (op :: rest) c w :=
  wpList_load_row hgd 61 x ho a hx 61 (lsA t f b o) (0, 0) _ hb Try.underlying61 rfl lsSize hk
theorem lsRow_only (w : World) (a : Nat) (t t' : Int) (f f' : Nat → Int) (b b' o o' : Nat) (hb : LS w a t f b o) : LS (w.setRow a (lsA t' f' b' o')) a t' f' b' o' ∧ OnlyB a w (w.setRow a (lsA t' f' b' o')) := by
  refine ⟨setRow_heap w a _ _ _ _ hb, rfl, rfl, rfl, by simp, fun k hk => setRow_other w a k _ hk⟩
theorem ls_store (hgd : op.guard = none) (x y : Operand) (ho : op.op = .store 61 x y) (a : Nat) (t t' : Int) (f f' : Nat → Int) (b b' o o' : Nat) (hx : c.eval x = .pointer (some ⟨a, 0, none⟩)) (hy : c.eval y = .agg (lsA t' f' b' o')) (hb : LS w a t f b o)
    (hk : ∀ w', LS w' a t' f' b' o' → OnlyB a w w' → wpList Try.prog ops Q rest (c.put op.dst undef) w') : wpList Try.prog ops Q (op :: rest) c w :=
  wpList_store_row hgd 61 x y ho a (lsA t' f' b' o') hx hy 61 (lsA t f b o) hb lsSize rfl (lsOne _ _ _ _) (hk _ (lsRow_only w a t t' f f' b b' o o' hb).1 (lsRow_only w a t t' f f' b b' o o' hb).2)
theorem ls_ret {fn : Func} {p : Tmp} (hr : fn.results = #[.cell p 61]) (tmps : Array Value) (w : World) (a : Nat) (t : Int) (f : Nat → Int) (b o : Nat) (hp : tmps.getD p undef = .pointer (some ⟨a, 0, none⟩)) (hg : LS w a t f b o) :
    (results fn tmps).run Try.prog w = .ok (.agg (lsA t f b o)) w :=
  results_cell_row hr tmps w a 61 _ (0, 0) _ hp hg Try.underlying61 rfl lsSize
theorem ls_plan (hgd : op.guard = none) (x : Operand) (ho : op.op = .load 57 x) (a : Nat) (t : Int) (f : Nat → Int) (b o : Nat) (hx : c.eval x = .pointer (some ⟨a, 1, none⟩)) (hb : LS w a t f b o) (hk : wpList Try.prog ops Q rest (c.put op.dst (.agg (bgA f b))) w) : wpList Try.prog ops Q (op :: rest) c w :=
  wpList_load_mid hgd 57 x ho a 1 hx (bgA f b).toList _ hb.planRange Try.underlying57 rfl bgSize hk
theorem ls_setPlan (hgd : op.guard = none) (x y : Operand) (ho : op.op = .store 57 x y) (a : Nat) (t : Int) (f f' : Nat → Int) (b b' o : Nat) (hx : c.eval x = .pointer (some ⟨a, 1, none⟩)) (hy : c.eval y = .agg (bgA f' b')) (hb : LS w a t f b o)
    (hk : wpList Try.prog ops Q rest (c.put op.dst undef) (w.setCells a 1 (bgA f' b').toList)) : wpList Try.prog ops Q (op :: rest) c w :=
  wpList_store_mid hgd 57 x y ho a 1 (bgA f' b') hx hy hb.planThere bgSize (bgOne _ _) hk
end
theorem OnlyB.cells {a : Nat} : ∀ (vs : List Value) (k : Nat) (w : World), OnlyB a w (w.setCells a k vs) := by
  intro vs
  induction vs with
  | nil => intro k w; exact ⟨rfl, rfl, rfl, rfl, fun _ _ => rfl⟩
  | cons v r ih => intro k w; exact (OnlyB.setE w a k v).transE (ih (k + 1) _)
theorem ls_setPlan2 {w : World} {ops : Array Oper} {rest : List Oper} {op : Oper} {c : Act} {Q : Exit → Act → World → Prop} (hgd : op.guard = none) (x y : Operand) (ho : op.op = .store 57 x y) (a : Nat) (t : Int) (f f' : Nat → Int) (b b' o : Nat) (hx : c.eval x = .pointer (some ⟨a, 1, none⟩)) (hy : c.eval y = .agg (bgA f' b')) (hb : LS w a t f b o)
    (hk : ∀ w', LS w' a t f' b' o → OnlyB a w w' → wpList Try.prog ops Q rest (c.put op.dst undef) w') : wpList Try.prog ops Q (op :: rest) c w :=
  ls_setPlan hgd x y ho a t f f' b b' o hx hy hb (hk _ (hb.setPlan f' b') (OnlyB.cells _ _ _))
/-- an event's cells -/
def eA (x : Bs.E) : Array Value := #[.int .i64 x.at_, .int .i64 x.task, .bool x.over]
/-- what runs, as bits -/
def runN (b o : Nat) : Nat := b &&& (18446744073709551615 - o)
theorem runN_lt {b o : Nat} (hb : b < 256) : runN b o < 256 := by
  unfold runN
  exact Nat.lt_of_le_of_lt Nat.and_le_left hb
theorem running_any (t : Int) (f : Nat → Int) (b o : Nat) (w : World) (hb8 : b < 256) (ho8 : o < 256) :
    Calls Try.prog 55 #[.agg (lsA t f b o)] w fun e w' => e = .returned (.int .u64 (runN b o : Int)) ∧ Below w.heap.size w w' := by
  have hb := LS.new w t f b o
  have hal : Below w.heap.size w (w.alloc (.cells (lsA t f b o) 61)) := (Below.refl _ _).alloc (Nat.le_refl _) _
  have k9 := hb.begun
  have k10 := hb.over
  have hsz := lsA_size t f b o
  have HE := Lib.hid (show bits .andNot .u64 ((b : Nat) : Int) ((o : Nat) : Int) = (runN b o : Int) from u64_andNot_nat _ _ (by omega) (by omega))
  have HAL := Lib.hid hal
  clear hb hal
  go_enter Try.func55, Try.ntmps55
  go_wp2
  go_ret
  exact ⟨by rw [← HE.out]; rfl, HAL.out⟩
theorem lsA_now (t x : Int) (f : Nat → Int) (b o : Nat) : (lsA t f b o).setIfInBounds 0 (.int .i64 x) = lsA x f b o := rfl
/-- the memory in which an event is laid to a state -/
structure AM (w W : World) (t : Int) (f : Nat → Int) (b o : Nat) (x a : Int) (v : Bool) : Prop where
  st : LS W w.heap.size t f b o
  ev : Blk W (w.heap.size + 1) 33 #[.int .i64 x, .int .i64 a, .bool v]
  zero : LS W (w.heap.size + 1 + 1) 0 z8 0 0
  below : Below w.heap.size w W
theorem AM.new (w : World) (t : Int) (f : Nat → Int) (b o : Nat) (x a : Int) (v : Bool) : AM w (((w.alloc (.cells (lsA t f b o) 61)).alloc (.cells #[.int .i64 x, .int .i64 a, .bool v] 33)).alloc (.cells #[.int .i64 0, .int .i64 0, .int .i64 0, .int .i64 0, .int .i64 0, .int .i64 0, .int .i64 0, .int .i64 0, .int .i64 0, .int .u64 0, .int .u64 0] 61)) t f b o x a v := by
  have l1 := ((LS.new w t f b o).alloc (.cells #[.int .i64 x, .int .i64 a, .bool v] 33)).alloc (.cells (lsA 0 z8 0 0) 61)
  have l2 := ((Blk.new (w.alloc (.cells (lsA t f b o) 61)) 33 #[.int .i64 x, .int .i64 a, .bool v]).alloc (.cells (lsA 0 z8 0 0) 61))
  have l3 := LS.new ((w.alloc (.cells (lsA t f b o) 61)).alloc (.cells #[.int .i64 x, .int .i64 a, .bool v] 33)) 0 z8 0 0
  simp only [World.size_alloc] at l2 l3
  exact ⟨l1, l2, l3, ((((Below.refl w.heap.size w).alloc (Nat.le_refl _) _).alloc (by simp) _).alloc (by simp; omega) _)⟩
set_option maxHeartbeats 1600000 in
theorem after_over (t : Int) (f : Nat → Int) (b o : Nat) (x a : Int) (v : Nat) (w : World) (hv : v < 8) (ho8 : o < 256) (ha : a = (v : Int)) :
    Calls Try.prog 38 #[.agg (lsA t f b o), .agg #[.int .i64 x, .int .i64 a, .bool true]] w fun e w' => e = .returned (.agg (lsA x f b (o ||| 1 <<< v))) ∧ Below w.heap.size w w' := by
  subst ha
  have hm := AM.new w x f b o x (v : Int) true
  have hsz := lsA_size t f b o
  have HM := Lib.hid hm
  have HO := Lib.hid (or_pow o v ho8 hv)
  have i0 : (0 : Int) ≤ (v : Int) := by omega
  have i1 : (v : Int) < 8 := by omega
  clear hm
  go_enter Try.func38, Try.ntmps38
  go_wp2_with fail
  rw [lsA_now]
  generalize (((w.alloc (.cells (lsA x f b o) 61)).alloc (.cells #[.int .i64 x, .int .i64 (v : Int), .bool true] 33)).alloc (.cells #[.int .i64 0, .int .i64 0, .int .i64 0, .int .i64 0, .int .i64 0, .int .i64 0, .int .i64 0, .int .i64 0, .int .i64 0, .int .u64 0, .int .u64 0] 61)) = W at *
  have k10 := HM.out.st.over
  have f10 := HM.out.st.frozen 10
  have e1 : W.cell? ⟨w.heap.size + 1, 1, none⟩ = some (.int .i64 (v : Int)) := (Blk.cell HM.out.ev 1).trans rfl
  have hne : w.heap.size + 1 + 1 ≠ w.heap.size := by omega
  go_region_law (fail)
  all_goals go_wp2_with (first
    | (refine ls_load rfl _ rfl w.heap.size x f b (o ||| 1 <<< v) rfl (by rw [HO.out]; exact (HM.out.st.setOver _)) ?_)
    | (refine ls_store rfl _ _ rfl (w.heap.size + 1 + 1) 0 x z8 f 0 b 0 (o ||| 1 <<< v) rfl rfl (HM.out.zero.far (by exact hne) _) ?_; intro w9 h9 o9))
  all_goals refine bodyPost_ret (ls_ret rfl _ _ (w.heap.size + 1 + 1) x f b (o ||| 1 <<< v) rfl h9) rfl ⟨rfl, ?_⟩
  all_goals exact (((HM.out.below.drewN 1).setCell (by exact Nat.le_refl _) _).trans ((o9.below (by omega))))
set_option maxHeartbeats 1600000 in
theorem after_begin (t : Int) (f : Nat → Int) (b o : Nat) (x a : Int) (v : Nat) (w : World) (hv : v < 8) (hb8 : b < 256) (ha : a = (v : Int)) :
    Calls Try.prog 38 #[.agg (lsA t f b o), .agg #[.int .i64 x, .int .i64 a, .bool false]] w fun e w' => e = .returned (.agg (lsA x (Bs.upd f v x) (b ||| 1 <<< v) o)) ∧ Below w.heap.size w w' := by
  subst ha
  have hm := AM.new w x f b o x (v : Int) false
  have hsz := lsA_size t f b o
  have HM := Lib.hid hm
  have C1 := Lib.hid (fun W => bgWith_any f b v x W hb8 hv)
  have i0 : (0 : Int) ≤ (v : Int) := by omega
  have i1 : (v : Int) < 8 := by omega
  clear hm
  go_enter Try.func38, Try.ntmps38
  go_wp2_with fail
  rw [lsA_now]
  generalize (((w.alloc (.cells (lsA x f b o) 61)).alloc (.cells #[.int .i64 x, .int .i64 (v : Int), .bool false] 33)).alloc (.cells #[.int .i64 0, .int .i64 0, .int .i64 0, .int .i64 0, .int .i64 0, .int .i64 0, .int .i64 0, .int .i64 0, .int .i64 0, .int .u64 0, .int .u64 0] 61)) = W at *
  show Calls Try.prog 69 #[.agg (bgA f b), .int .i64 (v : Int), .int .i64 x] W _
  with_reducible refine (C1.out _).mono ?_
  rintro e w2 ⟨rfl, hb2⟩
  have sz := HM.out.zero.lt
  have h2 := HM.out.st.below hb2 (by omega)
  have z2 := HM.out.zero.below hb2 sz
  have H2 := Lib.hid h2
  have Z2 := Lib.hid z2
  have B2 := Lib.hid (HM.out.below.trans (hb2.mono (by omega)))
  have hne : w.heap.size + 1 + 1 ≠ w.heap.size := by omega
  clear h2 z2 hb2
  go_wp2_with (first
    | (refine ls_setPlan2 rfl _ _ rfl w.heap.size x f (Bs.upd f v x) b (b ||| 1 <<< v) o rfl rfl H2.out ?_; intro w3 h3 o3; have H3 := Lib.hid h3; have Z3 := Lib.hid (show LS w3 (w.heap.size + 1 + 1) 0 z8 0 0 from o3.blk Z2.out hne); have B3 := Lib.hid (B2.out.trans (o3.below (Nat.le_refl _))); clear h3 o3)
    | (refine ls_load rfl _ rfl w.heap.size x (Bs.upd f v x) (b ||| 1 <<< v) o rfl H3.out ?_)
    | (refine ls_store rfl _ _ rfl (w.heap.size + 1 + 1) 0 x z8 (Bs.upd f v x) 0 (b ||| 1 <<< v) 0 o rfl rfl Z3.out ?_; intro w9 h9 o9))
  refine bodyPost_ret (ls_ret rfl _ _ (w.heap.size + 1 + 1) x (Bs.upd f v x) (b ||| 1 <<< v) o rfl h9) rfl ⟨rfl, ?_⟩
  exact B3.out.trans (o9.below (by omega))
end Go.Proofs.Ytihgakbopkaemaa
