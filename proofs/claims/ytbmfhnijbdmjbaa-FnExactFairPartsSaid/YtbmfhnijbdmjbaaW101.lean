/-
  WALKS: the heap of users, of the program: as cells, in and out of memory; two users change places.
-/
import Derived.Test.YtbmfhnijbdmjbaaW100
import Derived.Test.YtbmfhnijbdmjbaaMem6
import Derived.Deep.RegionHeld3
namespace Go.Proofs.Ytbmfhnijbdmjbaa
open Go.RowKit
/-- a heap as cells -/
def huA (f : Nat → Bs.H) (n : Int) : Array Value := #[.int .i64 (f 0).at_, .int .i64 (f 0).u.share, .int .i64 (f 0).u.used, .int .i64 (f 0).u.waits, .int .i64 (f 1).at_, .int .i64 (f 1).u.share, .int .i64 (f 1).u.used, .int .i64 (f 1).u.waits, .int .i64 (f 2).at_, .int .i64 (f 2).u.share, .int .i64 (f 2).u.used, .int .i64 (f 2).u.waits, .int .i64 (f 3).at_, .int .i64 (f 3).u.share, .int .i64 (f 3).u.used, .int .i64 (f 3).u.waits, .int .i64 (f 4).at_, .int .i64 (f 4).u.share, .int .i64 (f 4).u.used, .int .i64 (f 4).u.waits, .int .i64 n]
theorem five {i : Nat} (h : i < 5) : i = 0 ∨ i = 1 ∨ i = 2 ∨ i = 3 ∨ i = 4 := by omega
theorem huA_size (f : Nat → Bs.H) (n : Int) : (huA f n).size = 21 := rfl
theorem huA_n (f : Nat → Bs.H) (n : Int) : (huA f n)[20]? = some (.int .i64 n) := rfl
theorem huA_at (f : Nat → Bs.H) (n : Int) {i : Nat} (h : i < 5) : (huA f n)[i * 4]? = some (.int .i64 (f i).at_) ∧ (huA f n)[i * 4 + 1]? = some (.int .i64 (f i).u.share) ∧ (huA f n)[i * 4 + 2]? = some (.int .i64 (f i).u.used) ∧ (huA f n)[i * 4 + 3]? = some (.int .i64 (f i).u.waits) := by
  rcases five h with rfl | rfl | rfl | rfl | rfl <;> exact ⟨rfl, rfl, rfl, rfl⟩
theorem huA_size_set (f : Nat → Bs.H) (n m : Int) : (huA f n).setIfInBounds 20 (.int .i64 m) = huA f m := rfl
theorem huA_set (f : Nat → Bs.H) (n : Int) {i : Nat} (h : i < 5) (x : Bs.H) : ((((huA f n).setIfInBounds (i * 4) (.int .i64 x.at_)).setIfInBounds (i * 4 + 1) (.int .i64 x.u.share)).setIfInBounds (i * 4 + 2) (.int .i64 x.u.used)).setIfInBounds (i * 4 + 3) (.int .i64 x.u.waits) = huA (Bs.upd f i x) n := by
  rcases five h with rfl | rfl | rfl | rfl | rfl <;> rfl
theorem huOne (f : Nat → Bs.H) (n : Int) : (huA f n).all (·.oneCell') = true := by simp [huA, Value.oneCell']
theorem huSize : (Try.prog.info? 55).map (·.size) = some 21 := by kernel_rfl
/-- a heap in memory -/
def UB (w : World) (b : Nat) (f : Nat → Bs.H) (n : Int) : Prop := Blk w b 55 (huA f n)
theorem UB.n {w : World} {b : Nat} {f : Nat → Bs.H} {n : Int} (h : UB w b f n) : w.cell? ⟨b, 20, none⟩ = some (.int .i64 n) := (Blk.cell h 20).trans rfl
theorem UB.c0 {w : World} {b : Nat} {f : Nat → Bs.H} {n : Int} (h : UB w b f n) {i : Nat} (hi : i < 5) : w.cell? ⟨b, i * 4, none⟩ = some (.int .i64 (f i).at_) := (Blk.cell h _).trans (huA_at f n hi).1
theorem UB.c1 {w : World} {b : Nat} {f : Nat → Bs.H} {n : Int} (h : UB w b f n) {i : Nat} (hi : i < 5) : w.cell? ⟨b, i * 4 + 1, none⟩ = some (.int .i64 (f i).u.share) := (Blk.cell h _).trans (huA_at f n hi).2.1
theorem UB.c2 {w : World} {b : Nat} {f : Nat → Bs.H} {n : Int} (h : UB w b f n) {i : Nat} (hi : i < 5) : w.cell? ⟨b, i * 4 + 2, none⟩ = some (.int .i64 (f i).u.used) := (Blk.cell h _).trans (huA_at f n hi).2.2.1
theorem UB.c3 {w : World} {b : Nat} {f : Nat → Bs.H} {n : Int} (h : UB w b f n) {i : Nat} (hi : i < 5) : w.cell? ⟨b, i * 4 + 3, none⟩ = some (.int .i64 (f i).u.waits) := (Blk.cell h _).trans (huA_at f n hi).2.2.2
theorem UB.frozen {w : World} {b : Nat} {f : Nat → Bs.H} {n : Int} (h : UB w b f n) (i : Nat) : w.frozen? ⟨b, i, none⟩ = false := Blk.frozen h i
theorem UB.setN {w : World} {b : Nat} {f : Nat → Bs.H} {n : Int} (h : UB w b f n) (m : Int) : UB (w.setCell ⟨b, 20, none⟩ (.int .i64 m)) b f m := by
  unfold UB
  rw [← huA_size_set f n m]
  exact Blk.set_ h 20 _
def set4 (w : World) (b o : Nat) (x : Bs.H) : World := (((w.setCell ⟨b, o, none⟩ (.int .i64 x.at_)).setCell ⟨b, o + 1, none⟩ (.int .i64 x.u.share)).setCell ⟨b, o + 2, none⟩ (.int .i64 x.u.used)).setCell ⟨b, o + 3, none⟩ (.int .i64 x.u.waits)
theorem UB.setP {w : World} {b : Nat} {f : Nat → Bs.H} {n : Int} (h : UB w b f n) {i : Nat} (hi : i < 5) (x : Bs.H) : UB (set4 w b (i * 4) x) b (Bs.upd f i x) n := by
  unfold UB set4
  rw [← huA_set f n hi x]
  exact Blk.set_ (Blk.set_ (Blk.set_ (Blk.set_ h _ _) _ _) _ _) _ _
theorem UB.below {w w' : World} {b B : Nat} {f : Nat → Bs.H} {n : Int} (h : UB w b f n) (hb : Below B w w') (hg : b < B) : UB w' b f n := Blk.below h hb hg
theorem UB.lt {w : World} {b : Nat} {f : Nat → Bs.H} {n : Int} (h : UB w b f n) : b < w.heap.size := Blk.lt h
theorem UB.alloc {w : World} {b : Nat} {f : Nat → Bs.H} {n : Int} (h : UB w b f n) (o : Obj) : UB (w.alloc o) b f n := Blk.alloc h o
theorem UB.new (w : World) (f : Nat → Bs.H) (n : Int) : UB (w.alloc (.cells (huA f n) 55)) w.heap.size f n := Blk.new w _ _
theorem UB.drewN {w : World} {b : Nat} {f : Nat → Bs.H} {n : Int} (h : UB w b f n) (k : Nat) : UB (w.drewN k) b f n := h
theorem OnlyB.ub {b g : Nat} {f : Nat → Bs.H} {n : Int} {w w' : World} (h : OnlyB b w w') (hb : UB w g f n) (hne : g ≠ b) : UB w' g f n := (h.far g hne).trans hb
theorem huRow_only (w : World) (b : Nat) (f f' : Nat → Bs.H) (n n' : Int) (hb : UB w b f n) : UB (w.setRow b (huA f' n')) b f' n' ∧ OnlyB b w (w.setRow b (huA f' n')) := by
  refine ⟨setRow_heap w b _ _ _ _ hb, rfl, rfl, rfl, by simp, fun k hk => setRow_other w b k _ hk⟩
theorem hu_load {ops : Array Oper} {rest : List Oper} {o : Oper} {a : Act} {w : World} {Q : Exit → Act → World → Prop} (hgd : o.guard = none) (x : Operand) (ho : o.op = .load 55 x)
    (b : Nat) (f : Nat → Bs.H) (n : Int) (hx : a.eval x = .pointer (some ⟨b, 0, none⟩)) (hb : UB w b f n) (h : wpList Try.prog ops Q rest (a.put o.dst (.agg (huA f n))) w) : wpList Try.prog ops Q (o :: rest) a w :=
  wpList_load_row hgd 55 x ho b hx 55 (huA f n) (0, 0) _ hb Try.underlying55 rfl huSize h
theorem hu_store {ops : Array Oper} {rest : List Oper} {o : Oper} {a : Act} {w : World} {Q : Exit → Act → World → Prop} (hgd : o.guard = none) (x y : Operand) (ho : o.op = .store 55 x y)
    (b : Nat) (f f' : Nat → Bs.H) (n n' : Int) (hx : a.eval x = .pointer (some ⟨b, 0, none⟩)) (hy : a.eval y = .agg (huA f' n')) (hb : UB w b f n)
    (h : ∀ w', UB w' b f' n' → OnlyB b w w' → wpList Try.prog ops Q rest (a.put o.dst undef) w') : wpList Try.prog ops Q (o :: rest) a w :=
  wpList_store_row hgd 55 x y ho b (huA f' n') hx hy 55 (huA f n) hb huSize rfl (huOne _ _) (h _ (huRow_only w b f f' n n' hb).1 (huRow_only w b f f' n n' hb).2)
theorem hu_ret {fn : Func} {p : Tmp} (h : fn.results = #[.cell p 55]) (tmps : Array Value) (w : World) (g : Nat) (f : Nat → Bs.H) (n : Int) (hp : tmps.getD p undef = .pointer (some ⟨g, 0, none⟩)) (hg : UB w g f n) :
    (results fn tmps).run Try.prog w = .ok (.agg (huA f n)) w :=
  results_cell_row h tmps w g 55 _ (0, 0) _ hp hg Try.underlying55 rfl huSize
def z5 : Nat → Bs.H := fun _ => Bs.h0
theorem z5A : huA z5 0 = #[.int .i64 0, .int .i64 0, .int .i64 0, .int .i64 0, .int .i64 0, .int .i64 0, .int .i64 0, .int .i64 0, .int .i64 0, .int .i64 0, .int .i64 0, .int .i64 0, .int .i64 0, .int .i64 0, .int .i64 0, .int .i64 0, .int .i64 0, .int .i64 0, .int .i64 0, .int .i64 0, .int .i64 0] := rfl
/-- a user of the heap as cells -/
def hA (x : Bs.H) : Array Value := #[.int .i64 x.at_, .int .i64 x.u.share, .int .i64 x.u.used, .int .i64 x.u.waits]
theorem hA_size (x : Bs.H) : (hA x).size = 4 := rfl
theorem hAOne (x : Bs.H) : (hA x).all (·.oneCell') = true := by simp [hA, Value.oneCell']
theorem wuSize : (Try.prog.info? 52).map (·.size) = some 4 := by kernel_rfl
theorem UB.range {w : World} {b : Nat} {f : Nat → Bs.H} {n : Int} (h : UB w b f n) {i : Nat} (hi : i < 5) : w.rangeAt b (i * 4) (hA (f i)).toList := by
  intro j v hj
  match j, hj with
  | 0, hj => cases hj; exact h.c0 hi
  | 1, hj => cases hj; exact h.c1 hi
  | 2, hj => cases hj; exact h.c2 hi
  | 3, hj => cases hj; exact h.c3 hi
theorem UB.there {w : World} {b : Nat} {f : Nat → Bs.H} {n : Int} (h : UB w b f n) {i : Nat} (hi : i < 5) : w.there b (i * 4) 4 := by
  intro j hj
  refine ⟨?_, h.frozen _⟩
  have : j = 0 ∨ j = 1 ∨ j = 2 ∨ j = 3 := by omega
  rcases this with rfl | rfl | rfl | rfl
  · rw [show i * 4 + 0 = i * 4 from rfl, h.c0 hi]; rfl
  · rw [h.c1 hi]; rfl
  · rw [h.c2 hi]; rfl
  · rw [h.c3 hi]; rfl
theorem OnlyB.set (w : World) (b o : Nat) (v : Value) : OnlyB b w (w.setCell ⟨b, o, none⟩ v) := ⟨rfl, rfl, rfl, by simp, fun k hk => heap_setCell_other w ⟨b, o, none⟩ k v hk⟩
theorem OnlyB.trans' {b : Nat} {w w' w'' : World} (h : OnlyB b w w') (k : OnlyB b w' w'') : OnlyB b w w'' := ⟨k.os.trans h.os, k.tape.trans h.tape, k.output.trans h.output, k.size.trans h.size, fun x hx => (k.far x hx).trans (h.far x hx)⟩
theorem set4_only (w : World) (b o : Nat) (x : Bs.H) : OnlyB b w (set4 w b o x) := by
  unfold set4
  exact (((OnlyB.set w b o _).trans' (OnlyB.set _ b (o + 1) _)).trans' (OnlyB.set _ b (o + 2) _)).trans' (OnlyB.set _ b (o + 3) _)
theorem wu_load {ops : Array Oper} {rest : List Oper} {o : Oper} {a : Act} {w : World} {Q : Exit → Act → World → Prop} (hgd : o.guard = none) (x : Operand) (ho : o.op = .load 52 x)
    (b : Nat) (f : Nat → Bs.H) (n : Int) (i : Nat) (hi : i < 5) (hx : a.eval x = .pointer (some ⟨b, i * 4, none⟩)) (hb : UB w b f n) (h : wpList Try.prog ops Q rest (a.put o.dst (.agg #[.int .i64 (f i).at_, .int .i64 (f i).u.share, .int .i64 (f i).u.used, .int .i64 (f i).u.waits])) w) : wpList Try.prog ops Q (o :: rest) a w :=
  wpList_load_mid hgd 52 x ho b (i * 4) hx (hA (f i)).toList _ (hb.range hi) Try.underlying52 rfl wuSize h
theorem wu_store {ops : Array Oper} {rest : List Oper} {o : Oper} {a : Act} {w : World} {Q : Exit → Act → World → Prop} (hgd : o.guard = none) (x y : Operand) (ho : o.op = .store 52 x y)
    (b : Nat) (f : Nat → Bs.H) (n : Int) (i : Nat) (hi : i < 5) (u : Bs.H) (hx : a.eval x = .pointer (some ⟨b, i * 4, none⟩)) (hy : a.eval y = .agg (hA u)) (hb : UB w b f n)
    (h : ∀ w', UB w' b (Bs.upd f i u) n → OnlyB b w w' → wpList Try.prog ops Q rest (a.put o.dst undef) w') : wpList Try.prog ops Q (o :: rest) a w :=
  wpList_store_mid hgd 52 x y ho b (i * 4) (hA u) hx hy (hb.there hi) wuSize (hAOne _) (h _ (hb.setP hi u) (set4_only w b (i * 4) u))
set_option maxHeartbeats 1600000 in
theorem swapped_any (f : Nat → Bs.H) (n : Int) (p q : Nat) (hp : p < 5) (hq : q < 5) (w : World) :
    Calls Try.prog 59 #[.agg (huA f n), .int .i64 (p : Int), .int .i64 (q : Int)] w fun e w' => e = .returned (.agg (huA (Bs.swp f p q) n)) ∧ Below w.heap.size w w' := by
  have kb := (UB.new w f n).alloc (.cells (huA z5 0) 55)
  have kz := UB.new (w.alloc (.cells (huA f n) 55)) z5 0
  rw [show (w.alloc (.cells (huA f n) 55)).heap.size = w.heap.size + 1 from by simp] at kz
  have hbl : Below w.heap.size w ((w.alloc (.cells (huA f n) 55)).alloc (.cells (huA z5 0) 55)) := ((Below.refl _ _).alloc (Nat.le_refl _) _).alloc (by simp) _
  have hs2 : ((w.alloc (.cells (huA f n) 55)).alloc (.cells (huA z5 0) 55)).heap.size = w.heap.size + 1 + 1 := by simp
  rw [z5A] at kb kz hbl hs2
  have HKB := Lib.hid kb
  have HKZ := Lib.hid kz
  have HBL := Lib.hid hbl
  have HS2 := Lib.hid hs2
  have HKU := Lib.hid (show Blk (((w.alloc (.cells (huA f n) 55)).alloc (.cells #[.int .i64 0, .int .i64 0, .int .i64 0, .int .i64 0, .int .i64 0, .int .i64 0, .int .i64 0, .int .i64 0, .int .i64 0, .int .i64 0, .int .i64 0, .int .i64 0, .int .i64 0, .int .i64 0, .int .i64 0, .int .i64 0, .int .i64 0, .int .i64 0, .int .i64 0, .int .i64 0, .int .i64 0] 55)).alloc (.cells #[.int .i64 (f p).at_, .int .i64 (f p).u.share, .int .i64 (f p).u.used, .int .i64 (f p).u.waits] 52)) (w.heap.size + 1 + 1) 52 #[.int .i64 (f p).at_, .int .i64 (f p).u.share, .int .i64 (f p).u.used, .int .i64 (f p).u.waits] from by
    have := Blk.new ((w.alloc (.cells (huA f n) 55)).alloc (.cells #[.int .i64 0, .int .i64 0, .int .i64 0, .int .i64 0, .int .i64 0, .int .i64 0, .int .i64 0, .int .i64 0, .int .i64 0, .int .i64 0, .int .i64 0, .int .i64 0, .int .i64 0, .int .i64 0, .int .i64 0, .int .i64 0, .int .i64 0, .int .i64 0, .int .i64 0, .int .i64 0, .int .i64 0] 55)) 52 #[.int .i64 (f p).at_, .int .i64 (f p).u.share, .int .i64 (f p).u.used, .int .i64 (f p).u.waits]
    rwa [HS2.out] at this)
  have hsz := huA_size f n
  have hsz2 := huA_size (Bs.swp f p q) n
  have i0 : (0 : Int) ≤ (p : Int) := by omega
  have i1 : (p : Int) < 5 := by omega
  have i2 : (0 : Int) ≤ (q : Int) := by omega
  have i3 : (q : Int) < 5 := by omega
  clear kb kz hbl hs2
  go_enter Try.func59, Try.ntmps59
  go_wp2_with (first
    | (refine wu_load rfl _ rfl w.heap.size f n p hp rfl HKB.out ?_)
    | (refine wu_load rfl _ rfl w.heap.size f n q hq rfl (HKB.out.alloc _) ?_)
    | (refine wu_store rfl _ _ rfl w.heap.size f n p hp (f q) rfl rfl (HKB.out.alloc _) ?_; intro w3 h3 o3; have hu3 := o3.blk (HKU.out) (by omega); have c0 := hu3.cell 0; have c1 := hu3.cell 1; have c2 := hu3.cell 2; have c3 := hu3.cell 3; have H3 := Lib.hid h3; have HZ3 := Lib.hid (o3.ub (HKZ.out.alloc (.cells #[.int .i64 (f p).at_, .int .i64 (f p).u.share, .int .i64 (f p).u.used, .int .i64 (f p).u.waits] 52)) (by omega)); have HB3 := Lib.hid ((HBL.out.alloc (by rw [HS2.out]; omega) (.cells #[.int .i64 (f p).at_, .int .i64 (f p).u.share, .int .i64 (f p).u.used, .int .i64 (f p).u.waits] 52)).trans (o3.below (Nat.le_refl _))); clear h3 o3 hu3)
    | (refine wu_store rfl _ _ rfl w.heap.size (Bs.upd f p (f q)) n q hq (f p) rfl rfl H3.out ?_; intro w4 h4 o4; have H4 := Lib.hid (show UB w4 w.heap.size (Bs.swp f p q) n from h4); have HZ4 := Lib.hid (o4.ub HZ3.out (by omega)); have HB4 := Lib.hid (HB3.out.trans (o4.below (Nat.le_refl _))); clear h4 o4)
    | (refine hu_load rfl _ rfl w.heap.size (Bs.swp f p q) n rfl H4.out ?_)
    | (refine hu_store rfl _ _ rfl (w.heap.size + 1) z5 (Bs.swp f p q) 0 n rfl rfl HZ4.out ?_; intro w5 h5 o5; have H5 := Lib.hid h5; have HB5 := Lib.hid (HB4.out.trans (o5.below (Nat.le_succ _))); clear h5 o5))
  exact bodyPost_ret (hu_ret rfl _ _ (w.heap.size + 1) (Bs.swp f p q) n rfl H5.out) rfl ⟨rfl, HB5.out⟩
end Go.Proofs.Ytbmfhnijbdmjbaa
