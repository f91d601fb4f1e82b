/-
  MERGED TEXTS: W63 W64 W65 W66 W67 W68 W69.
-/
import Derived.Test.YtgpmnfnliifegaaK18
import Derived.Deep.MidRow
import Derived.Test.YtgpmnfnliifegaaK24
import Derived.Deep.RegionHeld
import Derived.Test.YtgpmnfnliifegaaK8
import Derived.Test.YtgpmnfnliifegaaMath31
import Derived.Test.YtgpmnfnliifegaaK11
namespace Go.Proofs.Ytgpmnfnliifegaa
open Go.RowKit
/-- a part of an order as cells: its tasks, how many, their beginnings, what it cannot be better than -/
def poA (o : Nat → Int) (n : Nat) (f : Nat → Int) (b : Nat) (z : Int) : Array Value := #[.int .i64 (o 0), .int .i64 (o 1), .int .i64 (o 2), .int .i64 (o 3), .int .i64 (o 4), .int .i64 (n : Int),
  .int .i64 (f 0), .int .i64 (f 1), .int .i64 (f 2), .int .i64 (f 3), .int .i64 (f 4), .int .i64 (f 5), .int .i64 (f 6), .int .i64 (f 7), .int .u64 (b : Int), .int .i64 z]
theorem poA_size (o : Nat → Int) (n : Nat) (f : Nat → Int) (b : Nat) (z : Int) : (poA o n f b z).size = 16 := rfl
theorem poOne (o : Nat → Int) (n : Nat) (f : Nat → Int) (b : Nat) (z : Int) : (poA o n f b z).all (·.oneCell') = true := by simp [poA, Value.oneCell']
theorem poSize : (Try.prog.info? 82).map (·.size) = some 16 := by kernel_rfl
def PO (w : World) (a : Nat) (o : Nat → Int) (n : Nat) (f : Nat → Int) (b : Nat) (z : Int) : Prop := Blk w a 82 (poA o n f b z)
variable {w w' : World} {a n b : Nat} {o f : Nat → Int} {z : Int}
theorem PO.new (w : World) (o : Nat → Int) (n : Nat) (f : Nat → Int) (b : Nat) (z : Int) : PO (w.alloc (.cells (poA o n f b z) 82)) w.heap.size o n f b z := Blk.new w _ _
theorem PO.frozen (h : PO w a o n f b z) (i : Nat) : w.frozen? ⟨a, i, none⟩ = false := Blk.frozen h i
theorem PO.size_ (h : PO w a o n f b z) : w.cell? ⟨a, 5, none⟩ = some (.int .i64 (n : Int)) := (Blk.cell h 5).trans rfl
theorem PO.least (h : PO w a o n f b z) : w.cell? ⟨a, 15, none⟩ = some (.int .i64 z) := (Blk.cell h 15).trans rfl
theorem PO.set_ (h : PO w a o n f b z) : w.cell? ⟨a, 14, none⟩ = some (.int .u64 (b : Int)) := (Blk.cell h 14).trans rfl
theorem PO.at_ (h : PO w a o n f b z) {i : Nat} (hi : i < 5) : w.cell? ⟨a, i, none⟩ = some (.int .i64 (o i)) := (Blk.cell h i).trans (by
  match i, hi with
  | 0, _ => rfl
  | 1, _ => rfl
  | 2, _ => rfl
  | 3, _ => rfl
  | 4, _ => rfl)
theorem PO.start (h : PO w a o n f b z) {i : Nat} (hi : i < 8) : w.cell? ⟨a, 6 + i, none⟩ = some (.int .i64 (f i)) := (Blk.cell h _).trans (by
  rcases eight hi with rfl | rfl | rfl | rfl | rfl | rfl | rfl | rfl <;> rfl)
theorem PO.setSize (h : PO w a o n f b z) (k : Nat) : PO (w.setCell ⟨a, 5, none⟩ (.int .i64 (k : Int))) a o k f b z := by
  unfold PO
  exact Blk.set_ h 5 _
theorem PO.setLeast (h : PO w a o n f b z) (x : Int) : PO (w.setCell ⟨a, 15, none⟩ (.int .i64 x)) a o n f b x := by
  unfold PO
  exact Blk.set_ h 15 _
theorem PO.setAt (h : PO w a o n f b z) {i : Nat} (hi : i < 5) (x : Int) : PO (w.setCell ⟨a, i, none⟩ (.int .i64 x)) a (Bs.upd o i x) n f b z := by
  have e : (poA o n f b z).setIfInBounds i (.int .i64 x) = poA (Bs.upd o i x) n f b z := by
    match i, hi with
    | 0, _ => rfl
    | 1, _ => rfl
    | 2, _ => rfl
    | 3, _ => rfl
    | 4, _ => rfl
  unfold PO
  rw [← e]
  exact Blk.set_ h i _
theorem PO.below {B : Nat} (h : PO w a o n f b z) (hb : Below B w w') (hg : a < B) : PO w' a o n f b z := Blk.below h hb hg
theorem PO.lt (h : PO w a o n f b z) : a < w.heap.size := Blk.lt h
theorem PO.alloc (h : PO w a o n f b z) (x : Obj) : PO (w.alloc x) a o n f b z := Blk.alloc h x
theorem PO.far (h : PO w a o n f b z) {p : Addr} (hp : a ≠ p.block) (u : Value) : PO (w.setCell p u) a o n f b z := Blk.far h hp u
/-- the beginnings lie in the middle -/
theorem PO.range (h : PO w a o n f b z) : w.rangeAt a 6 (bgA f b).toList := by
  intro j v hv
  have hj : j < 9 := (List.getElem?_eq_some_iff.1 hv).1
  refine (Blk.cell h (6 + j)).trans ?_
  rw [← hv]
  match j, hj with
  | 0, _ => rfl
  | 1, _ => rfl
  | 2, _ => rfl
  | 3, _ => rfl
  | 4, _ => rfl
  | 5, _ => rfl
  | 6, _ => rfl
  | 7, _ => rfl
  | 8, _ => rfl
theorem PO.there (h : PO w a o n f b z) : w.there a 6 9 := by
  intro j hj
  refine ⟨?_, Blk.frozen h _⟩
  rw [Blk.cell h (6 + j)]
  match j, hj with
  | 0, _ => rfl
  | 1, _ => rfl
  | 2, _ => rfl
  | 3, _ => rfl
  | 4, _ => rfl
  | 5, _ => rfl
  | 6, _ => rfl
  | 7, _ => rfl
  | 8, _ => rfl
theorem PO.setStart (h : PO w a o n f b z) {i : Nat} (hi : i < 8) (x : Int) : PO (w.setCell ⟨a, 6 + i, none⟩ (.int .i64 x)) a o n (Bs.upd f i x) b z := by
  have e : (poA o n f b z).setIfInBounds (6 + i) (.int .i64 x) = poA o n (Bs.upd f i x) b z := by
    rcases eight hi with rfl | rfl | rfl | rfl | rfl | rfl | rfl | rfl <;> rfl
  unfold PO
  rw [← e]
  exact Blk.set_ h _ _
theorem PO.setB (h : PO w a o n f b z) (c : Nat) : PO (w.setCell ⟨a, 14, none⟩ (.int .u64 (c : Int))) a o n f c z := by
  unfold PO
  exact Blk.set_ h 14 _
theorem poA_congr {f f' : Nat → Int} (o : Nat → Int) (n b : Nat) (z : Int) (h : ∀ i, i < 8 → f i = f' i) : poA o n f b z = poA o n f' b z := by
  unfold poA
  rw [h 0 (by omega), h 1 (by omega), h 2 (by omega), h 3 (by omega), h 4 (by omega), h 5 (by omega), h 6 (by omega), h 7 (by omega)]
theorem PO.setPlan (h : PO w a o n f b z) (f' : Nat → Int) (b' : Nat) : PO (w.setCells a 6 (bgA f' b').toList) a o n f' b' z := by
  have h1 := (((((((h.setStart (i := 0) (by omega) (f' 0)).setStart (i := 1) (by omega) (f' 1)).setStart (i := 2) (by omega) (f' 2)).setStart (i := 3) (by omega) (f' 3)).setStart (i := 4) (by omega) (f' 4)).setStart (i := 5) (by omega) (f' 5)).setStart (i := 6) (by omega) (f' 6)).setStart (i := 7) (by omega) (f' 7)
  have h2 := h1.setB b'
  have e : (bgA f' b').toList = [.int .i64 (f' 0), .int .i64 (f' 1), .int .i64 (f' 2), .int .i64 (f' 3), .int .i64 (f' 4), .int .i64 (f' 5), .int .i64 (f' 6), .int .i64 (f' 7), .int .u64 (b' : Int)] := rfl
  rw [e]
  simp only [World.setCells, Nat.reduceAdd]
  simp only [Nat.reduceAdd] at h2
  unfold PO at h2 ⊢
  rw [poA_congr (f' := f') o n b' z (fun i hi => by
    rcases eight hi with rfl | rfl | rfl | rfl | rfl | rfl | rfl | rfl <;> simp [Bs.upd])] at h2
  exact h2
theorem po_load {ops : Array Oper} {rest : List Oper} {op : Oper} {c : Act} {w : World} {Q : Exit → Act → World → Prop} (hgd : op.guard = none) (x : Operand) (ho : op.op = .load 82 x)
    (a : Nat) (o : Nat → Int) (n : Nat) (f : Nat → Int) (b : Nat) (z : Int) (hx : c.eval x = .pointer (some ⟨a, 0, none⟩)) (hb : PO w a o n f b z) (h : wpList Try.prog ops Q rest (c.put op.dst (.agg (poA o n f b z))) w) : wpList Try.prog ops Q (op :: rest) c w :=
  wpList_load_row hgd 82 x ho a hx 82 (poA o n f b z) (0, 0) _ hb Try.underlying82 rfl poSize h
theorem po_plan {ops : Array Oper} {rest : List Oper} {op : Oper} {c : Act} {w : World} {Q : Exit → Act → World → Prop} (hgd : op.guard = none) (x : Operand) (ho : op.op = .load 54 x)
    (a : Nat) (o : Nat → Int) (n : Nat) (f : Nat → Int) (b : Nat) (z : Int) (hx : c.eval x = .pointer (some ⟨a, 6, none⟩)) (hb : PO w a o n f b z) (h : wpList Try.prog ops Q rest (c.put op.dst (.agg (bgA f b))) w) : wpList Try.prog ops Q (op :: rest) c w :=
  wpList_load_mid hgd 54 x ho a 6 hx (bgA f b).toList _ hb.range Try.underlying54 rfl bgSize h
theorem po_setPlan {ops : Array Oper} {rest : List Oper} {op : Oper} {c : Act} {w : World} {Q : Exit → Act → World → Prop} (hgd : op.guard = none) (x y : Operand) (ho : op.op = .store 54 x y)
    (a : Nat) (o : Nat → Int) (n : Nat) (f f' : Nat → Int) (b b' : Nat) (z : Int) (hx : c.eval x = .pointer (some ⟨a, 6, none⟩)) (hy : c.eval y = .agg (bgA f' b')) (hb : PO w a o n f b z)
    (h : wpList Try.prog ops Q rest (c.put op.dst undef) (w.setCells a 6 (bgA f' b').toList)) : wpList Try.prog ops Q (op :: rest) c w :=
  wpList_store_mid hgd 54 x y ho a 6 (bgA f' b') hx hy hb.there bgSize (bgOne _ _) h
theorem poRow_only (w : World) (a : Nat) (o o' f f' : Nat → Int) (n n' b b' : Nat) (z z' : Int) (hb : PO w a o n f b z) : PO (w.setRow a (poA o' n' f' b' z')) a o' n' f' b' z' ∧ OnlyB a w (w.setRow a (poA o' n' f' b' z')) := by
  refine ⟨setRow_heap w a _ _ _ _ hb, rfl, rfl, rfl, by simp, fun k hk => setRow_other w a k _ hk⟩
theorem po_store {ops : Array Oper} {rest : List Oper} {op : Oper} {c : Act} {w : World} {Q : Exit → Act → World → Prop} (hgd : op.guard = none) (x y : Operand) (ho : op.op = .store 82 x y)
    (a : Nat) (o o' f f' : Nat → Int) (n n' b b' : Nat) (z z' : Int) (hx : c.eval x = .pointer (some ⟨a, 0, none⟩)) (hy : c.eval y = .agg (poA o' n' f' b' z')) (hb : PO w a o n f b z)
    (h : ∀ w', PO w' a o' n' f' b' z' → OnlyB a w w' → wpList Try.prog ops Q rest (c.put op.dst undef) w') : wpList Try.prog ops Q (op :: rest) c w :=
  wpList_store_row hgd 82 x y ho a (poA o' n' f' b' z') hx hy 82 (poA o n f b z) hb poSize rfl (poOne _ _ _ _ _) (h _ (poRow_only w a o o' f f' n n' b b' z z' hb).1 (poRow_only w a o o' f f' n n' b b' z z' hb).2)
theorem po_ret {fn : Func} {p : Tmp} (h : fn.results = #[.cell p 82]) (tmps : Array Value) (w : World) (a : Nat) (o : Nat → Int) (n : Nat) (f : Nat → Int) (b : Nat) (z : Int) (hp : tmps.getD p undef = .pointer (some ⟨a, 0, none⟩)) (hg : PO w a o n f b z) :
    (results fn tmps).run Try.prog w = .ok (.agg (poA o n f b z)) w :=
  results_cell_row h tmps w a 82 _ (0, 0) _ hp hg Try.underlying82 rfl poSize
end Go.Proofs.Ytgpmnfnliifegaa
namespace Go.Proofs.Ytgpmnfnliifegaa
open Go.RowKit
/-- what a search is over, as cells -/
def seA (A : Option Addr) (n c : Nat) (At : Option Addr) (nt ct : Nat) (A1 : Option Addr) (nm c1 : Nat) (wk : Int) : Array Value := #[.slice A n c, .slice At nt ct, .slice A1 nm c1, .int .i64 wk]
theorem seSize : (Try.prog.info? 108).map (·.size) = some 4 := by kernel_rfl
theorem setCells9 (w : World) (a : Nat) (f : Nat → Int) (b : Nat) : w.setCells a 6 (bgA f b).toList = ((((((((w.setCell ⟨a, 6, none⟩ (.int .i64 (f 0))).setCell ⟨a, 7, none⟩ (.int .i64 (f 1))).setCell ⟨a, 8, none⟩ (.int .i64 (f 2))).setCell ⟨a, 9, none⟩ (.int .i64 (f 3))).setCell ⟨a, 10, none⟩ (.int .i64 (f 4))).setCell ⟨a, 11, none⟩ (.int .i64 (f 5))).setCell ⟨a, 12, none⟩ (.int .i64 (f 6))).setCell ⟨a, 13, none⟩ (.int .i64 (f 7))).setCell ⟨a, 14, none⟩ (.int .u64 (b : Int)) := by
  have e : (bgA f b).toList = [.int .i64 (f 0), .int .i64 (f 1), .int .i64 (f 2), .int .i64 (f 3), .int .i64 (f 4), .int .i64 (f 5), .int .i64 (f 6), .int .i64 (f 7), .int .u64 (b : Int)] := rfl
  rw [e]
  simp only [World.setCells, Nat.reduceAdd]
theorem Blk.farCells {w : World} {k a : Nat} {t : TypeId} {cs : Array Value} (h : Blk w k t cs) (hne : k ≠ a) (f : Nat → Int) (b : Nat) : Blk (w.setCells a 6 (bgA f b).toList) k t cs := by
  rw [setCells9]
  exact ((((((((h.far (p := ⟨a, 6, none⟩) hne _).far (p := ⟨a, 7, none⟩) hne _).far (p := ⟨a, 8, none⟩) hne _).far (p := ⟨a, 9, none⟩) hne _).far (p := ⟨a, 10, none⟩) hne _).far (p := ⟨a, 11, none⟩) hne _).far (p := ⟨a, 12, none⟩) hne _).far (p := ⟨a, 13, none⟩) hne _).far (p := ⟨a, 14, none⟩) hne _
theorem Below.cells9 {B : Nat} {w w' : World} (h : Below B w w') {a : Nat} (ha : B ≤ a) (f : Nat → Int) (b : Nat) : Below B w (w'.setCells a 6 (bgA f b).toList) := by
  rw [setCells9]
  exact ((((((((h.setCell (p := ⟨a, 6, none⟩) ha _).setCell (p := ⟨a, 7, none⟩) ha _).setCell (p := ⟨a, 8, none⟩) ha _).setCell (p := ⟨a, 9, none⟩) ha _).setCell (p := ⟨a, 10, none⟩) ha _).setCell (p := ⟨a, 11, none⟩) ha _).setCell (p := ⟨a, 12, none⟩) ha _).setCell (p := ⟨a, 13, none⟩) ha _).setCell (p := ⟨a, 14, none⟩) ha _
theorem upd_same {o : Nat → Int} {n : Nat} {x : Int} : Bs.upd o n x n = x := by unfold Bs.upd; rw [if_pos rfl]
set_option maxRecDepth 20000 in
set_option maxHeartbeats 3200000 in
theorem searchWith_any (A : Option Addr) (c : Nat) (g : List Bs.T) (A1 : Option Addr) (c1 : Nat) (m : List Int) (wk : Int) (At : Option Addr) (ct : Nat) (T : List Int) (l : List Int) (o : Nat → Int) (n : Nat) (f : Nat → Int) (b : Nat) (z : Int) (v : Nat) (lo hi l1 h1 lt ht : Nat) (w : World) (h : RG w lo hi A g) (hh : hi ≤ w.heap.size) (hm : RI w l1 h1 A1 m) (hh1 : h1 ≤ w.heap.size) (hT : RI w lt ht At T) (hht : ht ≤ w.heap.size) (hTl : T.length = g.length) (hTb : ∀ i, i < g.length → 0 ≤ Bs.giZ T i ∧ Bs.giZ T i ≤ 1000) (hF : Bs.fine g = true) (hroom : Bs.roomOk m = true) (hw1 : 1 ≤ wk) (h5 : g.length ≤ 5) (hp : Bs.Part g l) (hv : v < g.length) (hk : Bs.okNext g l v = true) (hK : Bs.Keeps g m wk l o n f b z) (hn : n < g.length) :
    Calls Try.prog 126 #[.agg (seA A g.length c At T.length ct A1 m.length c1 wk), .agg (poA o n f b z), .int .i64 (v : Int)] w fun e w' => e = .returned (.agg (poA (Bs.upd o n (v : Int)) (n + 1) (Bs.upd f v (Bs.seekT g m wk (Bs.osA g m wk l) v)) (b ||| 1 <<< v) (max z (Bs.seekT g m wk (Bs.osA g m wk l) v + Bs.giZ T v)))) ∧ Below w.heap.size w w' := by
  have h8 := Bs.fine_len hF
  have hpl := Bs.Part.pla (m := m) (wk := wk) hF hroom hw1 l.length l rfl hp
  obtain ⟨hnm, hnd⟩ := Bs.need_of_ok hk
  obtain ⟨_, hr0, hr1, _, _⟩ := hpl.lst hF hroom hw1 hv hnd
  have hsm := hpl.sm hF
  have hwl := fun W (hb : Below w.heap.size w W) => withLeast_any (Bs.osA g m wk l) l f A c g A1 c1 m wk v lo hi l1 h1 W (h.below hb hh) (Nat.le_trans hh hb.size) (hm.below hb hh1) (Nat.le_trans hh1 hb.size) hF hroom hw1 hpl hK.start hK.small hv hnm hnd
  rw [← hK.set_] at hwl
  have hR160 : Bs.seekT g m wk (Bs.osA g m wk l) v ≤ 160 := by omega
  obtain ⟨R, hR⟩ : ∃ R, R = Bs.seekT g m wk (Bs.osA g m wk l) v := ⟨_, rfl⟩
  rw [← hR] at hwl hR160 hr0 ⊢
  obtain ⟨bT, oT, rfl, _, hbT, hcT⟩ := hT.at_ (k := v) (by omega)
  rw [← Bs.giZ_at (by omega)] at hcT
  have htb := hTb v hv
  have hvT : v < T.length := by omega
  obtain ⟨tv, htv⟩ : ∃ tv, tv = Bs.giZ T v := ⟨_, rfl⟩
  rw [← htv] at hcT htb ⊢
  have hok : ∀ i, i < 8 → 0 ≤ f i ∧ f i ≤ 100000 := hK.small
  have h8v : v < 8 := by omega
  have hn5 : n < 5 := by omega
  obtain ⟨PB, hPB⟩ : ∃ PB, PB = poA (Bs.upd o n (v : Int)) (n + 1) f b z := ⟨_, rfl⟩
  have b1 : Blk (w.alloc (.cells (seA A g.length c (some ⟨bT, oT, none⟩) T.length ct A1 m.length c1 wk) 108)) w.heap.size 108 (seA A g.length c (some ⟨bT, oT, none⟩) T.length ct A1 m.length c1 wk) := Blk.new w _ _
  have p2 := PO.new (w.alloc (.cells (seA A g.length c (some ⟨bT, oT, none⟩) T.length ct A1 m.length c1 wk) 108)) (Bs.upd o n (v : Int)) (n + 1) f b z
  rw [← hPB] at p2
  have hbl := (((Below.refl w.heap.size w).alloc (Nat.le_refl _) (.cells (seA A g.length c (some ⟨bT, oT, none⟩) T.length ct A1 m.length c1 wk) 108)).alloc (by simp) (.cells PB 82)).alloc (by simp; omega) (.cells (poA z8 0 z8 0 0) 82)
  have p3 := PO.new ((w.alloc (.cells (seA A g.length c (some ⟨bT, oT, none⟩) T.length ct A1 m.length c1 wk) 108)).alloc (.cells PB 82)) z8 0 z8 0 0
  have b3 := (b1.alloc (.cells PB 82)).alloc (.cells (poA z8 0 z8 0 0) 82)
  have p23 := p2.alloc (.cells (poA z8 0 z8 0 0) 82)
  simp only [World.size_alloc] at p3 p23
  have hPA : ((poA o n f b z).setIfInBounds n (.int .i64 (v : Int))).setIfInBounds 5 (.int .i64 ((n : Int) + 1)) = PB := by
    rw [hPB]
    clear h hm hT hh hh1 hht p2 p3 b1 b3 p23 hbl hwl hpl hK hPB hn hv hk hp
    match n, hn5 with
    | 0, _ => rfl
    | 1, _ => rfl
    | 2, _ => rfl
    | 3, _ => rfl
    | 4, _ => rfl
  have e5 : (poA o n f b z)[5]? = some (.int .i64 (n : Int)) := rfl
  have en : (poA o n f b z)[n]? = some (.int .i64 (o n)) := by
    clear h hm hT hh hh1 hht p2 p3 b1 b3 p23 hbl hwl hpl hK hPB hPA hn hv hk hp
    match n, hn5 with
    | 0, _ => rfl
    | 1, _ => rfl
    | 2, _ => rfl
    | 3, _ => rfl
    | 4, _ => rfl
  have s0 : (seA A g.length c (some ⟨bT, oT, none⟩) T.length ct A1 m.length c1 wk)[0]? = some (.slice A g.length c) := rfl
  have s1 : (seA A g.length c (some ⟨bT, oT, none⟩) T.length ct A1 m.length c1 wk)[1]? = some (.slice (some ⟨bT, oT, none⟩) T.length ct) := rfl
  have s2 : (seA A g.length c (some ⟨bT, oT, none⟩) T.length ct A1 m.length c1 wk)[2]? = some (.slice A1 m.length c1) := rfl
  have s3 : (seA A g.length c (some ⟨bT, oT, none⟩) T.length ct A1 m.length c1 wk)[3]? = some (.int .i64 wk) := rfl
  have n5 : ¬ (n = 5) := by omega
  have n5' : ¬ (5 = n) := by omega
  have z0 : (0 : Int) ≤ (n : Int) := by omega
  have z1 : (n : Int) < 5 := by omega
  have hwn : IntKind.i64.wrap ((n : Int) + 1) = (n : Int) + 1 := IntWalk.i64_in _ ⟨by omega, by omega⟩
  have hpz : (.cells (poA z8 0 z8 0 0) 82 : Obj) = .cells #[.int .i64 0, .int .i64 0, .int .i64 0, .int .i64 0, .int .i64 0, .int .i64 0, .int .i64 0, .int .i64 0, .int .i64 0, .int .i64 0, .int .i64 0, .int .i64 0, .int .i64 0, .int .i64 0, .int .u64 0, .int .i64 0] 82 := rfl
  rw [hpz] at p3 b3 p23 hbl
  have HP := Lib.hid p23
  have HP3 := Lib.hid p3
  have HB3 := Lib.hid b3
  have HBL := Lib.hid hbl
  have C1 := Lib.hid (hwl _ hbl)
  clear p3 b3 p23 hbl
  clear hm h hT hpl hnm hnd hsm hTl hTb hF hroom hp hk hK hR htv p2 b1 hpz
  go_enter Try.func126, Try.ntmps126
  clear hwl hPB
  generalize poA o n f b z = PA at *
  go_wp2_with (first | (refine po_plan rfl _ rfl (w.heap.size + 1) (Bs.upd o n (v : Int)) (n + 1) f b z rfl HP.out ?_))
  with_reducible refine (C1.out).mono ?_
  rintro e w5 ⟨rfl, hb5⟩
  have sz4 : w.heap.size + 3 ≤ w5.heap.size := by have := hb5.size; simpa using this
  have HP5 := Lib.hid (HP.out.below hb5 (by simp <;> omega))
  have HZ5 := Lib.hid (HP3.out.below hb5 (by simp <;> omega))
  have HS5 := Lib.hid (Blk.below HB3.out hb5 (by simp <;> omega))
  have HB5 := Lib.hid (HBL.out.trans (hb5.mono HBL.out.size))
  clear hb5 C1 HP HP3 HB3 HBL
  go_wp2_with (first | (refine po_setPlan rfl _ _ rfl (w.heap.size + 1) (Bs.upd o n (v : Int)) (n + 1) f (Bs.upd f v R) b (b ||| 1 <<< v) z rfl rfl HP5.out ?_))
  have HP6 := Lib.hid (HP5.out.setPlan (Bs.upd f v R) (b ||| 1 <<< v))
  have HZ6 := Lib.hid (Blk.farCells HZ5.out (show w.heap.size + 2 ≠ w.heap.size + 1 by omega) (Bs.upd f v R) (b ||| 1 <<< v))
  have HS6 := Lib.hid (Blk.farCells HS5.out (show w.heap.size ≠ w.heap.size + 1 by omega) (Bs.upd f v R) (b ||| 1 <<< v))
  have HB6 := Lib.hid (Below.cells9 HB5.out (show w.heap.size ≤ w.heap.size + 1 by omega) (Bs.upd f v R) (b ||| 1 <<< v))
  clear HP5 HZ5 HS5 HB5 sz4
  generalize w5.setCells (w.heap.size + 1) 6 (bgA (Bs.upd f v R) (b ||| 1 <<< v)).toList = W6 at *
  have k15 := HP6.out.least
  have kf := HP6.out.frozen 15
  have kv := HP6.out.start h8v
  rw [upd_same] at kv
  have k1 : W6.cell? ⟨w.heap.size, 1, none⟩ = some (.slice (some ⟨bT, oT, none⟩) T.length ct) := (Blk.cell HS6.out 1).trans rfl
  have kT : W6.cell? ⟨bT, oT + v, none⟩ = some (.int .i64 tv) := (HB6.out.cell (p := ⟨bT, oT + v, none⟩) (by show bT < _; omega)).trans hcT
  have i0 : (0 : Int) ≤ (v : Int) := by omega
  have i1 : (v : Int) < 8 := by omega
  have i2 : (v : Int) < (T.length : Int) := by omega
  have hne : ¬ bT = w.heap.size + 1 := by omega
  clear e5 en s0 s1 s2 s3 hPA hcT
  have hw2 : IntKind.i64.wrap (R + tv) = R + tv := IntWalk.i64_in _ ⟨by omega, by omega⟩
  go_region_law (go_simp; (go_at_call 52; (with_reducible refine (laterOf_any _ _ _).mono ?_); rintro e w6 ⟨rfl, rfl⟩))
  all_goals go_wp2_with (first
    | (refine po_load rfl _ rfl (w.heap.size + 1) (Bs.upd o n (v : Int)) (n + 1) (Bs.upd f v R) (b ||| 1 <<< v) (max z (R + tv)) rfl (by exact HP6.out.setLeast _) ?_)
    | (refine po_store rfl _ _ rfl (w.heap.size + 2) z8 (Bs.upd o n (v : Int)) z8 (Bs.upd f v R) 0 (n + 1) 0 (b ||| 1 <<< v) 0 (max z (R + tv)) rfl rfl (Blk.far HZ6.out (by simp) _) ?_; intro w9 h9 o9))
  all_goals refine bodyPost_ret (po_ret rfl _ _ (w.heap.size + 2) (Bs.upd o n (v : Int)) (n + 1) (Bs.upd f v R) (b ||| 1 <<< v) (max z (R + tv)) rfl h9) rfl ⟨rfl, ?_⟩
  all_goals exact (((HB6.out.drewN 1).setCell (by simp) _).trans ((o9.below (by omega))))
end Go.Proofs.Ytgpmnfnliifegaa
namespace Go.Proofs.Ytgpmnfnliifegaa
open Go.RowKit
/-- what is known of the best order so far -/
structure KN (k : List Int × Int) (o : Nat → Int) (n : Nat) (z : Int) : Prop where
  size : n = k.1.length
  list : ∀ i (h : i < k.1.length), o i = k.1[i]
  end_ : z = k.2
theorem Bs.Keeps.kn {g : List Bs.T} {m : List Int} {wk : Int} {l : List Int} {o f : Nat → Int} {n b : Nat} {z : Int} (h : Bs.Keeps g m wk l o n f b z) : KN (l, Bs.lbO g m wk l) o n z := ⟨h.size, h.list, h.least⟩
/-- a part stored cell by cell -/
def sixteen (w : World) (a : Nat) (o : Nat → Int) (n : Nat) (f : Nat → Int) (b : Nat) (z : Int) : World :=
  (((((((((((((((w.setCell ⟨a, 0, none⟩ (.int .i64 (o 0))).setCell ⟨a, 1, none⟩ (.int .i64 (o 1))).setCell ⟨a, 2, none⟩ (.int .i64 (o 2))).setCell ⟨a, 3, none⟩ (.int .i64 (o 3))).setCell ⟨a, 4, none⟩ (.int .i64 (o 4))).setCell ⟨a, 5, none⟩ (.int .i64 (n : Int))).setCell ⟨a, 6, none⟩ (.int .i64 (f 0))).setCell ⟨a, 7, none⟩ (.int .i64 (f 1))).setCell ⟨a, 8, none⟩ (.int .i64 (f 2))).setCell ⟨a, 9, none⟩ (.int .i64 (f 3))).setCell ⟨a, 10, none⟩ (.int .i64 (f 4))).setCell ⟨a, 11, none⟩ (.int .i64 (f 5))).setCell ⟨a, 12, none⟩ (.int .i64 (f 6))).setCell ⟨a, 13, none⟩ (.int .i64 (f 7))).setCell ⟨a, 14, none⟩ (.int .u64 (b : Int))).setCell ⟨a, 15, none⟩ (.int .i64 z)
theorem poA_congr2 {o o' f f' : Nat → Int} (n b : Nat) (z : Int) (ho : ∀ i, i < 5 → o i = o' i) (h : ∀ i, i < 8 → f i = f' i) : poA o n f b z = poA o' n f' b z := by
  unfold poA
  rw [ho 0 (by omega), ho 1 (by omega), ho 2 (by omega), ho 3 (by omega), ho 4 (by omega), h 0 (by omega), h 1 (by omega), h 2 (by omega), h 3 (by omega), h 4 (by omega), h 5 (by omega), h 6 (by omega), h 7 (by omega)]
theorem sixteen_po {w : World} {a : Nat} {o f : Nat → Int} {n b : Nat} {z : Int} (h : PO w a o n f b z) (o' f' : Nat → Int) (n' b' : Nat) (z' : Int) : PO (sixteen w a o' n' f' b' z') a o' n' f' b' z' := by
  have h1 := (((((h.setAt (i := 0) (by omega) (o' 0)).setAt (i := 1) (by omega) (o' 1)).setAt (i := 2) (by omega) (o' 2)).setAt (i := 3) (by omega) (o' 3)).setAt (i := 4) (by omega) (o' 4)).setSize n'
  have h2 := (((((((h1.setStart (i := 0) (by omega) (f' 0)).setStart (i := 1) (by omega) (f' 1)).setStart (i := 2) (by omega) (f' 2)).setStart (i := 3) (by omega) (f' 3)).setStart (i := 4) (by omega) (f' 4)).setStart (i := 5) (by omega) (f' 5)).setStart (i := 6) (by omega) (f' 6)).setStart (i := 7) (by omega) (f' 7)
  have h3 := (h2.setB b').setLeast z'
  simp only [Nat.reduceAdd] at h3
  unfold PO at h3 ⊢
  rw [poA_congr2 (o' := o') (f' := f') n' b' z' (by
    intro i hi
    match i, hi with
    | 0, _ => simp [Bs.upd]
    | 1, _ => simp [Bs.upd]
    | 2, _ => simp [Bs.upd]
    | 3, _ => simp [Bs.upd]
    | 4, _ => simp [Bs.upd]) (by
    intro i hi
    rcases eight hi with rfl | rfl | rfl | rfl | rfl | rfl | rfl | rfl <;> simp [Bs.upd])] at h3
  exact h3
theorem sixteen_size (w : World) (a : Nat) (o : Nat → Int) (n : Nat) (f : Nat → Int) (b : Nat) (z : Int) : (sixteen w a o n f b z).heap.size = w.heap.size := by unfold sixteen; simp only [World.size_setCell]
theorem sixteen_blk {w : World} {a k : Nat} {t : TypeId} {cs : Array Value} (h : Blk w k t cs) (hne : k ≠ a) (o : Nat → Int) (n : Nat) (f : Nat → Int) (b : Nat) (z : Int) : Blk (sixteen w a o n f b z) k t cs := by
  unfold sixteen
  exact (((((((((((((((h.far (p := ⟨a, 0, none⟩) hne _).far (p := ⟨a, 1, none⟩) hne _).far (p := ⟨a, 2, none⟩) hne _).far (p := ⟨a, 3, none⟩) hne _).far (p := ⟨a, 4, none⟩) hne _).far (p := ⟨a, 5, none⟩) hne _).far (p := ⟨a, 6, none⟩) hne _).far (p := ⟨a, 7, none⟩) hne _).far (p := ⟨a, 8, none⟩) hne _).far (p := ⟨a, 9, none⟩) hne _).far (p := ⟨a, 10, none⟩) hne _).far (p := ⟨a, 11, none⟩) hne _).far (p := ⟨a, 12, none⟩) hne _).far (p := ⟨a, 13, none⟩) hne _).far (p := ⟨a, 14, none⟩) hne _).far (p := ⟨a, 15, none⟩) hne _
theorem sixteen_below {B : Nat} {w w' : World} (h : Below B w w') {a : Nat} (ha : B ≤ a) (o : Nat → Int) (n : Nat) (f : Nat → Int) (b : Nat) (z : Int) : Below B w (sixteen w' a o n f b z) :=
  (((((((((((((((h.setCell (p := ⟨a, 0, none⟩) ha _).setCell (p := ⟨a, 1, none⟩) ha _).setCell (p := ⟨a, 2, none⟩) ha _).setCell (p := ⟨a, 3, none⟩) ha _).setCell (p := ⟨a, 4, none⟩) ha _).setCell (p := ⟨a, 5, none⟩) ha _).setCell (p := ⟨a, 6, none⟩) ha _).setCell (p := ⟨a, 7, none⟩) ha _).setCell (p := ⟨a, 8, none⟩) ha _).setCell (p := ⟨a, 9, none⟩) ha _).setCell (p := ⟨a, 10, none⟩) ha _).setCell (p := ⟨a, 11, none⟩) ha _).setCell (p := ⟨a, 12, none⟩) ha _).setCell (p := ⟨a, 13, none⟩) ha _).setCell (p := ⟨a, 14, none⟩) ha _).setCell (p := ⟨a, 15, none⟩) ha _
/-- what bestOf hands back -/
def BestR (k : List Int × Int) (w : World) (e : Ending) (w' : World) : Prop := (∃ o n f b z, e = .returned (.agg (poA o n f b z)) ∧ KN k o n z) ∧ Below w.heap.size w w'
end Go.Proofs.Ytgpmnfnliifegaa
namespace Go.Proofs.Ytgpmnfnliifegaa
open Go.RowKit
theorem poA_15 (o : Nat → Int) (n : Nat) (f : Nat → Int) (b : Nat) (z : Int) : (poA o n f b z)[15]? = some (.int .i64 z) := rfl
theorem poA_5 (o : Nat → Int) (n : Nat) (f : Nat → Int) (b : Nat) (z : Int) : (poA o n f b z)[5]? = some (.int .i64 (n : Int)) := rfl
/-- the memory as bestOf begins -/
structure BM (w W : World) (A : Option Addr) (ng c : Nat) (At : Option Addr) (nt ct : Nat) (A1 : Option Addr) (nm c1 : Nat) (wk : Int) (o : Nat → Int) (n : Nat) (f : Nat → Int) (b : Nat) (z : Int) (ok : Nat → Int) (nk : Nat) (fk : Nat → Int) (bk : Nat) (zk : Int) : Prop where
  se : Blk W w.heap.size 108 (seA A ng c At nt ct A1 nm c1 wk)
  part : PO W (w.heap.size + 1) o n f b z
  known : PO W (w.heap.size + 1 + 1) ok nk fk bk zk
  zero : PO W (w.heap.size + 1 + 1 + 1) z8 0 z8 0 0
  below : Below w.heap.size w W
theorem BM.new (w : World) (A : Option Addr) (ng c : Nat) (At : Option Addr) (nt ct : Nat) (A1 : Option Addr) (nm c1 : Nat) (wk : Int) (o : Nat → Int) (n : Nat) (f : Nat → Int) (b : Nat) (z : Int) (ok : Nat → Int) (nk : Nat) (fk : Nat → Int) (bk : Nat) (zk : Int) :
    BM w ((((w.alloc (.cells (seA A ng c At nt ct A1 nm c1 wk) 108)).alloc (.cells (poA o n f b z) 82)).alloc (.cells (poA ok nk fk bk zk) 82)).alloc (.cells #[.int .i64 0, .int .i64 0, .int .i64 0, .int .i64 0, .int .i64 0, .int .i64 0, .int .i64 0, .int .i64 0, .int .i64 0, .int .i64 0, .int .i64 0, .int .i64 0, .int .i64 0, .int .i64 0, .int .u64 0, .int .i64 0] 82)) A ng c At nt ct A1 nm c1 wk o n f b z ok nk fk bk zk := by
  have b1 : Blk (w.alloc (.cells (seA A ng c At nt ct A1 nm c1 wk) 108)) w.heap.size 108 (seA A ng c At nt ct A1 nm c1 wk) := Blk.new w _ _
  have p2 := PO.new (w.alloc (.cells (seA A ng c At nt ct A1 nm c1 wk) 108)) o n f b z
  have p3 := PO.new ((w.alloc (.cells (seA A ng c At nt ct A1 nm c1 wk) 108)).alloc (.cells (poA o n f b z) 82)) ok nk fk bk zk
  have p4 := PO.new (((w.alloc (.cells (seA A ng c At nt ct A1 nm c1 wk) 108)).alloc (.cells (poA o n f b z) 82)).alloc (.cells (poA ok nk fk bk zk) 82)) z8 0 z8 0 0
  simp only [World.size_alloc] at p2 p3 p4
  refine ⟨((b1.alloc _).alloc _).alloc _, (p2.alloc _).alloc _, p3.alloc _, p4, ?_⟩
  exact ((((Below.refl w.heap.size w).alloc (Nat.le_refl _) _).alloc (by simp) _).alloc (by simp; omega) _).alloc (by simp; omega) _
theorem BM.drewN {w W : World} {A : Option Addr} {ng c : Nat} {At : Option Addr} {nt ct : Nat} {A1 : Option Addr} {nm c1 : Nat} {wk : Int} {o : Nat → Int} {n : Nat} {f : Nat → Int} {b : Nat} {z : Int} {ok : Nat → Int} {nk : Nat} {fk : Nat → Int} {bk : Nat} {zk : Int} (h : BM w W A ng c At nt ct A1 nm c1 wk o n f b z ok nk fk bk zk) (j : Nat) : BM w (W.drewN j) A ng c At nt ct A1 nm c1 wk o n f b z ok nk fk bk zk :=
  ⟨h.se, h.part, h.known, h.zero, h.below.drewN j⟩
theorem BM.after {w W W' : World} {A : Option Addr} {ng c : Nat} {At : Option Addr} {nt ct : Nat} {A1 : Option Addr} {nm c1 : Nat} {wk : Int} {o : Nat → Int} {n : Nat} {f : Nat → Int} {b : Nat} {z : Int} {ok : Nat → Int} {nk : Nat} {fk : Nat → Int} {bk : Nat} {zk : Int} (h : BM w W A ng c At nt ct A1 nm c1 wk o n f b z ok nk fk bk zk) (hb : Below W.heap.size W W') : BM w W' A ng c At nt ct A1 nm c1 wk o n f b z ok nk fk bk zk :=
  ⟨Blk.below h.se hb (Blk.lt h.se), h.part.below hb h.part.lt, h.known.below hb h.known.lt, h.zero.below hb h.zero.lt, h.below.trans (hb.mono h.below.size)⟩
theorem BM.stored {w W : World} {A : Option Addr} {ng c : Nat} {At : Option Addr} {nt ct : Nat} {A1 : Option Addr} {nm c1 : Nat} {wk : Int} {o : Nat → Int} {n : Nat} {f : Nat → Int} {b : Nat} {z : Int} {ok : Nat → Int} {nk : Nat} {fk : Nat → Int} {bk : Nat} {zk : Int} (h : BM w W A ng c At nt ct A1 nm c1 wk o n f b z ok nk fk bk zk) (o' : Nat → Int) (n' : Nat) (f' : Nat → Int) (b' : Nat) (z' : Int) : BM w (W.setRow (w.heap.size + 1 + 1) (poA o' n' f' b' z')) A ng c At nt ct A1 nm c1 wk o n f b z o' n' f' b' z' := by
  obtain ⟨h1, h2⟩ := poRow_only W (w.heap.size + 1 + 1) ok o' fk f' nk n' bk b' zk z' h.known
  exact ⟨h2.blk h.se (by omega), h2.blk h.part (by omega), h1, h2.blk h.zero (by omega), h.below.trans (h2.below (by omega))⟩
/-- what stays as it was while the region of a try runs -/
def BS (w : World) (A : Option Addr) (ng c : Nat) (At : Option Addr) (nt ct : Nat) (A1 : Option Addr) (nm c1 : Nat) (wk : Int) (o : Nat → Int) (n : Nat) (f : Nat → Int) (b : Nat) (z : Int) (W : World) : Prop :=
  Blk W w.heap.size 108 (seA A ng c At nt ct A1 nm c1 wk) ∧ PO W (w.heap.size + 1) o n f b z
theorem BM.bs {w W : World} {A : Option Addr} {ng c : Nat} {At : Option Addr} {nt ct : Nat} {A1 : Option Addr} {nm c1 : Nat} {wk : Int} {o : Nat → Int} {n : Nat} {f : Nat → Int} {b : Nat} {z : Int} {ok : Nat → Int} {nk : Nat} {fk : Nat → Int} {bk : Nat} {zk : Int} (h : BM w W A ng c At nt ct A1 nm c1 wk o n f b z ok nk fk bk zk) : BS w A ng c At nt ct A1 nm c1 wk o n f b z W := ⟨h.se, h.part⟩
theorem run_po {op : Oper} {a : Act} {W : World} (x : Operand) (ho : op.op = .load 82 x) (g : Nat) (hx : a.eval x = .pointer (some ⟨g, 0, none⟩)) {o : Nat → Int} {n : Nat} {f : Nat → Int} {b : Nat} {z : Int} (h : PO W g o n f b z) :
    (execOp a.eval op).run Try.prog W = .ok (.value (.agg (poA o n f b z))) W := by
  unfold execOp
  simp only [ho, hx, Instr.loadAt, Instr.sureAddr, Sem.run_bind, Sem.run_pure, Result.andThen_ok, run_loadVar_row W g 82 82 _ (0, 0) _ h Try.underlying82 rfl poSize]
theorem run_se {op : Oper} {a : Act} {W : World} (x : Operand) (ho : op.op = .load 108 x) (g : Nat) (hx : a.eval x = .pointer (some ⟨g, 0, none⟩)) {A : Option Addr} {ng c : Nat} {At : Option Addr} {nt ct : Nat} {A1 : Option Addr} {nm c1 : Nat} {wk : Int} (h : Blk W g 108 (seA A ng c At nt ct A1 nm c1 wk)) :
    (execOp a.eval op).run Try.prog W = .ok (.value (.agg (seA A ng c At nt ct A1 nm c1 wk))) W := by
  unfold execOp
  simp only [ho, hx, Instr.loadAt, Instr.sureAddr, Sem.run_bind, Sem.run_pure, Result.andThen_ok, run_loadVar_row W g 108 108 _ (0, 0) _ h Try.underlying108 rfl seSize]
set_option maxRecDepth 20000 in
set_option maxHeartbeats 1600000 in
theorem bestOf_leave (A : Option Addr) (ng c : Nat) (At : Option Addr) (nt ct : Nat) (A1 : Option Addr) (nm c1 : Nat) (wk : Int) (o : Nat → Int) (n : Nat) (f : Nat → Int) (b : Nat) (z : Int) (ok : Nat → Int) (nk : Nat) (fk : Nat → Int) (bk : Nat) (zk : Int) (w : World) (hz : zk ≤ z) :
    Calls Try.prog 110 #[.agg (seA A ng c At nt ct A1 nm c1 wk), .agg (poA o n f b z), .agg (poA ok nk fk bk zk)] w fun e w' => e = .returned (.agg (poA ok nk fk bk zk)) ∧ Below w.heap.size w w' := by
  have hb := BM.new w A ng c At nt ct A1 nm c1 wk o n f b z ok nk fk bk zk
  obtain ⟨PA, hPA⟩ : ∃ PA, PA = poA o n f b z := ⟨_, rfl⟩
  obtain ⟨KA, hKA⟩ : ∃ KA, KA = poA ok nk fk bk zk := ⟨_, rfl⟩
  obtain ⟨SE, hSE⟩ : ∃ SE, SE = seA A ng c At nt ct A1 nm c1 wk := ⟨_, rfl⟩
  have e15 : PA[15]? = some (.int .i64 z) := by rw [hPA]; exact poA_15 _ _ _ _ _
  have k15 : KA[15]? = some (.int .i64 zk) := by rw [hKA]; exact poA_15 _ _ _ _ _
  rw [← hPA, ← hKA, ← hSE] at hb
  rw [← hPA, ← hKA, ← hSE]
  have HB := Lib.hid hb
  have HKA := Lib.hid hKA
  clear hb hPA hSE hKA
  have d1 : decide (zk ≤ z) = true := by simp [hz]
  have d2 : decide (z ≥ zk) = true := by simp [hz]
  go_enter Try.func110, Try.ntmps110
  go_wp2_with (first
    | (refine po_load rfl _ rfl (w.heap.size + 1 + 1) ok nk fk bk zk rfl HB.out.known ?_)
    | (refine po_store rfl _ _ rfl (w.heap.size + 1 + 1 + 1) z8 ok z8 fk 0 nk 0 bk 0 zk rfl rfl HB.out.zero ?_; intro w9 h9 o9))
  exact bodyPost_ret (po_ret rfl _ _ (w.heap.size + 1 + 1 + 1) ok nk fk bk zk rfl h9) rfl ⟨by rw [HKA.out], HB.out.below.trans (o9.below (by omega))⟩
set_option maxRecDepth 20000 in
set_option maxHeartbeats 1600000 in
theorem bestOf_whole (A : Option Addr) (ng c : Nat) (At : Option Addr) (nt ct : Nat) (A1 : Option Addr) (nm c1 : Nat) (wk : Int) (o : Nat → Int) (f : Nat → Int) (b : Nat) (z : Int) (ok : Nat → Int) (nk : Nat) (fk : Nat → Int) (bk : Nat) (zk : Int) (w : World) (hz : ¬ zk ≤ z) :
    Calls Try.prog 110 #[.agg (seA A ng c At nt ct A1 nm c1 wk), .agg (poA o ng f b z), .agg (poA ok nk fk bk zk)] w fun e w' => e = .returned (.agg (poA o ng f b z)) ∧ Below w.heap.size w w' := by
  have hb := BM.new w A ng c At nt ct A1 nm c1 wk o ng f b z ok nk fk bk zk
  obtain ⟨PA, hPA⟩ : ∃ PA, PA = poA o ng f b z := ⟨_, rfl⟩
  obtain ⟨KA, hKA⟩ : ∃ KA, KA = poA ok nk fk bk zk := ⟨_, rfl⟩
  obtain ⟨SE, hSE⟩ : ∃ SE, SE = seA A ng c At nt ct A1 nm c1 wk := ⟨_, rfl⟩
  have e15 : PA[15]? = some (.int .i64 z) := by rw [hPA]; exact poA_15 _ _ _ _ _
  have e5 : PA[5]? = some (.int .i64 (ng : Int)) := by rw [hPA]; exact poA_5 _ _ _ _ _
  have k15 : KA[15]? = some (.int .i64 zk) := by rw [hKA]; exact poA_15 _ _ _ _ _
  have s0 : SE[0]? = some (.slice A ng c) := by rw [hSE]; rfl
  rw [← hPA, ← hKA, ← hSE] at hb
  rw [← hPA, ← hKA, ← hSE]
  have HB := Lib.hid hb
  have HPA := Lib.hid hPA
  clear hb hPA hSE hKA
  have d1 : decide (zk ≤ z) = false := by simp [hz]
  have d2 : decide (z ≥ zk) = false := by simp [hz]
  go_enter Try.func110, Try.ntmps110
  go_wp2_with (first
    | (refine po_load rfl _ rfl (w.heap.size + 1) o ng f b z rfl HB.out.part ?_)
    | (refine po_store rfl _ _ rfl (w.heap.size + 1 + 1 + 1) z8 o z8 f 0 ng 0 b 0 z rfl rfl HB.out.zero ?_; intro w9 h9 o9))
  exact bodyPost_ret (po_ret rfl _ _ (w.heap.size + 1 + 1 + 1) o ng f b z rfl h9) rfl ⟨by rw [HPA.out], HB.out.below.trans (o9.below (by omega))⟩
set_option maxRecDepth 20000 in
set_option maxHeartbeats 6400000 in
theorem bestOf_step (A : Option Addr) (c : Nat) (g : List Bs.T) (At : Option Addr) (nt ct : Nat) (A1 : Option Addr) (nm c1 : Nat) (wk : Int) (lb : List Int → Int) (r : Nat) (l : List Int) (k : List Int × Int) (o : Nat → Int) (n : Nat) (f : Nat → Int) (z : Int) (ok : Nat → Int) (nk : Nat) (fk : Nat → Int) (bk : Nat) (zk : Int) (lo hi : Nat) (w : World)
    (h : RG w lo hi A g) (hh : hi ≤ w.heap.size) (hF : Bs.fine g = true) (hl8 : ∀ x ∈ l, 0 ≤ x ∧ x < 8) (hn : n < g.length) (hz : ¬ zk ≤ z) (hk : KN k ok nk zk)
    (hw : ∀ v, v < g.length → Bs.okNext g l v = true → ∃ (o1 : Nat → Int) (n1 : Nat) (f1 : Nat → Int) (b1 : Nat) (z1 : Int),
      (∀ W, Below w.heap.size w W → Calls Try.prog 126 #[.agg (seA A g.length c At nt ct A1 nm c1 wk), .agg (poA o n f (Bs.bits l) z), .int .i64 (v : Int)] W fun e w' => e = .returned (.agg (poA o1 n1 f1 b1 z1)) ∧ Below W.heap.size W w') ∧
      ∀ k' (o' : Nat → Int) (n' : Nat) (f' : Nat → Int) (b' : Nat) (z' : Int), KN k' o' n' z' → ∀ W, Below w.heap.size w W → Calls Try.prog 110 #[.agg (seA A g.length c At nt ct A1 nm c1 wk), .agg (poA o1 n1 f1 b1 z1), .agg (poA o' n' f' b' z')] W (BestR (Bs.srch g lb r (l ++ [(v : Int)]) k') W)) :
    Calls Try.prog 110 #[.agg (seA A g.length c At nt ct A1 nm c1 wk), .agg (poA o n f (Bs.bits l) z), .agg (poA ok nk fk bk zk)] w (BestR (Bs.srchK g lb r l k g.length) w) := by
  have h8 := Bs.fine_len hF
  have hb := BM.new w A g.length c At nt ct A1 nm c1 wk o n f (Bs.bits l) z ok nk fk bk zk
  obtain ⟨PA, hPA⟩ : ∃ PA, PA = poA o n f (Bs.bits l) z := ⟨_, rfl⟩
  obtain ⟨KA, hKA⟩ : ∃ KA, KA = poA ok nk fk bk zk := ⟨_, rfl⟩
  obtain ⟨SE, hSE⟩ : ∃ SE, SE = seA A g.length c At nt ct A1 nm c1 wk := ⟨_, rfl⟩
  have e15 : PA[15]? = some (.int .i64 z) := by rw [hPA]; exact poA_15 _ _ _ _ _
  have e5 : PA[5]? = some (.int .i64 (n : Int)) := by rw [hPA]; exact poA_5 _ _ _ _ _
  have k15 : KA[15]? = some (.int .i64 zk) := by rw [hKA]; exact poA_15 _ _ _ _ _
  have s0 : SE[0]? = some (.slice A g.length c) := by rw [hSE]; rfl
  rw [← hPA, ← hKA, ← hSE] at hb
  rw [← hPA, ← hKA, ← hSE]
  have HB := Lib.hid hb
  have HW := Lib.hid hw
  have HK := Lib.hid (show KN (Bs.srchK g lb r l k 0) ok nk zk from hk)
  have CF := Lib.hid (fun v (hv : v < g.length) W (hb : Below w.heap.size w W) => canFollow_any A c g l v lo hi W (h.below hb hh) hF hl8 hv)
  have HSU := Lib.hid (fun i => Bs.srchK_succ g lb r l k i)
  clear hb hPA hSE hKA hw hk h hF hl8
  have d1 : decide (zk ≤ z) = false := by simp [hz]
  have d2 : decide (z ≥ zk) = false := by simp [hz]
  have d3 : ((n : Int) == (g.length : Int)) = false := by rw [beq_eq_false_iff_ne]; omega
  have d3' : (n == g.length) = false := by rw [beq_eq_false_iff_ne]; omega
  go_enter Try.func110, Try.ntmps110
  go_wp2_with fail
  go_loopw [24] (fun i wr => ∃ (j : Nat) (o' : Nat → Int) (n' : Nat) (f' : Nat → Int) (b' : Nat) (z' : Int), j ≤ g.length ∧ i = .int .i64 j ∧ KN (Bs.srchK g lb r l k j) o' n' z' ∧ BM w wr A g.length c At nt ct A1 nm c1 wk o n f (Bs.bits l) z o' n' f' b' z') (fun i _ => g.length - (intOf i).toNat)
  case atStart => exact ⟨0, _, _, _, _, _, Nat.zero_le _, rfl, HK.out, HB.out⟩
  case round =>
    obtain ⟨j, o', n', f', b', z', hj, rfl, hkn, hbm⟩ := hrel
    clear HB HK e15 e5 k15 s0 d1 d2 d3 d3'
    by_cases hlt : j < g.length
    · have C1 := Lib.hid (CF.out j hlt wr hbm.below)
      have hsu := HSU.out j
      have HBM := Lib.hid hbm
      have HKN := Lib.hid hkn
      have hs3 := hbm.zero.lt
      have s0 : wr.cell? ⟨w.heap.size, 0, none⟩ = some (.slice A g.length c) := (Blk.cell hbm.se 0).trans rfl
      have p14 := hbm.part.set_
      have i0 : (0 : Int) ≤ (j : Int) := by omega
      have i1 : (j : Int) < (g.length : Int) := by omega
      cases hb : Bs.okNext g l j
      · rw [hb, if_neg (by decide)] at hsu
        rw [hb] at C1
        have HS := Lib.hid hsu
        clear hbm hkn CF HW HSU hb hsu
        go_wp2_with fail
        with_reducible refine (C1.out).mono ?_
        rintro e _ ⟨rfl, rfl⟩
        go_wp2
        go_roundw
        case rel => exact ⟨j + 1, _, _, _, _, _, by omega, by go_num, by rw [HS.out]; exact HKN.out, HBM.out⟩
        case measure => simp [intOf]; omega
      · rw [hb, if_pos rfl] at hsu
        obtain ⟨o1, n1, f1, b1, z1, hcw, hcb⟩ := HW.out j hlt hb
        rw [hb] at C1
        have HS := Lib.hid hsu
        have CW := Lib.hid hcw
        have CB := Lib.hid (fun W hb => hcb (Bs.srchK g lb r l k j) o' n' f' b' z' HKN.out W hb)
        have HX0 := Lib.hid (show Below w.heap.size w wr.drew from hbm.below.drewN 1)
        clear hbm hkn CF HW HSU hb hsu hcw hcb
        go_wp2_with fail
        with_reducible refine (C1.out).mono ?_
        rintro e _ ⟨rfl, rfl⟩
        clear C1
        go_wp2_with fail
        clear s0 p14
        have H1 := Lib.hid (HBM.out.drewN 1)
        refine wp_region_held_drew (S := BS w A g.length c At nt ct A1 nm c1 wk o n f (Bs.bits l) z) (by kernel_rfl) H1.out.bs (fun hHeld => ?_)
        refine wpAnyH_take (i := 0) (oi := { dst := some 34, op := Op.load 108 (Operand.tmp 3), type := 108, pos := "l6_best.go:102", after := #[], guard := none }) (v := .agg (seA A g.length c At nt ct A1 nm c1 wk)) rfl (by kernel_rfl) (by kernel_rfl) (by kernel_rfl) (fun _ _ _ h => h) (Or.inl ⟨by rfl, fun W hS => run_se _ rfl w.heap.size rfl hS.1⟩) hHeld ?_
        try simp only [Act.put, List.setIfInBounds_toArray, List.set_cons_zero, List.set_cons_succ]
        refine wpAnyH_take (i := 1) (oi := { dst := some 35, op := Op.load 108 (Operand.tmp 3), type := 108, pos := "l6_best.go:102", after := #[], guard := none }) (v := .agg (seA A g.length c At nt ct A1 nm c1 wk)) rfl (by kernel_rfl) (by kernel_rfl) (by kernel_rfl) (fun _ _ _ h => h) (Or.inl ⟨by rfl, fun W hS => run_se _ rfl w.heap.size rfl hS.1⟩) hHeld ?_
        try simp only [Act.put, List.setIfInBounds_toArray, List.set_cons_zero, List.set_cons_succ]
        refine wpAnyH_take (i := 2) (oi := { dst := some 36, op := Op.load 82 (Operand.tmp 4), type := 82, pos := "l6_best.go:102", after := #[], guard := none }) (v := (.agg (poA o n f (Bs.bits l) z))) rfl (by kernel_rfl) (by kernel_rfl) (by kernel_rfl) (fun _ _ _ h => h) (Or.inl ⟨by rfl, fun W hS => run_po _ rfl (w.heap.size + 1) rfl hS.2⟩) hHeld ?_
        try simp only [Act.put, List.setIfInBounds_toArray, List.set_cons_zero, List.set_cons_succ]
        refine wpAnyH_take (i := 3) (oi := { dst := some 37, op := Op.move (Operand.tmp 7), type := 3, pos := "l6_best.go:102", after := #[], guard := none }) (v := .int .i64 (j : Int)) rfl (by kernel_rfl) (by kernel_rfl) (by kernel_rfl) (fun _ _ _ h => h) (Or.inl ⟨by rfl, fun W hS => by rfl⟩) hHeld ?_
        try simp only [Act.put, List.setIfInBounds_toArray, List.set_cons_zero, List.set_cons_succ]
        refine wpAnyH_ready (rs := [4, 5]) (by kernel_rfl) (by simp) ?_
        refine AllReadyH.cons (o := { dst := some 38, op := Op.call { callee := Callee.value (Operand.func 126), args := #[Operand.tmp 35, Operand.tmp 36, Operand.tmp 37], argTypes := #[108, 82, 3] }, type := 82, pos := "l6_best.go:102", after := #[{ on := 1, ground := Ground.data }, { on := 2, ground := Ground.data }, { on := 3, ground := Ground.data }], guard := none }) rfl (fun K hK => ?_) ?_
        · rw [if_pos (by rfl)]
          go_simp
          go_at_call 126
          with_reducible refine (CW.out _ HX0.out).mono ?_
          rintro e w5 ⟨rfl, hb5⟩
          have HX1 := Lib.hid (HX0.out.trans (hb5.mono HX0.out.size))
          have H5 := Lib.hid (H1.out.after hb5)
          clear hb5
          go_wp2_with fail
          refine hK.out _ _ H5.out.bs (fun hHeld => ?_)
          clear hK K
          try simp only [Act.put, List.setIfInBounds_toArray, List.set_cons_zero, List.set_cons_succ]
          refine wpAnyH_ready (rs := [5]) (by kernel_rfl) (by simp) ?_
          refine AllReadyH.cons (o := { dst := some 39, op := Op.load 82 (Operand.tmp 5), type := 82, pos := "l6_best.go:102", after := #[], guard := none }) rfl (fun K hK => ?_) AllReadyH.nil
          rw [if_pos (by rfl)]
          refine wp_load_row 82 _ rfl (w.heap.size + 1 + 1) rfl 82 (poA o' n' f' b' z') (0, 0) _ H5.out.known Try.underlying82 rfl poSize ?_
          refine hK.out _ _ H5.out.bs (fun hHeld => ?_)
          clear hK K
          try simp only [Act.put, List.setIfInBounds_toArray, List.set_cons_zero, List.set_cons_succ]
          refine wpAnyH_ready (rs := [6]) (by kernel_rfl) (by simp) ?_
          refine AllReadyH.cons (o := { dst := some 40, op := Op.call { callee := Callee.value (Operand.func 110), args := #[Operand.tmp 34, Operand.tmp 38, Operand.tmp 39], argTypes := #[108, 82, 82] }, type := 82, pos := "l6_best.go:102", after := #[{ on := 0, ground := Ground.data }, { on := 4, ground := Ground.data }, { on := 5, ground := Ground.data }, { on := 4, ground := Ground.chain }], guard := none }) rfl (fun K hK => ?_) AllReadyH.nil
          rw [if_pos (by rfl)]
          go_simp
          go_at_call 110
          with_reducible refine (CB.out _ HX1.out).mono ?_
          rintro e w6 ⟨⟨o2, n2, f2, b2, z2, rfl, hk2⟩, hb6⟩
          have H6 := Lib.hid (H5.out.after hb6)
          have HK2 := Lib.hid hk2
          clear hb6 hk2
          go_wp2_with fail
          refine hK.out _ _ H6.out.bs (fun hHeld => ?_)
          clear hK K
          try simp only [Act.put, List.setIfInBounds_toArray, List.set_cons_zero, List.set_cons_succ]
          refine wpAnyH_ready (rs := [7]) (by kernel_rfl) (by simp) ?_
          refine AllReadyH.cons (o := { dst := none, op := Op.store 82 (Operand.tmp 5) (Operand.tmp 40), type := 0, pos := "l6_best.go:102", after := #[{ on := 6, ground := Ground.data }, { on := 6, ground := Ground.chain }, { on := 0, ground := Ground.phase }, { on := 1, ground := Ground.phase }, { on := 2, ground := Ground.phase }, { on := 3, ground := Ground.phase }, { on := 4, ground := Ground.phase }, { on := 5, ground := Ground.phase }, { on := 6, ground := Ground.phase }], guard := none }) rfl (fun K hK => ?_) AllReadyH.nil
          rw [if_pos (by rfl)]
          refine wp_store_row 82 _ _ rfl (w.heap.size + 1 + 1) (poA o2 n2 f2 b2 z2) rfl rfl 82 (poA o' n' f' b' z') H6.out.known poSize rfl (poOne _ _ _ _ _) ?_
          refine hK.out _ _ (H6.out.stored o2 n2 f2 b2 z2).bs (fun hHeld => ?_)
          clear hK K
          try simp only [Act.put]
          refine wpAnyH_done (by kernel_rfl) ?_ _
          have HN := Lib.hid (H6.out.stored o2 n2 f2 b2 z2)
          have HKS := Lib.hid (show KN (Bs.srchK g lb r l k (j + 1)) o2 n2 z2 from by rw [HS.out]; exact HK2.out)
          clear hHeld
          generalize w6.setRow (w.heap.size + 1 + 1) (poA o2 n2 f2 b2 z2) = w7 at *
          go_wp2
          go_roundw
          case rel => exact ⟨j + 1, _, _, _, _, _, by omega, by go_num, HKS.out, HN.out⟩
          case measure => simp [intOf]; omega
        refine AllReadyH.cons (o := { dst := some 39, op := Op.load 82 (Operand.tmp 5), type := 82, pos := "l6_best.go:102", after := #[], guard := none }) rfl (fun K hK => ?_) ?_
        · rw [if_pos (by rfl)]
          refine wp_load_row 82 _ rfl (w.heap.size + 1 + 1) rfl 82 (poA o' n' f' b' z') (0, 0) _ H1.out.known Try.underlying82 rfl poSize ?_
          refine hK.out _ _ H1.out.bs (fun hHeld => ?_)
          clear hK K
          try simp only [Act.put, List.setIfInBounds_toArray, List.set_cons_zero, List.set_cons_succ]
          refine wpAnyH_ready (rs := [4]) (by kernel_rfl) (by simp) ?_
          refine AllReadyH.cons (o := { dst := some 38, op := Op.call { callee := Callee.value (Operand.func 126), args := #[Operand.tmp 35, Operand.tmp 36, Operand.tmp 37], argTypes := #[108, 82, 3] }, type := 82, pos := "l6_best.go:102", after := #[{ on := 1, ground := Ground.data }, { on := 2, ground := Ground.data }, { on := 3, ground := Ground.data }], guard := none }) rfl (fun K hK => ?_) AllReadyH.nil
          rw [if_pos (by rfl)]
          go_simp
          go_at_call 126
          with_reducible refine (CW.out _ HX0.out).mono ?_
          rintro e w5 ⟨rfl, hb5⟩
          have HX1 := Lib.hid (HX0.out.trans (hb5.mono HX0.out.size))
          have H5 := Lib.hid (H1.out.after hb5)
          clear hb5
          go_wp2_with fail
          refine hK.out _ _ H5.out.bs (fun hHeld => ?_)
          clear hK K
          try simp only [Act.put, List.setIfInBounds_toArray, List.set_cons_zero, List.set_cons_succ]
          refine wpAnyH_ready (rs := [6]) (by kernel_rfl) (by simp) ?_
          refine AllReadyH.cons (o := { dst := some 40, op := Op.call { callee := Callee.value (Operand.func 110), args := #[Operand.tmp 34, Operand.tmp 38, Operand.tmp 39], argTypes := #[108, 82, 82] }, type := 82, pos := "l6_best.go:102", after := #[{ on := 0, ground := Ground.data }, { on := 4, ground := Ground.data }, { on := 5, ground := Ground.data }, { on := 4, ground := Ground.chain }], guard := none }) rfl (fun K hK => ?_) AllReadyH.nil
          rw [if_pos (by rfl)]
          go_simp
          go_at_call 110
          with_reducible refine (CB.out _ HX1.out).mono ?_
          rintro e w6 ⟨⟨o2, n2, f2, b2, z2, rfl, hk2⟩, hb6⟩
          have H6 := Lib.hid (H5.out.after hb6)
          have HK2 := Lib.hid hk2
          clear hb6 hk2
          go_wp2_with fail
          refine hK.out _ _ H6.out.bs (fun hHeld => ?_)
          clear hK K
          try simp only [Act.put, List.setIfInBounds_toArray, List.set_cons_zero, List.set_cons_succ]
          refine wpAnyH_ready (rs := [7]) (by kernel_rfl) (by simp) ?_
          refine AllReadyH.cons (o := { dst := none, op := Op.store 82 (Operand.tmp 5) (Operand.tmp 40), type := 0, pos := "l6_best.go:102", after := #[{ on := 6, ground := Ground.data }, { on := 6, ground := Ground.chain }, { on := 0, ground := Ground.phase }, { on := 1, ground := Ground.phase }, { on := 2, ground := Ground.phase }, { on := 3, ground := Ground.phase }, { on := 4, ground := Ground.phase }, { on := 5, ground := Ground.phase }, { on := 6, ground := Ground.phase }], guard := none }) rfl (fun K hK => ?_) AllReadyH.nil
          rw [if_pos (by rfl)]
          refine wp_store_row 82 _ _ rfl (w.heap.size + 1 + 1) (poA o2 n2 f2 b2 z2) rfl rfl 82 (poA o' n' f' b' z') H6.out.known poSize rfl (poOne _ _ _ _ _) ?_
          refine hK.out _ _ (H6.out.stored o2 n2 f2 b2 z2).bs (fun hHeld => ?_)
          clear hK K
          try simp only [Act.put]
          refine wpAnyH_done (by kernel_rfl) ?_ _
          have HN := Lib.hid (H6.out.stored o2 n2 f2 b2 z2)
          have HKS := Lib.hid (show KN (Bs.srchK g lb r l k (j + 1)) o2 n2 z2 from by rw [HS.out]; exact HK2.out)
          clear hHeld
          generalize w6.setRow (w.heap.size + 1 + 1) (poA o2 n2 f2 b2 z2) = w7 at *
          go_wp2
          go_roundw
          case rel => exact ⟨j + 1, _, _, _, _, _, by omega, by go_num, HKS.out, HN.out⟩
          case measure => simp [intOf]; omega
        exact AllReadyH.nil
    · obtain rfl : j = g.length := by omega
      have HBM := Lib.hid hbm
      have HKN := Lib.hid hkn
      clear hbm hkn CF HW HSU
      go_wp2_with (first
        | (refine po_load rfl _ rfl (w.heap.size + 1 + 1) o' n' f' b' z' rfl HBM.out.known ?_)
        | (refine po_store rfl _ _ rfl (w.heap.size + 1 + 1 + 1) z8 o' z8 f' 0 n' 0 b' 0 z' rfl rfl HBM.out.zero ?_; intro w9 h9 o9))
      exact bodyPost_ret (po_ret rfl _ _ (w.heap.size + 1 + 1 + 1) o' n' f' b' z' rfl h9) rfl ⟨⟨_, _, _, _, _, rfl, HKN.out⟩, HBM.out.below.trans (o9.below (by omega))⟩
end Go.Proofs.Ytgpmnfnliifegaa
namespace Go.Proofs.Ytgpmnfnliifegaa
open Go.RowKit
theorem bestOf_any (A : Option Addr) (c : Nat) (g : List Bs.T) (A1 : Option Addr) (c1 : Nat) (m : List Int) (wk : Int) (At : Option Addr) (ct : Nat) (T : List Int) (lo hi l1 h1 lt ht : Nat)
    (hF : Bs.fine g = true) (hroom : Bs.roomOk m = true) (hw1 : 1 ≤ wk) (h5 : g.length ≤ 5) (hTl : T.length = g.length) (hTE : ∀ i, i < g.length → Bs.giZ T i = Bs.gi (Bs.tailsC g) i) (hTb : ∀ i, i < g.length → 0 ≤ Bs.giZ T i ∧ Bs.giZ T i ≤ 1000) :
    ∀ (r : Nat) (l : List Int) (k : List Int × Int) (o : Nat → Int) (n : Nat) (f : Nat → Int) (b : Nat) (z : Int) (ok : Nat → Int) (nk : Nat) (fk : Nat → Int) (bk : Nat) (zk : Int) (w : World),
      RG w lo hi A g → hi ≤ w.heap.size → RI w l1 h1 A1 m → h1 ≤ w.heap.size → RI w lt ht At T → ht ≤ w.heap.size → Bs.Part g l → Bs.Keeps g m wk l o n f b z → KN k ok nk zk → l.length + r = g.length →
      Calls Try.prog 110 #[.agg (seA A g.length c At T.length ct A1 m.length c1 wk), .agg (poA o n f b z), .agg (poA ok nk fk bk zk)] w (BestR (Bs.srch g (Bs.lbO g m wk) r l k) w) := by
  intro r
  induction r with
  | zero =>
    intro l k o n f b z ok nk fk bk zk w h hh hm hh1 hT hht hp hK hkn hlr
    by_cases hz : zk ≤ z
    · rw [Bs.srch_leave (by rw [← hkn.end_, ← hK.least]; exact hz)]
      refine (bestOf_leave A g.length c At T.length ct A1 m.length c1 wk o n f b z ok nk fk bk zk w hz).mono ?_
      rintro e w' ⟨rfl, hb⟩
      exact ⟨⟨_, _, _, _, _, rfl, hkn⟩, hb⟩
    · rw [Bs.srch_whole (by rw [← hkn.end_, ← hK.least]; exact hz)]
      have hn : n = g.length := by rw [hK.size]; omega
      subst hn
      refine (bestOf_whole A g.length c At T.length ct A1 m.length c1 wk o f b z ok nk fk bk zk w hz).mono ?_
      rintro e w' ⟨rfl, hb⟩
      exact ⟨⟨_, _, _, _, _, rfl, hK.kn⟩, hb⟩
  | succ r ih =>
    intro l k o n f b z ok nk fk bk zk w h hh hm hh1 hT hht hp hK hkn hlr
    by_cases hz : zk ≤ z
    · rw [Bs.srch_leave (by rw [← hkn.end_, ← hK.least]; exact hz)]
      refine (bestOf_leave A g.length c At T.length ct A1 m.length c1 wk o n f b z ok nk fk bk zk w hz).mono ?_
      rintro e w' ⟨rfl, hb⟩
      exact ⟨⟨_, _, _, _, _, rfl, hkn⟩, hb⟩
    · rw [Bs.srch_go (by rw [← hkn.end_, ← hK.least]; exact hz)]
      have hnl := hK.size
      have hpl := Bs.Part.pla (m := m) (wk := wk) hF hroom hw1 l.length l rfl hp
      have h8 := Bs.fine_len hF
      obtain rfl := hK.set_
      refine bestOf_step A c g At T.length ct A1 m.length c1 wk (Bs.lbO g m wk) r l k o n f z ok nk fk bk zk lo hi w h hh hF (fun x hx => by have := hpl.rg x hx; omega) (by omega) hz hkn ?_
      intro v hv hk
      refine ⟨Bs.upd o n (v : Int), n + 1, Bs.upd f v (Bs.seekT g m wk (Bs.osA g m wk l) v), Bs.bits l ||| 1 <<< v, max z (Bs.seekT g m wk (Bs.osA g m wk l) v + Bs.giZ T v), fun W hb => ?_, fun k' o' n' f' b' z' hkn' W hb => ?_⟩
      · exact searchWith_any A c g A1 c1 m wk At ct T l o n f (Bs.bits l) z v lo hi l1 h1 lt ht W (h.below hb hh) (Nat.le_trans hh hb.size) (hm.below hb hh1) (Nat.le_trans hh1 hb.size) (hT.below hb hht) (Nat.le_trans hht hb.size) hTl hTb hF hroom hw1 h5 hp hv hk hK (by omega)
      · have hK2 := hK.more hF hroom hw1 hp hv hk
        rw [← hTE v hv] at hK2
        exact ih (l ++ [(v : Int)]) k' _ _ _ _ _ o' n' f' b' z' W (h.below hb hh) (Nat.le_trans hh hb.size) (hm.below hb hh1) (Nat.le_trans hh1 hb.size) (hT.below hb hht) (Nat.le_trans hht hb.size) (hp.snoc hv hk) hK2 hkn' (by rw [List.length_append, List.length_singleton]; omega)
end Go.Proofs.Ytgpmnfnliifegaa
namespace Go.Proofs.Ytgpmnfnliifegaa
open Go.RowKit
theorem Bs.best_facts {g : List Bs.T} {m : List Int} {wk : Int} (h : Bs.seaV g m wk = true) : Bs.canV g m wk = true ∧ g.length ≤ 5 ∧ (Bs.tailsC g).length = g.length ∧ (∀ i, i < g.length → Bs.giZ (Bs.tailsC g) i = Bs.gi (Bs.tailsC g) i) ∧ (∀ i, i < g.length → 0 ≤ Bs.giZ (Bs.tailsC g) i ∧ Bs.giZ (Bs.tailsC g) i ≤ 1000) ∧
    leastL g m wk = Bs.lbO g m wk [] ∧ Bs.srch g (Bs.lbO g m wk) g.length [] ([], Bs.sumT g + 1) = (Bs.bestC g m wk, Bs.enO g m wk (Bs.bestC g m wk)) := by
  obtain ⟨hcan, h5⟩ := Bs.sea_can h
  have hval := (Bs.canV_iff.1 hcan).1
  have hF := valid_fine hval
  have htl := Bs.tailsC_length hval
  have hge : ∀ i, i < g.length → Bs.giZ (Bs.tailsC g) i = Bs.gi (Bs.tailsC g) i := fun i hi => by rw [Bs.giZ_at (by omega), gi_at (by omega)]
  refine ⟨hcan, h5, htl, hge, ?_, ?_, ?_⟩
  · intro i hi
    have := tails_law (L := Bs.tailsC g) (by rw [if_pos hval]) htl i hi
    rw [hge i hi]
    omega
  · unfold Bs.lbO
    have h1 := (Bs.leastK_ge g m wk).1
    have h2 : 0 ≤ longC g := Bs.maxL_nonneg _
    rw [leastL_yes hcan]
    show leastK g m wk 3 = max (leastK g m wk 3) 0
    omega
  · refine Bs.srch_best hval (Bs.lb_bound h) ?_
    intro o ho
    obtain ⟨_, _, h3, _⟩ := Bs.os_valid h (Bs.ords_ord ho) rfl
    show Bs.endC g (Bs.osK g m wk o o.length) < Bs.sumT g + 1
    omega
set_option maxRecDepth 20000 in
set_option maxHeartbeats 3200000 in
theorem bestPart_any (A : Option Addr) (c : Nat) (g : List Bs.T) (A1 : Option Addr) (c1 : Nat) (m : List Int) (wk : Int) (lo hi l1 h1 : Nat) (w : World) (h : RG w lo hi A g) (hh : hi ≤ w.heap.size) (hm : RI w l1 h1 A1 m) (hh1 : h1 ≤ w.heap.size) (hl : g.length ≤ 9223372036854775807) (hml : m.length ≤ 9223372036854775807) (hv : Bs.seaV g m wk = true) :
    Calls Try.prog 69 #[.slice A g.length c, .slice A1 m.length c1, .int .i64 wk] w (BestR (Bs.bestC g m wk, Bs.enO g m wk (Bs.bestC g m wk)) w) := by
  obtain ⟨hcan, h5, htl, hTE, hTb, hlb, hsr⟩ := Bs.best_facts hv
  obtain ⟨hval, hroom, hw1, hw4⟩ := Bs.canV_iff.1 hcan
  have hF := valid_fine hval
  have h8 := Bs.fine_len hF
  have hsb := Bs.sumT_b2 hF
  have p0 := PO.new w z8 0 z8 0 0
  have hal := (Below.refl w.heap.size w).alloc (Nat.le_refl _) (.cells (poA z8 0 z8 0 0) 82)
  have hpz : (.cells (poA z8 0 z8 0 0) 82 : Obj) = .cells #[.int .i64 0, .int .i64 0, .int .i64 0, .int .i64 0, .int .i64 0, .int .i64 0, .int .i64 0, .int .i64 0, .int .i64 0, .int .i64 0, .int .i64 0, .int .i64 0, .int .i64 0, .int .i64 0, .int .u64 0, .int .i64 0] 82 := rfl
  rw [hpz] at p0 hal
  have q1 := TailTimes_any A c g lo hi _ (h.below hal hh) (Nat.le_trans hh hal.size) hl
  rw [if_pos hval] at q1
  have C1 := Lib.hid q1
  have C2 := Lib.hid (fun W (hb : Below w.heap.size w W) => allTimes_any A c g lo hi W (h.below hb hh) (Nat.le_trans hh hb.size) hF)
  have C3 := Lib.hid (fun W (hb : Below w.heap.size w W) => LeastTime_any A c g A1 c1 m wk lo hi l1 h1 W (h.below hb hh) (Nat.le_trans hh hb.size) (hm.below hb hh1) (Nat.le_trans hh1 hb.size) hl hml)
  have C4 := Lib.hid (fun At ct lt ht r l k o n f b z ok nk fk bk zk W (hb : Below w.heap.size w W) (hT : RI W lt ht At (Bs.tailsC g)) (hht : ht ≤ W.heap.size) => bestOf_any A c g A1 c1 m wk At ct (Bs.tailsC g) lo hi l1 h1 lt ht hF hroom hw1 h5 htl hTE hTb r l k o n f b z ok nk fk bk zk W (h.below hb hh) (Nat.le_trans hh hb.size) (hm.below hb hh1) (Nat.le_trans hh1 hb.size) hT hht)
  have HP0 := Lib.hid p0
  have HAL := Lib.hid hal
  have HSR := Lib.hid hsr
  have HLB := Lib.hid hlb
  clear q1 hal p0 hpz hsr hlb hTE hTb hcan hv h hm hval hroom hF
  obtain ⟨T, hT⟩ : ∃ T, T = Bs.tailsC g := ⟨_, rfl⟩
  rw [← hT] at htl C1 C4
  clear hT
  have HTL := Lib.hid htl
  clear htl
  have hws : IntKind.i64.wrap (Bs.sumT g + 1) = Bs.sumT g + 1 := IntWalk.i64_in _ ⟨by omega, by omega⟩
  generalize Bs.sumT g = sm at *
  go_enter Try.func69, Try.ntmps69
  go_wp2_with fail
  with_reducible refine (C1.out).mono ?_
  rintro e w1 ⟨⟨A2, c2, rfl, ho2⟩, hb1⟩
  have HP1 := Lib.hid (HP0.out.below hb1 HP0.out.lt)
  have HX1 := Lib.hid (HAL.out.trans (hb1.mono HAL.out.size))
  have HR1 := Lib.hid ho2.ri
  have s1 := HP1.out.lt
  clear hb1 ho2 C1 HAL HP0
  have hse : (.cells (seA A g.length c A2 T.length c2 A1 m.length c1 wk) 108 : Obj) = .cells #[.slice A g.length c, .slice A2 T.length c2, .slice A1 m.length c1, .int .i64 wk] 108 := rfl
  have HXs := Lib.hid (HX1.out.alloc HX1.out.size (.cells (seA A g.length c A2 T.length c2 A1 m.length c1 wk) 108))
  have HSE := Lib.hid (show Blk (w1.alloc (.cells (seA A g.length c A2 T.length c2 A1 m.length c1 wk) 108)) w1.heap.size 108 (seA A g.length c A2 T.length c2 A1 m.length c1 wk) from Blk.new w1 _ _)
  have c2' := C2.out _ HXs.out
  rw [hse] at c2'
  replace C2 := Lib.hid c2'
  clear c2' hse
  go_wp2_with fail
  with_reducible refine (C2.out).mono ?_
  rintro e w2 ⟨rfl, hb2⟩
  have hb2' : Below (w1.alloc (.cells (seA A g.length c A2 T.length c2 A1 m.length c1 wk) 108)).heap.size (w1.alloc (.cells (seA A g.length c A2 T.length c2 A1 m.length c1 wk) 108)) w2 := hb2
  have hb12 : Below w1.heap.size w1 w2 := ((Below.refl w1.heap.size w1).alloc (Nat.le_refl _) (.cells (seA A g.length c A2 T.length c2 A1 m.length c1 wk) 108)).trans (hb2'.mono (by simp))
  have s2 : w1.heap.size + 1 ≤ w2.heap.size := by have := hb2'.size; simpa using this
  have p0 := HP1.out.below hb12 HP1.out.lt
  have se2 := Blk.below HSE.out hb2' (Blk.lt HSE.out)
  have x2 := HXs.out.trans (hb2'.mono HXs.out.size)
  have r2 := HR1.out.below hb12 (Nat.le_refl _)
  have a0 := p0.alloc (.cells (poA z8 0 z8 0 (sm + 1)) 82)
  have a1 := se2.alloc (.cells (poA z8 0 z8 0 (sm + 1)) 82)
  have a2 := PO.new w2 z8 0 z8 0 (sm + 1)
  have a3 := x2.alloc x2.size (.cells (poA z8 0 z8 0 (sm + 1)) 82)
  have a4 := r2.below ((Below.refl w2.heap.size w2).alloc (Nat.le_refl _) (.cells (poA z8 0 z8 0 (sm + 1)) 82)) (by omega)
  have hpz : (.cells (poA z8 0 z8 0 (sm + 1)) 82 : Obj) = .cells #[.int .i64 0, .int .i64 0, .int .i64 0, .int .i64 0, .int .i64 0, .int .i64 0, .int .i64 0, .int .i64 0, .int .i64 0, .int .i64 0, .int .i64 0, .int .i64 0, .int .i64 0, .int .i64 0, .int .u64 0, .int .i64 (sm + 1)] 82 := rfl
  rw [hpz] at a0 a1 a2 a3 a4
  clear hb2 hb2' hb12 p0 se2 x2 r2 hpz C2 HXs HSE HX1 HP1 HR1
  go_wp2_with fail
  generalize w2.alloc (.cells #[.int .i64 0, .int .i64 0, .int .i64 0, .int .i64 0, .int .i64 0, .int .i64 0, .int .i64 0, .int .i64 0, .int .i64 0, .int .i64 0, .int .i64 0, .int .i64 0, .int .i64 0, .int .i64 0, .int .u64 0, .int .i64 (sm + 1)] 82) = W3 at *
  have H0 := Lib.hid (show PO W3.drew w.heap.size z8 0 z8 0 0 from a0)
  have H1 := Lib.hid (show Blk W3.drew w1.heap.size 108 (seA A g.length c A2 T.length c2 A1 m.length c1 wk) from a1)
  have H2 := Lib.hid (show PO W3.drew w2.heap.size z8 0 z8 0 (sm + 1) from a2)
  have H3 := Lib.hid (show Below w.heap.size w W3.drew from a3.drewN 1)
  have H4 := Lib.hid (show RI W3.drew _ _ A2 T from a4)
  have k0 := H0.out.lt
  have k1 := Blk.lt H1.out
  have k2 := H2.out.lt
  clear a0 a1 a2 a3 a4
  refine wp_region_held_drew (S := fun W => Blk W w1.heap.size 108 (seA A g.length c A2 T.length c2 A1 m.length c1 wk) ∧ PO W w2.heap.size z8 0 z8 0 (sm + 1)) (by kernel_rfl) ⟨H1.out, H2.out⟩ (fun hHeld => ?_)
  refine wpAnyH_take (i := 0) (oi := { dst := some 19, op := Op.load 108 (Operand.tmp 7), type := 108, pos := "l6_best.go:113", after := #[], guard := none }) (v := .agg (seA A g.length c A2 T.length c2 A1 m.length c1 wk)) rfl (by kernel_rfl) (by kernel_rfl) (by kernel_rfl) (fun _ _ _ h => h) (Or.inl ⟨by rfl, fun W hS => run_se _ rfl w1.heap.size rfl hS.1⟩) hHeld ?_
  try simp only [Act.put, List.setIfInBounds_toArray, List.set_cons_zero, List.set_cons_succ]
  refine wpAnyH_take (i := 1) (oi := { dst := some 20, op := Op.move (Operand.tmp 0), type := 23, pos := "l6_best.go:113", after := #[], guard := none }) (v := .slice A g.length c) rfl (by kernel_rfl) (by kernel_rfl) (by kernel_rfl) (fun _ _ _ h => h) (Or.inl ⟨by rfl, fun W hS => by rfl⟩) hHeld ?_
  try simp only [Act.put, List.setIfInBounds_toArray, List.set_cons_zero, List.set_cons_succ]
  refine wpAnyH_take (i := 2) (oi := { dst := some 21, op := Op.move (Operand.tmp 1), type := 24, pos := "l6_best.go:113", after := #[], guard := none }) (v := .slice A1 m.length c1) rfl (by kernel_rfl) (by kernel_rfl) (by kernel_rfl) (fun _ _ _ h => h) (Or.inl ⟨by rfl, fun W hS => by rfl⟩) hHeld ?_
  try simp only [Act.put, List.setIfInBounds_toArray, List.set_cons_zero, List.set_cons_succ]
  refine wpAnyH_take (i := 3) (oi := { dst := some 22, op := Op.move (Operand.tmp 2), type := 3, pos := "l6_best.go:113", after := #[], guard := none }) (v := .int .i64 wk) rfl (by kernel_rfl) (by kernel_rfl) (by kernel_rfl) (fun _ _ _ h => h) (Or.inl ⟨by rfl, fun W hS => by rfl⟩) hHeld ?_
  try simp only [Act.put, List.setIfInBounds_toArray, List.set_cons_zero, List.set_cons_succ]
  refine wpAnyH_take (i := 6) (oi := { dst := some 25, op := Op.load 82 (Operand.tmp 8), type := 82, pos := "l6_best.go:113", after := #[], guard := none }) (v := .agg (poA z8 0 z8 0 (sm + 1))) rfl (by kernel_rfl) (by kernel_rfl) (by kernel_rfl) (fun _ _ _ h => h) (Or.inl ⟨by rfl, fun W hS => run_po _ rfl w2.heap.size rfl hS.2⟩) hHeld ?_
  try simp only [Act.put, List.setIfInBounds_toArray, List.set_cons_zero, List.set_cons_succ]
  refine wpAnyH_ready (rs := [4]) (by kernel_rfl) (by simp) ?_
  refine AllReadyH.cons (o := { dst := some 23, op := Op.call { callee := Callee.value (Operand.func 24), args := #[Operand.tmp 20, Operand.tmp 21, Operand.tmp 22], argTypes := #[23, 24, 3] }, type := 3, pos := "l6_best.go:113", after := #[{ on := 1, ground := Ground.data }, { on := 2, ground := Ground.data }, { on := 3, ground := Ground.data }], guard := none }) rfl (fun K hK => ?_) AllReadyH.nil
  rw [if_pos (by rfl)]
  go_simp
  go_at_call 24
  with_reducible refine (C3.out _ H3.out).mono ?_
  rintro e w4 ⟨rfl, hb4⟩
  have s4 := hb4.size
  have J0 := Lib.hid (H0.out.below hb4 k0)
  have J1 := Lib.hid (Blk.below H1.out hb4 k1)
  have J2 := Lib.hid (H2.out.below hb4 k2)
  have J3 := Lib.hid (H3.out.trans (hb4.mono H3.out.size))
  have J4 := Lib.hid (H4.out.below hb4 (by omega))
  clear hb4 C3 H0 H1 H2 H3 H4
  go_wp2_with fail
  refine hK.out _ _ ⟨J1.out, J2.out⟩ (fun hHeld => ?_)
  clear hK K
  try simp only [Act.put, List.setIfInBounds_toArray, List.set_cons_zero, List.set_cons_succ]
  refine wpAnyH_take (i := 5) (oi := { dst := some 24, op := Op.build 82 #[(3, Operand.tmp 23)], type := 82, pos := "l6_best.go:113", after := #[{ on := 4, ground := Ground.data }], guard := none }) (v := .agg (poA z8 0 z8 0 (leastL g m wk))) rfl (by kernel_rfl) (by kernel_rfl) (by kernel_rfl) (fun _ _ _ h => h) (Or.inl ⟨by rfl, fun W hS => by first | rfl | (go_simp; rfl)⟩) hHeld ?_
  try simp only [Act.put, List.setIfInBounds_toArray, List.set_cons_zero, List.set_cons_succ]
  refine wpAnyH_ready (rs := [7]) (by kernel_rfl) (by simp) ?_
  refine AllReadyH.cons (o := { dst := some 26, op := Op.call { callee := Callee.value (Operand.func 110), args := #[Operand.tmp 19, Operand.tmp 24, Operand.tmp 25], argTypes := #[108, 82, 82] }, type := 82, pos := "l6_best.go:113", after := #[{ on := 0, ground := Ground.data }, { on := 5, ground := Ground.data }, { on := 6, ground := Ground.data }, { on := 4, ground := Ground.chain }], guard := none }) rfl (fun K hK => ?_) AllReadyH.nil
  rw [if_pos (by rfl)]
  go_simp
  go_at_call 110
  refine (C4.out A2 c2 _ _ g.length [] ([], sm + 1) z8 0 z8 0 (leastL g m wk) z8 0 z8 0 (sm + 1) w4 J3.out J4.out (by omega) (Bs.Part.nil g) (Bs.Keeps.start_ HLB.out) ⟨rfl, fun i hi => absurd hi (Nat.not_lt_zero _), rfl⟩ (by simp)).mono ?_
  rintro e w6 ⟨⟨o2, n2, f2, b2, z2, rfl, hk2⟩, hb6⟩
  rw [HSR.out] at hk2
  have M0 := Lib.hid (J0.out.below hb6 J0.out.lt)
  have M1 := Lib.hid (Blk.below J1.out hb6 (Blk.lt J1.out))
  have M2 := Lib.hid (J2.out.below hb6 J2.out.lt)
  have M3 := Lib.hid (J3.out.trans (hb6.mono J3.out.size))
  have HK2 := Lib.hid hk2
  clear hb6 hk2 C4 J0 J1 J2 J3 J4
  go_wp2_with fail
  refine hK.out _ _ ⟨M1.out, M2.out⟩ (fun hHeld => ?_)
  clear hK K
  try simp only [Act.put, List.setIfInBounds_toArray, List.set_cons_zero, List.set_cons_succ]
  refine wpAnyH_ready (rs := [8]) (by kernel_rfl) (by simp) ?_
  refine AllReadyH.cons (o := { dst := none, op := Op.store 82 (Operand.tmp 6) (Operand.tmp 26), type := 0, pos := "l6_best.go:113", after := #[{ on := 7, ground := Ground.data }, { on := 7, ground := Ground.chain }, { on := 0, ground := Ground.phase }, { on := 1, ground := Ground.phase }, { on := 2, ground := Ground.phase }, { on := 3, ground := Ground.phase }, { on := 4, ground := Ground.phase }, { on := 5, ground := Ground.phase }, { on := 6, ground := Ground.phase }, { on := 7, ground := Ground.phase }], guard := none }) rfl (fun K hK => ?_) AllReadyH.nil
  rw [if_pos (by rfl)]
  refine wp_store_row 82 _ _ rfl w.heap.size (poA o2 n2 f2 b2 z2) rfl rfl 82 (poA z8 0 z8 0 0) M0.out poSize rfl (poOne _ _ _ _ _) ?_
  obtain ⟨hp7, ho7⟩ := poRow_only w6 w.heap.size z8 o2 z8 f2 0 n2 0 b2 0 z2 M0.out
  refine hK.out _ _ ⟨ho7.blk M1.out (by omega), ho7.blk M2.out (by omega)⟩ (fun hHeld => ?_)
  clear hK K
  try simp only [Act.put]
  refine wpAnyH_done (by kernel_rfl) ?_ _
  have HP7 := Lib.hid hp7
  have HB7 := Lib.hid (M3.out.trans (ho7.below (Nat.le_refl _)))
  clear hp7 ho7 hHeld
  generalize w6.setRow w.heap.size (poA o2 n2 f2 b2 z2) = w7 at *
  go_wp2
  exact bodyPost_ret (po_ret rfl _ _ w.heap.size o2 n2 f2 b2 z2 rfl HP7.out) rfl ⟨⟨_, _, _, _, _, rfl, HK2.out⟩, HB7.out⟩
end Go.Proofs.Ytgpmnfnliifegaa
namespace Go.Proofs.Ytgpmnfnliifegaa
open Go.RowKit
theorem best_len {g : List Bs.T} {m : List Int} {wk : Int} (h : Bs.seaV g m wk = true) : (Bs.bestC g m wk).length ≤ 5 := by
  obtain ⟨hcan, h5⟩ := Bs.sea_can h
  have := (Bs.ord_tOk (Bs.ords_ord (Bs.best_ord (m := m) (wk := wk) (Bs.canV_iff.1 hcan).1))).1
  omega
theorem bestL_len1000 (g : List Bs.T) (m : List Int) (wk : Int) : (Bs.bestL g m wk).length ≤ 1000 := by
  cases h : Bs.seaV g m wk
  · rw [Bs.bestL_no h]; simp
  · rw [Bs.bestL_yes h]; have := best_len h; omega
theorem field_po (o : Nat → Int) (n : Nat) (f : Nat → Int) (b : Nat) (z : Int) (W : World) : (Instr.field 82 (.agg (poA o n f b z)) 3).run Try.prog W = .ok (.int .i64 z) W := by
  simp [Instr.field, run_underlying Try.underlying82, asAgg, part, Sem.run_bind, poA]
set_option maxRecDepth 20000 in
set_option maxHeartbeats 3200000 in
theorem BestTime_any (A : Option Addr) (c : Nat) (g : List Bs.T) (A1 : Option Addr) (c1 : Nat) (m : List Int) (wk : Int) (lo hi l1 h1 : Nat) (w : World) (h : RG w lo hi A g) (hh : hi ≤ w.heap.size) (hm : RI w l1 h1 A1 m) (hh1 : h1 ≤ w.heap.size) (hl : g.length ≤ 9223372036854775807) (hml : m.length ≤ 9223372036854775807) :
    Calls Try.prog 30 #[.slice A g.length c, .slice A1 m.length c1, .int .i64 wk] w fun e w' => e = .returned (.int .i64 (Bs.timeL g m wk)) ∧ Below w.heap.size w w' := by
  have q1 := canSearch_any A c g A1 c1 m wk lo hi l1 h1 w h hh hm hh1 hl hml
  cases hv : Bs.seaV g m wk
  · rw [hv] at q1
    have C1 := Lib.hid q1
    have HV := Lib.hid (Bs.timeL_no hv)
    clear q1 hv h hm
    go_enter Try.func30, Try.ntmps30
    go_wp2_with fail
    with_reducible refine (C1.out).mono ?_
    rintro e w1 ⟨rfl, hb⟩
    have HB := Lib.hid hb
    clear hb
    go_wp2
    go_ret
    exact ⟨ret_int HV.out.symm, HB.out⟩
  rw [hv] at q1
  have C1 := Lib.hid q1
  have HV := Lib.hid (Bs.timeL_yes hv)
  have C2 := Lib.hid (fun W (hb : Below w.heap.size w W) => bestPart_any A c g A1 c1 m wk lo hi l1 h1 W (h.below hb hh) (Nat.le_trans hh hb.size) (hm.below hb hh1) (Nat.le_trans hh1 hb.size) hl hml hv)
  clear q1 hv h hm
  generalize Bs.bestC g m wk = L at *
  go_enter Try.func30, Try.ntmps30
  go_wp2_with fail
  with_reducible refine (C1.out).mono ?_
  rintro e w1 ⟨rfl, hb1⟩
  have HB1 := Lib.hid hb1
  replace C2 := Lib.hid (C2.out w1 hb1)
  clear hb1 C1
  go_wp2_with fail
  with_reducible refine (C2.out).mono ?_
  rintro e w2 ⟨⟨o, n, f, b, z, rfl, hk⟩, hb2⟩
  have HZ := Lib.hid (show z = Bs.timeL g m wk from by rw [HV.out]; exact hk.end_)
  have HB2 := Lib.hid (HB1.out.trans (hb2.mono HB1.out.size))
  clear hb2 hk C2
  have hfp := field_po o n f b z
  generalize poA o n f b z = PA at *
  go_wp2
  go_ret
  exact ⟨ret_int HZ.out, HB2.out⟩
end Go.Proofs.Ytgpmnfnliifegaa
