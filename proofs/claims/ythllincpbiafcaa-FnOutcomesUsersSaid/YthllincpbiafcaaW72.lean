/-
  WALKS: states of outcomes, of the program: as cells, in and out of memory; one more; needs that are done; the outcome that comes next.
-/
import Derived.Test.YthllincpbiafcaaK14
import Derived.Test.YthllincpbiafcaaMath60
namespace Go.Proofs.Ythllincpbiafcaa
open Go.RowKit
/-- outcomes as cells -/
def stA (f : Nat → Int) (b : Int) : Array Value := #[.int .i64 (f 0), .int .i64 (f 1), .int .i64 (f 2), .int .i64 (f 3), .int .i64 (f 4), .int .i64 (f 5), .int .i64 (f 6), .int .i64 (f 7), .int .i64 b]
theorem stA_size (f : Nat → Int) (b : Int) : (stA f b).size = 9 := rfl
theorem stA_b (f : Nat → Int) (b : Int) : (stA f b)[8]? = some (.int .i64 b) := rfl
theorem stA_at (f : Nat → Int) (b : Int) {i : Nat} (h : i < 8) : (stA f b)[i]? = some (.int .i64 (f i)) := by
  rcases eight h with rfl | rfl | rfl | rfl | rfl | rfl | rfl | rfl <;> rfl
theorem stA_setB (f : Nat → Int) (b c : Int) : (stA f b).setIfInBounds 8 (.int .i64 c) = stA f c := rfl
theorem stA_set (f : Nat → Int) (b : Int) {i : Nat} (h : i < 8) (x : Int) : (stA f b).setIfInBounds i (.int .i64 x) = stA (Bs.upd f i x) b := by
  rcases eight h with rfl | rfl | rfl | rfl | rfl | rfl | rfl | rfl <;> rfl
theorem stA_congr {f f' : Nat → Int} (b : Int) (h : ∀ i, i < 8 → f i = f' i) : stA f b = stA f' b := by
  unfold stA
  rw [h 0 (by omega), h 1 (by omega), h 2 (by omega), h 3 (by omega), h 4 (by omega), h 5 (by omega), h 6 (by omega), h 7 (by omega)]
theorem stOne (f : Nat → Int) (b : Int) : (stA f b).all (·.oneCell') = true := by simp [stA, Value.oneCell']
theorem stSize : (Try.prog.info? 54).map (·.size) = some 9 := by kernel_rfl
/-- outcomes in memory -/
def ST (w : World) (a : Nat) (f : Nat → Int) (b : Int) : Prop := Blk w a 54 (stA f b)
theorem ST.b {w : World} {a : Nat} {b : Int} {f : Nat → Int} (h : ST w a f b) : w.cell? ⟨a, 8, none⟩ = some (.int .i64 b) := (Blk.cell h 8).trans rfl
theorem ST.at_ {w : World} {a : Nat} {b : Int} {f : Nat → Int} (h : ST w a f b) {i : Nat} (hi : i < 8) : w.cell? ⟨a, i, none⟩ = some (.int .i64 (f i)) := (Blk.cell h _).trans (stA_at f b hi)
theorem ST.frozen {w : World} {a : Nat} {b : Int} {f : Nat → Int} (h : ST w a f b) (i : Nat) : w.frozen? ⟨a, i, none⟩ = false := Blk.frozen h i
theorem ST.setB {w : World} {a : Nat} {b : Int} {f : Nat → Int} (h : ST w a f b) (c : Int) : ST (w.setCell ⟨a, 8, none⟩ (.int .i64 c)) a f c := by
  unfold ST
  rw [← stA_setB f b c]
  exact Blk.set_ h 8 _
theorem ST.setP {w : World} {a : Nat} {b : Int} {f : Nat → Int} (h : ST w a f b) {i : Nat} (hi : i < 8) (x : Int) : ST (w.setCell ⟨a, i, none⟩ (.int .i64 x)) a (Bs.upd f i x) b := by
  unfold ST
  rw [← stA_set f b hi x]
  exact Blk.set_ h _ _
theorem ST.below {w w' : World} {a B : Nat} {b : Int} {f : Nat → Int} (h : ST w a f b) (hb : Below B w w') (hg : a < B) : ST w' a f b := Blk.below h hb hg
theorem ST.lt {w : World} {a : Nat} {b : Int} {f : Nat → Int} (h : ST w a f b) : a < w.heap.size := Blk.lt h
theorem ST.far {w : World} {a : Nat} {b : Int} {f : Nat → Int} (h : ST w a f b) {p : Addr} (hp : a ≠ p.block) (u : Value) : ST (w.setCell p u) a f b := Blk.far h hp u
theorem ST.alloc {w : World} {a : Nat} {b : Int} {f : Nat → Int} (h : ST w a f b) (o : Obj) : ST (w.alloc o) a f b := Blk.alloc h o
theorem ST.new (w : World) (f : Nat → Int) (b : Int) : ST (w.alloc (.cells (stA f b) 54)) w.heap.size f b := Blk.new w _ _
theorem ST.drewN {w : World} {a : Nat} {b : Int} {f : Nat → Int} (h : ST w a f b) (k : Nat) : ST (w.drewN k) a f b := h
theorem OnlyB.st {b g : Nat} {s : Int} {f : Nat → Int} {w w' : World} (h : OnlyB b w w') (hb : ST w g f s) (hne : g ≠ b) : ST w' g f s := (h.far g hne).trans hb
theorem stRow_only (w : World) (a : Nat) (f f' : Nat → Int) (b b' : Int) (hb : ST w a f b) : ST (w.setRow a (stA f' b')) a f' b' ∧ OnlyB a w (w.setRow a (stA f' b')) := by
  refine ⟨setRow_heap w a _ _ _ _ hb, rfl, rfl, rfl, by simp, fun k hk => setRow_other w a k _ hk⟩
theorem st_load {ops : Array Oper} {rest : List Oper} {o : Oper} {a : Act} {w : World} {Q : Exit → Act → World → Prop} (hgd : o.guard = none) (x : Operand) (ho : o.op = .load 54 x)
    (b : Nat) (f : Nat → Int) (s : Int) (hx : a.eval x = .pointer (some ⟨b, 0, none⟩)) (hb : ST w b f s) (h : wpList Try.prog ops Q rest (a.put o.dst (.agg (stA f s))) w) : wpList Try.prog ops Q (o :: rest) a w :=
  wpList_load_row hgd 54 x ho b hx 54 (stA f s) (0, 0) _ hb Try.underlying54 rfl stSize h
theorem st_store {ops : Array Oper} {rest : List Oper} {o : Oper} {a : Act} {w : World} {Q : Exit → Act → World → Prop} (hgd : o.guard = none) (x y : Operand) (ho : o.op = .store 54 x y)
    (b : Nat) (f f' : Nat → Int) (s s' : Int) (hx : a.eval x = .pointer (some ⟨b, 0, none⟩)) (hy : a.eval y = .agg (stA f' s')) (hb : ST w b f s)
    (h : ∀ w', ST w' b f' s' → OnlyB b w w' → wpList Try.prog ops Q rest (a.put o.dst undef) w') : wpList Try.prog ops Q (o :: rest) a w :=
  wpList_store_row hgd 54 x y ho b (stA f' s') hx hy 54 (stA f s) hb stSize rfl (stOne _ _) (h _ (stRow_only w b f f' s s' hb).1 (stRow_only w b f f' s s' hb).2)
theorem st_ret {fn : Func} {p : Tmp} (h : fn.results = #[.cell p 54]) (tmps : Array Value) (w : World) (g : Nat) (f : Nat → Int) (b : Int) (hp : tmps.getD p undef = .pointer (some ⟨g, 0, none⟩)) (hg : ST w g f b) :
    (results fn tmps).run Try.prog w = .ok (.agg (stA f b)) w :=
  results_cell_row h tmps w g 54 _ (0, 0) _ hp hg Try.underlying54 rfl stSize
theorem step_st_load {ops : Array Oper} {o : Oper} {a : Act} {w : World} {K : Act → World → Prop} {Q : Exit → Act → World → Prop} {E : Prop} (hgd : o.guard = none) (x : Operand) (ho : o.op = .load 54 x)
    (b : Nat) (f : Nat → Int) (n : Int) (hx : a.eval x = .pointer (some ⟨b, 0, none⟩)) (hb : ST w b f n) (h : K (a.put o.dst (.agg (stA f n))) w) :
    if Region.wanted o (yielded ops a.tmps) = true then Oper.wp Try.prog o a w K Q else E := by
  have hw : Region.wanted o (yielded ops a.tmps) = true := by simp [Region.wanted, hgd]
  rw [if_pos hw]
  exact wp_load_row 54 x ho b hx 54 (stA f n) (0, 0) _ hb Try.underlying54 rfl stSize h
theorem z9A : stA z8 0 = #[.int .i64 0, .int .i64 0, .int .i64 0, .int .i64 0, .int .i64 0, .int .i64 0, .int .i64 0, .int .i64 0, .int .i64 0] := rfl
set_option maxHeartbeats 800000 in
theorem stWith_any (f : Nat → Int) (b : Int) (v : Nat) (t : Int) (w : World) (hb8 : 0 ≤ b ∧ b ≤ 1000) (hv : v < 8) :
    Calls Try.prog 27 #[.agg (stA f b), .int .i64 (v : Int), .int .i64 t] w fun e w' => e = .returned (.agg (stA (Bs.upd f v t) (b + Bs.oneIf t))) ∧ Below w.heap.size w w' := by
  have i0 : (0 : Int) ≤ (v : Int) := by omega
  have i1 : (v : Int) < 8 := by omega
  have hw : IntKind.i64.wrap (b + 1) = b + 1 := IntWalk.i64_in _ ⟨by omega, by omega⟩
  have hsz := stA_size f b
  have hst := stA_set f b hv t
  have hsz2 := stA_size (Bs.upd f v t) b
  have e8 := stA_b (Bs.upd f v t) b
  have hs8 := stA_setB (Bs.upd f v t) b (b + 1)
  have hZ : ∀ (x : Int), ST ((w.alloc (.cells (stA (Bs.upd f v t) x) 54)).alloc (.cells (stA z8 0) 54)) w.heap.size (Bs.upd f v t) x := fun x => (ST.new w _ _).alloc _
  have hY : ∀ (x : Int), ST ((w.alloc (.cells (stA (Bs.upd f v t) x) 54)).alloc (.cells (stA z8 0) 54)) (w.heap.size + 1) z8 0 := fun x => by
    have := ST.new (w.alloc (.cells (stA (Bs.upd f v t) x) 54)) z8 0
    rwa [show (w.alloc (.cells (stA (Bs.upd f v t) x) 54)).heap.size = w.heap.size + 1 from by simp] at this
  have hX : ∀ (x : Int), Below w.heap.size w ((w.alloc (.cells (stA (Bs.upd f v t) x) 54)).alloc (.cells (stA z8 0) 54)) := fun x => ((Below.refl _ _).alloc (Nat.le_refl _) _).alloc (by simp) _
  rw [z9A] at hZ hY hX
  have HZ := Lib.hid hZ
  have HY := Lib.hid hY
  have HX := Lib.hid hX
  clear hZ hY hX
  by_cases ht : t = 1
  · subst ht
    have e : b + Bs.oneIf 1 = b + 1 := rfl
    rw [e]
    clear e hsz2
    generalize Bs.upd f v 1 = f' at *
    go_enter Try.func27, Try.ntmps27
    go_wp2_with (first
      | (refine st_load rfl _ rfl w.heap.size f' (b + 1) rfl (HZ.out _) ?_)
      | (refine st_store rfl _ _ rfl (w.heap.size + 1) z8 f' 0 (b + 1) rfl rfl (HY.out _) ?_; intro w9 h9 o9))
    exact bodyPost_ret (st_ret rfl _ _ (w.heap.size + 1) f' (b + 1) rfl h9) rfl ⟨rfl, (HX.out _).trans (o9.below (Nat.le_succ _))⟩
  · have e : b + Bs.oneIf t = b := by unfold Bs.oneIf; rw [if_neg (by simpa using ht)]; omega
    have d1 : (t == 1) = false := by rw [beq_eq_false_iff_ne]; exact ht
    rw [e]
    clear ht e
    generalize Bs.upd f v t = f' at *
    go_enter Try.func27, Try.ntmps27
    go_wp2_with (first
      | (refine st_load rfl _ rfl w.heap.size f' b rfl (HZ.out _) ?_)
      | (refine st_store rfl _ _ rfl (w.heap.size + 1) z8 f' 0 b rfl rfl (HY.out _) ?_; intro w9 h9 o9))
    exact bodyPost_ret (st_ret rfl _ _ (w.heap.size + 1) f' b rfl h9) rfl ⟨rfl, (HX.out _).trans (o9.below (Nat.le_succ _))⟩
/-- what a state of outcomes holds -/
theorem upd_gi {o : List Int} {v : Nat} (hv : v < o.length) (x : Int) : Bs.upd (Bs.gi o) v x = Bs.gi (o.set v x) := by
  funext i
  unfold Bs.upd
  rw [Bs.gi_set _ _ _ _ hv]
set_option maxHeartbeats 800000 in
theorem needsDone_any (o : List Int) (z : Int) (t : Bs.T) (N : Option Addr) (cN : Nat) (lo hi : Nat) (w : World) (hN : RI w lo hi N t.needs) (hh : hi ≤ w.heap.size) (hn8 : ∀ x ∈ t.needs, 0 ≤ x ∧ x < 8) (hnl : t.needs.length ≤ 100) :
    Calls Try.prog 54 #[.agg (stA (Bs.gi o) z), .agg #[.int .i64 t.time, .slice N t.needs.length cN, .int .i64 t.pool, .int .i64 t.units]] w fun e w' => e = .returned (.bool (t.needs.all fun x => Bs.gi o x.toNat == 0)) ∧ Below w.heap.size w w' := by
  have hb1 := (ST.new w (Bs.gi o) z).alloc (.cells #[.int .i64 t.time, .slice N t.needs.length cN, .int .i64 t.pool, .int .i64 t.units] 29)
  have hal : Below w.heap.size w ((w.alloc (.cells (stA (Bs.gi o) z) 54)).alloc (.cells #[.int .i64 t.time, .slice N t.needs.length cN, .int .i64 t.pool, .int .i64 t.units] 29)) := ((Below.refl _ _).alloc (Nat.le_refl _) _).alloc (by simp) _
  have hsz := stA_size (Bs.gi o) z
  have HN := Lib.hid (hN.below hal hh)
  have HN8 := Lib.hid (fun k (hk : k < t.needs.length) => hn8 _ (List.getElem_mem hk))
  have HAT := Lib.hid (fun k (hk : k < t.needs.length) => Bs.all_take t.needs (fun x => Bs.gi o x.toNat == 0) k hk)
  have HAF := Lib.hid (fun k (hk : k < t.needs.length) h => Bs.all_false_at (l := t.needs) (p := fun x => Bs.gi o x.toNat == 0) (j := k) hk h)
  have HB := Lib.hid hb1
  have HAL := Lib.hid hal
  obtain ⟨V, hV⟩ : ∃ V, V = (t.needs.all fun x => Bs.gi o x.toNat == 0) := ⟨_, rfl⟩
  rw [← hV]
  have HV := Lib.hid hV
  clear hb1 hal hN hn8 hV
  go_enter Try.func54, Try.ntmps54
  go_wp2
  generalize (w.alloc (.cells (stA (Bs.gi o) z) 54)).alloc (.cells #[.int .i64 t.time, .slice N t.needs.length cN, .int .i64 t.pool, .int .i64 t.units] 29) = W at *
  go_loop [10] (fun i => ∃ k : Nat, k ≤ t.needs.length ∧ i = .int .i64 k ∧ ((t.needs.take k).all fun x => Bs.gi o x.toNat == 0) = true) (fun i => t.needs.length - (intOf i).toNat)
  case atStart => exact ⟨0, Nat.zero_le _, rfl, rfl⟩
  case round =>
    obtain ⟨k, hk, rfl, hall⟩ := hrel
    by_cases hlt : k < t.needs.length
    · obtain ⟨b, off, rfl, _, _, hc⟩ := HN.out.at_ hlt
      have hx := HN8.out k hlt
      have hat := HAT.out k hlt
      have haf := HAF.out k hlt
      rw [hall, Bool.true_and] at hat
      obtain ⟨v, hv⟩ : ∃ v : Nat, t.needs[k] = (v : Int) := ⟨t.needs[k].toNat, by omega⟩
      rw [hv] at hc hx
      rw [hv, Int.toNat_natCast] at hat haf
      have kv := HB.out.at_ (i := v) (by omega)
      have i0 : (0 : Int) ≤ (v : Int) := by omega
      have i1 : (v : Int) < 8 := by omega
      have d1 : (k : Int) < (t.needs.length : Int) := by omega
      have H1 := Lib.hid hat
      have H2 := Lib.hid haf
      clear hat haf hall hv hx HAT HAF HN8
      generalize Bs.gi o v = q at *
      by_cases hq : q = 0
      · subst hq
        clear H2
        go_wp2
        go_round
        case rel => exact ⟨k + 1, by omega, by go_num, by rw [H1.out]; rfl⟩
        case measure => simp [intOf]; omega
      · have d2 : (q == 0) = false := by rw [beq_eq_false_iff_ne]; exact hq
        have d3 : (q != 0) = true := by simp [hq]
        have HE := Lib.hid (H2.out (by simp [hq]))
        clear H1 H2 hq
        go_wp2
        go_ret
        exact ⟨ret_bool (by rw [HV.out, HE.out]), HAL.out⟩
    · obtain rfl : k = t.needs.length := by omega
      rw [List.take_length] at hall
      have HE := Lib.hid hall
      clear hall
      go_wp2
      go_ret
      exact ⟨ret_bool (by rw [HV.out, HE.out]), HAL.out⟩
end Go.Proofs.Ythllincpbiafcaa
