/-
  MERGED TEXTS: W80 W81 W82.
-/
import Derived.Test.YtihgakbopkaemaaK35
import Derived.Test.YtihgakbopkaemaaK14
import Derived.Deep.MidRow
namespace Go.Proofs.Ytihgakbopkaemaa
open Go.RowKit
/-- a queue of ends in memory: its cells lie as those of a heap -/
def QB (w : World) (b : Nat) (f : Nat → Int × Int) (n : Int) : Prop := Blk w b 86 (hpA f n)
theorem QB.n {w : World} {b : Nat} {f : Nat → Int × Int} {n : Int} (h : QB w b f n) : w.cell? ⟨b, 16, none⟩ = some (.int .i64 n) := (Blk.cell h 16).trans rfl
theorem QB.fst {w : World} {b : Nat} {f : Nat → Int × Int} {n : Int} (h : QB w b f n) {i : Nat} (hi : i < 8) : w.cell? ⟨b, i * 2, none⟩ = some (.int .i64 (f i).1) := (Blk.cell h _).trans (hpA_at f n hi).1
theorem QB.snd {w : World} {b : Nat} {f : Nat → Int × Int} {n : Int} (h : QB w b f n) {i : Nat} (hi : i < 8) : w.cell? ⟨b, i * 2 + 1, none⟩ = some (.int .i64 (f i).2) := (Blk.cell h _).trans (hpA_at f n hi).2
theorem QB.frozen {w : World} {b : Nat} {f : Nat → Int × Int} {n : Int} (h : QB w b f n) (i : Nat) : w.frozen? ⟨b, i, none⟩ = false := Blk.frozen h i
theorem QB.setN {w : World} {b : Nat} {f : Nat → Int × Int} {n : Int} (h : QB w b f n) (m : Int) : QB (w.setCell ⟨b, 16, none⟩ (.int .i64 m)) b f m := by
  unfold QB
  rw [← hpA_size_set f n m]
  exact Blk.set_ h 16 _
theorem QB.setP {w : World} {b : Nat} {f : Nat → Int × Int} {n : Int} (h : QB w b f n) {i : Nat} (hi : i < 8) (x : Int × Int) : QB ((w.setCell ⟨b, i * 2, none⟩ (.int .i64 x.1)).setCell ⟨b, i * 2 + 1, none⟩ (.int .i64 x.2)) b (Bs.upd f i x) n := by
  unfold QB
  rw [← hpA_set f n hi x]
  exact Blk.set_ (Blk.set_ h _ _) _ _
theorem QB.below {w w' : World} {b B : Nat} {f : Nat → Int × Int} {n : Int} (h : QB w b f n) (hb : Below B w w') (hg : b < B) : QB w' b f n := Blk.below h hb hg
theorem QB.lt {w : World} {b : Nat} {f : Nat → Int × Int} {n : Int} (h : QB w b f n) : b < w.heap.size := Blk.lt h
theorem QB.far {w : World} {b : Nat} {f : Nat → Int × Int} {n : Int} (h : QB w b f n) {p : Addr} (hp : b ≠ p.block) (u : Value) : QB (w.setCell p u) b f n := Blk.far h hp u
theorem QB.alloc {w : World} {b : Nat} {f : Nat → Int × Int} {n : Int} (h : QB w b f n) (o : Obj) : QB (w.alloc o) b f n := Blk.alloc h o
theorem QB.new (w : World) (f : Nat → Int × Int) (n : Int) : QB (w.alloc (.cells (hpA f n) 86)) w.heap.size f n := Blk.new w _ _
theorem qSize : (Try.prog.info? 86).map (·.size) = some 17 := by kernel_rfl
theorem qOne (f : Nat → Int × Int) (n : Int) : (hpA f n).all (·.oneCell') = true := by simp [hpA, Value.oneCell']
theorem q_load {ops : Array Oper} {rest : List Oper} {op : Oper} {c : Act} {w : World} {Q : Exit → Act → World → Prop} (hgd : op.guard = none) (x : Operand) (ho : op.op = .load 86 x)
    (a : Nat) (f : Nat → Int × Int) (n : Int) (hx : c.eval x = .pointer (some ⟨a, 0, none⟩)) (hb : QB w a f n) (h : wpList Try.prog ops Q rest (c.put op.dst (.agg (hpA f n))) w) : wpList Try.prog ops Q (op :: rest) c w :=
  wpList_load_row hgd 86 x ho a hx 86 (hpA f n) (0, 0) _ hb Try.underlying86 rfl qSize h
theorem qRow_only (w : World) (a : Nat) (f f' : Nat → Int × Int) (n n' : Int) (hb : QB w a f n) : QB (w.setRow a (hpA f' n')) a f' n' ∧ OnlyB a w (w.setRow a (hpA f' n')) := by
  refine ⟨setRow_heap w a _ _ _ _ hb, rfl, rfl, rfl, by simp, fun k hk => setRow_other w a k _ hk⟩
theorem q_store {ops : Array Oper} {rest : List Oper} {op : Oper} {c : Act} {w : World} {Q : Exit → Act → World → Prop} (hgd : op.guard = none) (x y : Operand) (ho : op.op = .store 86 x y)
    (a : Nat) (f f' : Nat → Int × Int) (n n' : Int) (hx : c.eval x = .pointer (some ⟨a, 0, none⟩)) (hy : c.eval y = .agg (hpA f' n')) (hb : QB w a f n)
    (h : ∀ w', QB w' a f' n' → OnlyB a w w' → wpList Try.prog ops Q rest (c.put op.dst undef) w') : wpList Try.prog ops Q (op :: rest) c w :=
  wpList_store_row hgd 86 x y ho a (hpA f' n') hx hy 86 (hpA f n) hb qSize rfl (qOne _ _) (h _ (qRow_only w a f f' n n' hb).1 (qRow_only w a f f' n n' hb).2)
theorem q_ret {fn : Func} {p : Tmp} (h : fn.results = #[.cell p 86]) (tmps : Array Value) (w : World) (a : Nat) (f : Nat → Int × Int) (n : Int) (hp : tmps.getD p undef = .pointer (some ⟨a, 0, none⟩)) (hg : QB w a f n) :
    (results fn tmps).run Try.prog w = .ok (.agg (hpA f n)) w :=
  results_cell_row h tmps w a 86 _ (0, 0) _ hp hg Try.underlying86 rfl qSize
def zP : Nat → Int × Int := fun _ => (0, 0)
/-- the first p places moved on by one -/
def Bs.shF (f : Nat → Int × Int) (p : Nat) : Nat → Int × Int := fun i => if i < p then f (i + 1) else f i
theorem Bs.shF_zero (f : Nat → Int × Int) : Bs.shF f 0 = f := by funext i; unfold Bs.shF; rw [if_neg (by omega)]
theorem Bs.shF_at (f : Nat → Int × Int) {p i : Nat} (h : p ≤ i) : Bs.shF f p i = f i := by unfold Bs.shF; rw [if_neg (by omega)]
theorem Bs.shF_succ (f : Nat → Int × Int) (p : Nat) : Bs.upd (Bs.shF f p) p (f (p + 1)) = Bs.shF f (p + 1) := by
  funext i
  unfold Bs.upd Bs.shF
  by_cases e : i = p
  · subst e; rw [if_pos rfl, if_pos (by omega)]
  · rw [if_neg e]
    by_cases h : i < p
    · rw [if_pos h, if_pos (by omega)]
    · rw [if_neg h, if_neg (by omega)]
set_option maxRecDepth 20000 in
set_option maxHeartbeats 1600000 in
theorem qWithoutFirst_any (f : Nat → Int × Int) (n : Nat) (hn : n < 8) (w : World) :
    Calls Try.prog 91 #[.agg (hpA f ((n : Int) + 1))] w fun e w' => e = .returned (.agg (hpA (Bs.shF f n) n)) ∧ Below w.heap.size w w' := by
  obtain ⟨PA, hPA⟩ : ∃ PA, PA = hpA f ((n : Int) + 1) := ⟨_, rfl⟩
  obtain ⟨PB, hPB⟩ : ∃ PB, PB = hpA f (n : Int) := ⟨_, rfl⟩
  have hset : PA.setIfInBounds 16 (.int .i64 (n : Int)) = PB := by rw [hPA, hPB]; exact hpA_size_set _ _ _
  have e16 : PA[16]? = some (.int .i64 ((n : Int) + 1)) := by rw [hPA]; exact hpA_n _ _
  have p1 := QB.new w f (n : Int)
  rw [← hPB] at p1
  have hz : (.cells (hpA zP 0) 86 : Obj) = .cells #[.int .i64 0, .int .i64 0, .int .i64 0, .int .i64 0, .int .i64 0, .int .i64 0, .int .i64 0, .int .i64 0, .int .i64 0, .int .i64 0, .int .i64 0, .int .i64 0, .int .i64 0, .int .i64 0, .int .i64 0, .int .i64 0, .int .i64 0] 86 := rfl
  have p2 := QB.new (w.alloc (.cells PB 86)) zP 0
  have p1' := p1.alloc (.cells (hpA zP 0) 86)
  have hbl := ((Below.refl w.heap.size w).alloc (Nat.le_refl _) (.cells PB 86)).alloc (by simp) (.cells (hpA zP 0) 86)
  simp only [World.size_alloc] at p2
  rw [hz] at p2 p1' hbl
  have HP := Lib.hid p1'
  have HZ := Lib.hid p2
  have HB := Lib.hid hbl
  rw [← hPA]
  clear p1 p2 p1' hbl hz hPA hPB
  have hw : IntKind.i64.wrap (n : Int) = (n : Int) := IntWalk.i64_in _ ⟨by omega, by omega⟩
  go_enter Try.func91, Try.ntmps91
  go_wp2_with fail
  go_loopw [3] (fun i wr => ∃ (p : Nat), p ≤ n ∧ i = .int .i64 p ∧ QB wr w.heap.size (Bs.shF f p) n ∧ QB wr (w.heap.size + 1) zP 0 ∧ Below w.heap.size w wr) (fun i _ => n - (intOf i).toNat)
  case atStart => exact ⟨0, Nat.zero_le _, rfl, by rw [Bs.shF_zero]; exact HP.out, HZ.out, HB.out⟩
  case round =>
    obtain ⟨p, hp, rfl, hq, hz, hb⟩ := hrel
    clear HP HZ HB
    have k16 := hq.n
    by_cases hlt : p < n
    · have c0 := hq.fst (i := p + 1) (by omega)
      have c1 := hq.snd (i := p + 1) (by omega)
      rw [Bs.shF_at f (by omega)] at c0 c1
      have d0 := hq.fst (i := p) (by omega)
      have d1 := hq.snd (i := p) (by omega)
      have g0 := hq.frozen (p * 2)
      have g1 := hq.frozen (p * 2 + 1)
      have hs := hq.setP (i := p) (by omega) (f (p + 1))
      rw [Bs.shF_succ] at hs
      have HS := Lib.hid hs
      have HZ := Lib.hid ((hz.far (p := ⟨w.heap.size, p * 2, none⟩) (by simp) (.int .i64 (f (p + 1)).1)).far (p := ⟨w.heap.size, p * 2 + 1, none⟩) (by simp) (.int .i64 (f (p + 1)).2))
      have HB := Lib.hid ((hb.setCell (p := ⟨w.heap.size, p * 2, none⟩) (Nat.le_refl _) (.int .i64 (f (p + 1)).1)).setCell (p := ⟨w.heap.size, p * 2 + 1, none⟩) (Nat.le_refl _) (.int .i64 (f (p + 1)).2))
      have i0 : (0 : Int) ≤ (p : Int) := by omega
      have i1 : (p : Int) < 8 := by omega
      have i2 : (p : Int) + 1 < 8 := by omega
      have i3 : (0 : Int) ≤ (p : Int) + 1 := by omega
      have i4 : (p : Int) < (n : Int) := by omega
      have hwp : IntKind.i64.wrap ((p : Int) + 1) = (p : Int) + 1 := IntWalk.i64_in _ ⟨by omega, by omega⟩
      have htn : ((p : Int) + 1).toNat = p + 1 := by omega
      clear hs hq hz hb
      generalize Bs.shF f p = fp at *
      generalize (f (p + 1)).1 = x0 at *
      generalize (f (p + 1)).2 = x1 at *
      go_wp2
      go_roundw
      case rel => exact ⟨p + 1, by omega, by go_num, HS.out, HZ.out, HB.out⟩
      case measure => simp [intOf]; omega
    · obtain rfl : p = n := by omega
      have HQ := Lib.hid hq
      have HZ := Lib.hid hz
      have HB := Lib.hid hb
      clear hq hz hb
      go_wp2_with (first
        | (refine q_load rfl _ rfl w.heap.size (Bs.shF f p) p rfl HQ.out ?_)
        | (refine q_store rfl _ _ rfl (w.heap.size + 1) zP (Bs.shF f p) 0 p rfl rfl HZ.out ?_; intro w9 h9 o9))
      exact bodyPost_ret (q_ret rfl _ _ (w.heap.size + 1) (Bs.shF f p) p rfl h9) rfl ⟨rfl, HB.out.trans (o9.below (by omega))⟩
end Go.Proofs.Ytihgakbopkaemaa
namespace Go.Proofs.Ytihgakbopkaemaa
open Go.RowKit
/-- the place of an end that is over at t, behind all that are over then -/
def Bs.insP (f : Nat → Int × Int) (t : Int) : Nat → Nat
  | 0 => 0
  | q + 1 => if t < (f q).2 then Bs.insP f t q else q + 1
theorem Bs.insP_le (f : Nat → Int × Int) (t : Int) : ∀ q, Bs.insP f t q ≤ q := by
  intro q
  induction q with
  | zero => exact Nat.le_refl _
  | succ q ih => unfold Bs.insP; split <;> omega
/-- the places behind q, up to n, moved on by one -/
def Bs.gapF (f : Nat → Int × Int) (n q : Nat) : Nat → Int × Int := fun i => if q < i ∧ i ≤ n then f (i - 1) else f i
theorem Bs.gapF_all (f : Nat → Int × Int) (n : Nat) : Bs.gapF f n n = f := by funext i; unfold Bs.gapF; rw [if_neg (by omega)]
theorem Bs.gapF_at (f : Nat → Int × Int) {n q i : Nat} (h : i ≤ q) : Bs.gapF f n q i = f i := by unfold Bs.gapF; rw [if_neg (by omega)]
theorem Bs.gapF_pred (f : Nat → Int × Int) {n q : Nat} (h : q < n) : Bs.upd (Bs.gapF f n (q + 1)) (q + 1) (f q) = Bs.gapF f n q := by
  funext i
  unfold Bs.upd Bs.gapF
  by_cases e : i = q + 1
  · subst e; rw [if_pos rfl, if_pos (by omega)]; rfl
  · rw [if_neg e]
    by_cases h2 : q < i ∧ i ≤ n
    · rw [if_pos h2, if_pos (by omega)]
    · rw [if_neg h2, if_neg (by omega)]
def Bs.insF (f : Nat → Int × Int) (n : Nat) (e : Int × Int) : Nat → Int × Int := Bs.upd (Bs.gapF f n (Bs.insP f e.2 n)) (Bs.insP f e.2 n) e
set_option maxRecDepth 20000 in
set_option maxHeartbeats 3200000 in
theorem qWith_any (f : Nat → Int × Int) (n : Nat) (e0 e1 : Int) (hn : n < 8) (w : World) :
    Calls Try.prog 88 #[.agg (hpA f (n : Int)), .agg #[.int .i64 e0, .int .i64 e1]] w fun e w' => e = .returned (.agg (hpA (Bs.insF f n (e0, e1)) ((n : Int) + 1))) ∧ Below w.heap.size w w' := by
  obtain ⟨PA, hPA⟩ : ∃ PA, PA = hpA f (n : Int) := ⟨_, rfl⟩
  obtain ⟨PB, hPB⟩ : ∃ PB, PB = hpA f ((n : Int) + 1) := ⟨_, rfl⟩
  have hset : PA.setIfInBounds 16 (.int .i64 ((n : Int) + 1)) = PB := by rw [hPA, hPB]; exact hpA_size_set _ _ _
  have e16 : PA[16]? = some (.int .i64 (n : Int)) := by rw [hPA]; exact hpA_n _ _
  have p1 := QB.new w f ((n : Int) + 1)
  rw [← hPB] at p1
  have hz : (.cells (hpA zP 0) 86 : Obj) = .cells #[.int .i64 0, .int .i64 0, .int .i64 0, .int .i64 0, .int .i64 0, .int .i64 0, .int .i64 0, .int .i64 0, .int .i64 0, .int .i64 0, .int .i64 0, .int .i64 0, .int .i64 0, .int .i64 0, .int .i64 0, .int .i64 0, .int .i64 0] 86 := rfl
  have p2 := Blk.new (w.alloc (.cells PB 86)) 83 #[.int .i64 e0, .int .i64 e1]
  have p3 := QB.new ((w.alloc (.cells PB 86)).alloc (.cells #[.int .i64 e0, .int .i64 e1] 83)) zP 0
  have p1' := (p1.alloc (.cells #[.int .i64 e0, .int .i64 e1] 83)).alloc (.cells (hpA zP 0) 86)
  have p2' := p2.alloc (.cells (hpA zP 0) 86)
  have hbl := (((Below.refl w.heap.size w).alloc (Nat.le_refl _) (.cells PB 86)).alloc (by simp) (.cells #[.int .i64 e0, .int .i64 e1] 83)).alloc (by simp; omega) (.cells (hpA zP 0) 86)
  simp only [World.size_alloc] at p2' p3
  rw [hz] at p3 p1' p2' hbl
  have HP := Lib.hid p1'
  have HE := Lib.hid p2'
  have HZ := Lib.hid p3
  have HB := Lib.hid hbl
  rw [← hPA]
  clear p1 p2 p3 p1' p2' hbl hz hPA hPB
  have hw : IntKind.i64.wrap ((n : Int) + 1) = (n : Int) + 1 := IntWalk.i64_in _ ⟨by omega, by omega⟩
  go_enter Try.func88, Try.ntmps88
  go_wp2_with fail
  go_loopw [5] (fun i wr => ∃ (q : Nat), q ≤ n ∧ i = .int .i64 q ∧ Bs.insP f e1 n = Bs.insP f e1 q ∧ QB wr w.heap.size (Bs.gapF f n q) ((n : Int) + 1) ∧ Blk wr (w.heap.size + 1) 83 #[.int .i64 e0, .int .i64 e1] ∧ QB wr (w.heap.size + 1 + 1) zP 0 ∧ Below w.heap.size w wr) (fun i _ => (intOf i).toNat)
  case atStart => exact ⟨n, Nat.le_refl _, rfl, rfl, by rw [Bs.gapF_all]; exact HP.out, HE.out, HZ.out, HB.out⟩
  case round =>
    obtain ⟨q, hq, rfl, hin, hqb, he, hzb, hb⟩ := hrel
    clear HP HE HZ HB hw
    have HIN := Lib.hid hin
    have HQ := Lib.hid hqb
    have HE := Lib.hid he
    have HZ := Lib.hid hzb
    have HB := Lib.hid hb
    have k0 : wr.cell? ⟨w.heap.size + 1, 0, none⟩ = some (.int .i64 e0) := (Blk.cell he 0).trans rfl
    have k1 : wr.cell? ⟨w.heap.size + 1, 1, none⟩ = some (.int .i64 e1) := (Blk.cell he 1).trans rfl
    have FIN : ∀ (W : World), Bs.insP f e1 n = q → QB W w.heap.size (Bs.gapF f n q) ((n : Int) + 1) → QB ((W.setCell ⟨w.heap.size, q * 2, none⟩ (.int .i64 e0)).setCell ⟨w.heap.size, q * 2 + 1, none⟩ (.int .i64 e1)) w.heap.size (Bs.insF f n (e0, e1)) ((n : Int) + 1) := by
      intro W h1 h2
      have := h2.setP (i := q) (by omega) (e0, e1)
      have e2 : Bs.insF f n (e0, e1) = Bs.upd (Bs.gapF f n q) q (e0, e1) := by unfold Bs.insF; rw [show Bs.insP f (e0, e1).2 n = q from h1]
      rw [e2]
      exact this
    have HFIN := Lib.hid FIN
    clear hin hqb he hzb hb FIN
    by_cases hq0 : q = 0
    · subst hq0
      have HI := Lib.hid (show Bs.insP f e1 n = 0 from HIN.out)
      clear HIN
      go_wp2
      go_quiet (fail)
      have HQ1 := Lib.hid (show QB (wr.drewN nq) w.heap.size (Bs.gapF f n 0) ((n : Int) + 1) from HQ.out)
      have HZ1 := Lib.hid (show QB (wr.drewN nq) (w.heap.size + 1 + 1) zP 0 from HZ.out)
      have HB1 := Lib.hid (HB.out.drewN nq)
      have m0 : (wr.drewN nq).cell? ⟨w.heap.size + 1, 0, none⟩ = some (.int .i64 e0) := k0
      have m1 : (wr.drewN nq).cell? ⟨w.heap.size + 1, 1, none⟩ = some (.int .i64 e1) := k1
      generalize wr.drewN nq = W1 at *
      have d0 := HQ1.out.fst (i := 0) (by omega)
      have d1 := HQ1.out.snd (i := 0) (by omega)
      have g0 := HQ1.out.frozen 0
      have g1 := HQ1.out.frozen 1
      have HS := Lib.hid (show QB ((W1.setCell ⟨w.heap.size, 0, none⟩ (.int .i64 e0)).setCell ⟨w.heap.size, 1, none⟩ (.int .i64 e1)) w.heap.size (Bs.insF f n (e0, e1)) ((n : Int) + 1) from HFIN.out W1 HI.out HQ1.out)
      have hne : w.heap.size + 1 + 1 ≠ w.heap.size := by omega
      have HZ2 := Lib.hid ((HZ1.out.far (p := ⟨w.heap.size, 0, none⟩) hne (.int .i64 e0)).far (p := ⟨w.heap.size, 1, none⟩) hne (.int .i64 e1))
      have HB2 := Lib.hid ((HB1.out.setCell (p := ⟨w.heap.size, 0, none⟩) (Nat.le_refl _) (.int .i64 e0)).setCell (p := ⟨w.heap.size, 1, none⟩) (Nat.le_refl _) (.int .i64 e1))
      clear hne
      clear HQ HZ HB k0 k1 HFIN HI HQ1 HZ1 HB1
      go_wp2_with (first
        | (refine q_load rfl _ rfl w.heap.size (Bs.insF f n (e0, e1)) ((n : Int) + 1) rfl HS.out ?_)
        | (refine q_store rfl _ _ rfl (w.heap.size + 1 + 1) zP (Bs.insF f n (e0, e1)) 0 ((n : Int) + 1) rfl rfl HZ2.out ?_; intro w9 h9 o9))
      exact bodyPost_ret (q_ret rfl _ _ (w.heap.size + 1 + 1) (Bs.insF f n (e0, e1)) ((n : Int) + 1) rfl h9) rfl ⟨rfl, HB2.out.trans (o9.below (by omega))⟩
    · obtain ⟨r, rfl⟩ : ∃ r, q = r + 1 := ⟨q - 1, by omega⟩
      have c0 := HQ.out.fst (i := r) (by omega)
      have c1 := HQ.out.snd (i := r) (by omega)
      rw [Bs.gapF_at f (by omega)] at c0 c1
      have i0 : (0 : Int) < (r : Int) + 1 := by omega
      have i1 : (0 : Int) ≤ (r : Int) + 1 := by omega
      have i2 : (r : Int) + 1 < 8 := by omega
      have i3 : (0 : Int) ≤ (r : Int) := by omega
      have i4 : (r : Int) < 8 := by omega
      have hwr : IntKind.i64.wrap (r : Int) = (r : Int) := IntWalk.i64_in _ ⟨by omega, by omega⟩
      have htn : ((r : Int) + 1).toNat = r + 1 := by omega
      obtain ⟨x0, hx0⟩ : ∃ x0, x0 = (f r).1 := ⟨_, rfl⟩
      obtain ⟨x1, hx1⟩ : ∃ x1, x1 = (f r).2 := ⟨_, rfl⟩
      rw [← hx0] at c0
      rw [← hx1] at c1
      have hfr : f r = (x0, x1) := by rw [hx0, hx1]
      have HI0 := Lib.hid (show Bs.insP f e1 (r + 1) = if e1 < x1 then Bs.insP f e1 r else r + 1 from by rw [hx1]; rfl)
      have HGP := Lib.hid (show Bs.upd (Bs.gapF f n (r + 1)) (r + 1) (x0, x1) = Bs.gapF f n r from by rw [← hfr]; exact Bs.gapF_pred f (by omega))
      have HX0 := Lib.hid hx0
      have HX1 := Lib.hid hx1
      clear hx0 hx1 hfr hq0
      by_cases hc : e1 < x1
      · have dd : decide (e1 < x1) = true := by simp [hc]
        have dd2 : decide (x1 > e1) = true := by simp [hc]
        have HI := Lib.hid (show Bs.insP f e1 n = Bs.insP f e1 r from by rw [HIN.out, HI0.out, if_pos hc])
        clear HIN HI0 hc HFIN
        go_wp2
        go_quiet (fail)
        have HQ1 := Lib.hid (show QB (wr.drewN nq) w.heap.size (Bs.gapF f n (r + 1)) ((n : Int) + 1) from HQ.out)
        have HZ1 := Lib.hid (show QB (wr.drewN nq) (w.heap.size + 1 + 1) zP 0 from HZ.out)
        have HB1 := Lib.hid (HB.out.drewN nq)
        have HE1 := Lib.hid (show Blk (wr.drewN nq) (w.heap.size + 1) 83 #[.int .i64 e0, .int .i64 e1] from HE.out)
        have m0 : (wr.drewN nq).cell? ⟨w.heap.size + 1, 0, none⟩ = some (.int .i64 e0) := k0
        have m1 : (wr.drewN nq).cell? ⟨w.heap.size + 1, 1, none⟩ = some (.int .i64 e1) := k1
        generalize wr.drewN nq = W1 at *
        have d0 := HQ1.out.fst (i := r + 1) (by omega)
        have d1 := HQ1.out.snd (i := r + 1) (by omega)
        have g0 := HQ1.out.frozen ((r + 1) * 2)
        have g1 := HQ1.out.frozen ((r + 1) * 2 + 1)
        have hne : w.heap.size + 1 + 1 ≠ w.heap.size := by omega
        have hne1 : w.heap.size + 1 ≠ w.heap.size := by omega
        have b0 := HQ1.out.fst (i := r) (by omega)
        have b1 := HQ1.out.snd (i := r) (by omega)
        rw [Bs.gapF_at f (by omega)] at b0 b1
        rw [← HX0.out] at b0
        rw [← HX1.out] at b1
        have hs := HQ1.out.setP (i := r + 1) (by omega) (x0, x1)
        rw [HGP.out] at hs
        have HS := Lib.hid hs
        have HE2 := Lib.hid (((HE1.out).far (p := ⟨w.heap.size, (r + 1) * 2, none⟩) hne1 (.int .i64 x0)).far (p := ⟨w.heap.size, (r + 1) * 2 + 1, none⟩) hne1 (.int .i64 x1))
        have HZ2 := Lib.hid ((HZ1.out.far (p := ⟨w.heap.size, (r + 1) * 2, none⟩) hne (.int .i64 x0)).far (p := ⟨w.heap.size, (r + 1) * 2 + 1, none⟩) hne (.int .i64 x1))
        have HB2 := Lib.hid ((HB1.out.setCell (p := ⟨w.heap.size, (r + 1) * 2, none⟩) (Nat.le_refl _) (.int .i64 x0)).setCell (p := ⟨w.heap.size, (r + 1) * 2 + 1, none⟩) (Nat.le_refl _) (.int .i64 x1))
        clear hs HQ HZ HB HE k0 k1 HQ1 HZ1 HB1 HE1 HGP hne hne1
        go_wp2
        go_roundw
        case rel => exact ⟨r, by omega, by go_num, HI.out, HS.out, HE2.out, HZ2.out, HB2.out⟩
        case measure => simp [intOf]
      · have dd : decide (e1 < x1) = false := by simp [hc]
        have dd2 : decide (x1 > e1) = false := by simp [hc]
        have HI := Lib.hid (show Bs.insP f e1 n = r + 1 from by rw [HIN.out, HI0.out, if_neg hc])
        clear HIN HI0 hc HGP
        go_wp2
        go_quiet (fail)
        have HQ1 := Lib.hid (show QB (wr.drewN nq) w.heap.size (Bs.gapF f n (r + 1)) ((n : Int) + 1) from HQ.out)
        have HZ1 := Lib.hid (show QB (wr.drewN nq) (w.heap.size + 1 + 1) zP 0 from HZ.out)
        have HB1 := Lib.hid (HB.out.drewN nq)
        have HE1 := Lib.hid (show Blk (wr.drewN nq) (w.heap.size + 1) 83 #[.int .i64 e0, .int .i64 e1] from HE.out)
        have m0 : (wr.drewN nq).cell? ⟨w.heap.size + 1, 0, none⟩ = some (.int .i64 e0) := k0
        have m1 : (wr.drewN nq).cell? ⟨w.heap.size + 1, 1, none⟩ = some (.int .i64 e1) := k1
        generalize wr.drewN nq = W1 at *
        have d0 := HQ1.out.fst (i := r + 1) (by omega)
        have d1 := HQ1.out.snd (i := r + 1) (by omega)
        have g0 := HQ1.out.frozen ((r + 1) * 2)
        have g1 := HQ1.out.frozen ((r + 1) * 2 + 1)
        have hne : w.heap.size + 1 + 1 ≠ w.heap.size := by omega
        have hne1 : w.heap.size + 1 ≠ w.heap.size := by omega
        have HS := Lib.hid (HFIN.out W1 HI.out HQ1.out)
        have HZ2 := Lib.hid ((HZ1.out.far (p := ⟨w.heap.size, (r + 1) * 2, none⟩) hne (.int .i64 e0)).far (p := ⟨w.heap.size, (r + 1) * 2 + 1, none⟩) hne (.int .i64 e1))
        have HB2 := Lib.hid ((HB1.out.setCell (p := ⟨w.heap.size, (r + 1) * 2, none⟩) (Nat.le_refl _) (.int .i64 e0)).setCell (p := ⟨w.heap.size, (r + 1) * 2 + 1, none⟩) (Nat.le_refl _) (.int .i64 e1))
        clear HQ HZ HB HE k0 k1 HQ1 HZ1 HB1 HE1 HFIN HI hne hne1
        go_wp2_with (first
          | (refine q_load rfl _ rfl w.heap.size (Bs.insF f n (e0, e1)) ((n : Int) + 1) rfl HS.out ?_)
          | (refine q_store rfl _ _ rfl (w.heap.size + 1 + 1) zP (Bs.insF f n (e0, e1)) 0 ((n : Int) + 1) rfl rfl HZ2.out ?_; intro w9 h9 o9))
        exact bodyPost_ret (q_ret rfl _ _ (w.heap.size + 1 + 1) (Bs.insF f n (e0, e1)) ((n : Int) + 1) rfl h9) rfl ⟨rfl, HB2.out.trans (o9.below (by omega))⟩
end Go.Proofs.Ytihgakbopkaemaa
namespace Go.Proofs.Ytihgakbopkaemaa
open Go.RowKit
/-- a plan at a time as cells: the time, the beginnings, what is over, the ends to come -/
def psA (t : Int) (f : Nat → Int) (b o : Nat) (h : Nat → Int × Int) (n : Int) : Array Value := #[.int .i64 t, .int .i64 (f 0), .int .i64 (f 1), .int .i64 (f 2), .int .i64 (f 3), .int .i64 (f 4), .int .i64 (f 5), .int .i64 (f 6), .int .i64 (f 7), .int .u64 (b : Int), .int .u64 (o : Int),
  .int .i64 (h 0).1, .int .i64 (h 0).2, .int .i64 (h 1).1, .int .i64 (h 1).2, .int .i64 (h 2).1, .int .i64 (h 2).2, .int .i64 (h 3).1, .int .i64 (h 3).2, .int .i64 (h 4).1, .int .i64 (h 4).2, .int .i64 (h 5).1, .int .i64 (h 5).2, .int .i64 (h 6).1, .int .i64 (h 6).2, .int .i64 (h 7).1, .int .i64 (h 7).2, .int .i64 n]
theorem psSize : (Try.prog.info? 88).map (·.size) = some 28 := by kernel_rfl
theorem psOne (t : Int) (f : Nat → Int) (b o : Nat) (h : Nat → Int × Int) (n : Int) : (psA t f b o h n).all (·.oneCell') = true := by simp [psA, Value.oneCell']
def PS (w : World) (a : Nat) (t : Int) (f : Nat → Int) (b o : Nat) (h : Nat → Int × Int) (n : Int) : Prop := Blk w a 88 (psA t f b o h n)
/-- a row's cells, some of them stored anew -/
def spl (cs : Array Value) (k : Nat) : List Value → Array Value
  | [] => cs
  | v :: r => spl (cs.setIfInBounds k v) (k + 1) r
theorem Blk.spl {a : Nat} {ty : TypeId} : ∀ (vs : List Value) (k : Nat) (w : World) (cs : Array Value), Blk w a ty cs → Blk (w.setCells a k vs) a ty (spl cs k vs) := by
  intro vs
  induction vs with
  | nil => intro k w cs h; exact h
  | cons v r ih => intro k w cs h; exact ih (k + 1) _ _ (Blk.set_ h k v)
theorem Blk.splFar {a g : Nat} {ty : TypeId} {cs : Array Value} (hne : g ≠ a) : ∀ (vs : List Value) (k : Nat) (w : World), Blk w g ty cs → Blk (w.setCells a k vs) g ty cs := by
  intro vs
  induction vs with
  | nil => intro k w h; exact h
  | cons v r ih => intro k w h; exact ih (k + 1) _ (Blk.far (p := ⟨a, k, none⟩) h hne v)
theorem Below.spl {B a : Nat} {w : World} (ha : B ≤ a) : ∀ (vs : List Value) (k : Nat) (w' : World), Below B w w' → Below B w (w'.setCells a k vs) := by
  intro vs
  induction vs with
  | nil => intro k w' h; exact h
  | cons v r ih => intro k w' h; exact ih (k + 1) _ (h.setCell (p := ⟨a, k, none⟩) ha v)
variable {w w' : World} {a b o : Nat} {t n : Int} {f : Nat → Int} {h : Nat → Int × Int}
theorem PS.new (w : World) (t : Int) (f : Nat → Int) (b o : Nat) (h : Nat → Int × Int) (n : Int) : PS (w.alloc (.cells (psA t f b o h n) 88)) w.heap.size t f b o h n := Blk.new w _ _
theorem PS.frozen (p : PS w a t f b o h n) (i : Nat) : w.frozen? ⟨a, i, none⟩ = false := Blk.frozen p i
theorem PS.now (p : PS w a t f b o h n) : w.cell? ⟨a, 0, none⟩ = some (.int .i64 t) := (Blk.cell p 0).trans rfl
theorem PS.over (p : PS w a t f b o h n) : w.cell? ⟨a, 10, none⟩ = some (.int .u64 (o : Int)) := (Blk.cell p 10).trans rfl
theorem PS.begun (p : PS w a t f b o h n) : w.cell? ⟨a, 9, none⟩ = some (.int .u64 (b : Int)) := (Blk.cell p 9).trans rfl
theorem PS.first (p : PS w a t f b o h n) : w.cell? ⟨a, 11, none⟩ = some (.int .i64 (h 0).1) ∧ w.cell? ⟨a, 12, none⟩ = some (.int .i64 (h 0).2) := ⟨(Blk.cell p 11).trans rfl, (Blk.cell p 12).trans rfl⟩
theorem PS.size_ (p : PS w a t f b o h n) : w.cell? ⟨a, 27, none⟩ = some (.int .i64 n) := (Blk.cell p 27).trans rfl
theorem PS.setNow (p : PS w a t f b o h n) (x : Int) : PS (w.setCell ⟨a, 0, none⟩ (.int .i64 x)) a x f b o h n := Blk.set_ p 0 _
theorem PS.setOver (p : PS w a t f b o h n) (x : Nat) : PS (w.setCell ⟨a, 10, none⟩ (.int .u64 (x : Int))) a t f b x h n := Blk.set_ p 10 _
theorem PS.below {B : Nat} (p : PS w a t f b o h n) (hb : Below B w w') (hg : a < B) : PS w' a t f b o h n := Blk.below p hb hg
theorem PS.lt (p : PS w a t f b o h n) : a < w.heap.size := Blk.lt p
theorem PS.alloc (p : PS w a t f b o h n) (x : Obj) : PS (w.alloc x) a t f b o h n := Blk.alloc p x
theorem PS.far (p : PS w a t f b o h n) {q : Addr} (hp : a ≠ q.block) (u : Value) : PS (w.setCell q u) a t f b o h n := Blk.far p hp u
theorem PS.setPlan (p : PS w a t f b o h n) (f' : Nat → Int) (b' : Nat) : PS (w.setCells a 1 (bgA f' b').toList) a t f' b' o h n := by
  have e : spl (psA t f b o h n) 1 (bgA f' b').toList = psA t f' b' o h n := by simp [spl, psA, bgA]
  have := Blk.spl (bgA f' b').toList 1 w _ p
  rw [e] at this
  exact this
theorem PS.setEnds (p : PS w a t f b o h n) (h' : Nat → Int × Int) (n' : Int) : PS (w.setCells a 11 (hpA h' n').toList) a t f b o h' n' := by
  have e : spl (psA t f b o h n) 11 (hpA h' n').toList = psA t f b o h' n' := by simp [spl, psA, hpA]
  have := Blk.spl (hpA h' n').toList 11 w _ p
  rw [e] at this
  exact this
/-- the beginnings lie in the middle -/
theorem PS.planRange (p : PS w a t f b o h n) : w.rangeAt a 1 (bgA f b).toList := by
  intro j v hv
  have hj : j < 9 := (List.getElem?_eq_some_iff.1 hv).1
  refine (Blk.cell p (1 + j)).trans ?_
  rw [← hv]
  match j, hj with
  | 0, _ => rfl
  | 1, _ => rfl
  | 2, _ => rfl
  | 3, _ => rfl
  | 4, _ => rfl
  | 5, _ => rfl
  | 6, _ => rfl
  | 7, _ => rfl
  | 8, _ => rfl
theorem PS.planThere (p : PS w a t f b o h n) : w.there a 1 9 := by
  intro j hj
  refine ⟨?_, Blk.frozen p _⟩
  rw [Blk.cell p (1 + j)]
  match j, hj with
  | 0, _ => rfl
  | 1, _ => rfl
  | 2, _ => rfl
  | 3, _ => rfl
  | 4, _ => rfl
  | 5, _ => rfl
  | 6, _ => rfl
  | 7, _ => rfl
  | 8, _ => rfl
/-- the ends lie behind -/
theorem PS.endsRange (p : PS w a t f b o h n) : w.rangeAt a 11 (hpA h n).toList := by
  intro j v hv
  have hj : j < 17 := (List.getElem?_eq_some_iff.1 hv).1
  refine (Blk.cell p (11 + j)).trans ?_
  rw [← hv]
  match j, hj with
  | 0, _ => rfl
  | 1, _ => rfl
  | 2, _ => rfl
  | 3, _ => rfl
  | 4, _ => rfl
  | 5, _ => rfl
  | 6, _ => rfl
  | 7, _ => rfl
  | 8, _ => rfl
  | 9, _ => rfl
  | 10, _ => rfl
  | 11, _ => rfl
  | 12, _ => rfl
  | 13, _ => rfl
  | 14, _ => rfl
  | 15, _ => rfl
  | 16, _ => rfl
theorem PS.endsThere (p : PS w a t f b o h n) : w.there a 11 17 := by
  intro j hj
  refine ⟨?_, Blk.frozen p _⟩
  rw [Blk.cell p (11 + j)]
  match j, hj with
  | 0, _ => rfl
  | 1, _ => rfl
  | 2, _ => rfl
  | 3, _ => rfl
  | 4, _ => rfl
  | 5, _ => rfl
  | 6, _ => rfl
  | 7, _ => rfl
  | 8, _ => rfl
  | 9, _ => rfl
  | 10, _ => rfl
  | 11, _ => rfl
  | 12, _ => rfl
  | 13, _ => rfl
  | 14, _ => rfl
  | 15, _ => rfl
  | 16, _ => rfl
  | k + 17, hk => exact absurd hk (by omega)
section
variable {ops : Array Oper} {rest : List Oper} {op : Oper} {c : Act} {Q : Exit → Act → World → Prop}
theorem ps_load (hgd : op.guard = none) (x : Operand) (ho : op.op = .load 88 x) (a : Nat) (t : Int) (f : Nat → Int) (b o : Nat) (h : Nat → Int × Int) (n : Int) (hx : c.eval x = .pointer (some ⟨a, 0, none⟩)) (hb : PS w a t f b o h n) (hk : wpList Try.prog ops Q rest (c.put op.dst (.agg (psA t f b o h n))) w) : wpList Try.prog ops Q (op :: rest) c w :=
  wpList_load_row hgd 88 x ho a hx 88 (psA t f b o h n) (0, 0) _ hb Try.underlying88 rfl psSize hk
theorem psRow_only (w : World) (a : Nat) (t t' : Int) (f f' : Nat → Int) (b b' o o' : Nat) (h h' : Nat → Int × Int) (n n' : Int) (hb : PS w a t f b o h n) : PS (w.setRow a (psA t' f' b' o' h' n')) a t' f' b' o' h' n' ∧ OnlyB a w (w.setRow a (psA t' f' b' o' h' n')) := by
  refine ⟨setRow_heap w a _ _ _ _ hb, rfl, rfl, rfl, by simp, fun k hk => setRow_other w a k _ hk⟩
theorem ps_store (hgd : op.guard = none) (x y : Operand) (ho : op.op = .store 88 x y) (a : Nat) (t t' : Int) (f f' : Nat → Int) (b b' o o' : Nat) (h h' : Nat → Int × Int) (n n' : Int) (hx : c.eval x = .pointer (some ⟨a, 0, none⟩)) (hy : c.eval y = .agg (psA t' f' b' o' h' n')) (hb : PS w a t f b o h n)
    (hk : ∀ w', PS w' a t' f' b' o' h' n' → OnlyB a w w' → wpList Try.prog ops Q rest (c.put op.dst undef) w') : wpList Try.prog ops Q (op :: rest) c w :=
  wpList_store_row hgd 88 x y ho a (psA t' f' b' o' h' n') hx hy 88 (psA t f b o h n) hb psSize rfl (psOne _ _ _ _ _ _) (hk _ (psRow_only w a t t' f f' b b' o o' h h' n n' hb).1 (psRow_only w a t t' f f' b b' o o' h h' n n' hb).2)
theorem ps_ret {fn : Func} {p : Tmp} (hr : fn.results = #[.cell p 88]) (tmps : Array Value) (w : World) (a : Nat) (t : Int) (f : Nat → Int) (b o : Nat) (h : Nat → Int × Int) (n : Int) (hp : tmps.getD p undef = .pointer (some ⟨a, 0, none⟩)) (hg : PS w a t f b o h n) :
    (results fn tmps).run Try.prog w = .ok (.agg (psA t f b o h n)) w :=
  results_cell_row hr tmps w a 88 _ (0, 0) _ hp hg Try.underlying88 rfl psSize
theorem ps_plan (hgd : op.guard = none) (x : Operand) (ho : op.op = .load 57 x) (a : Nat) (t : Int) (f : Nat → Int) (b o : Nat) (h : Nat → Int × Int) (n : Int) (hx : c.eval x = .pointer (some ⟨a, 1, none⟩)) (hb : PS w a t f b o h n) (hk : wpList Try.prog ops Q rest (c.put op.dst (.agg (bgA f b))) w) : wpList Try.prog ops Q (op :: rest) c w :=
  wpList_load_mid hgd 57 x ho a 1 hx (bgA f b).toList _ hb.planRange Try.underlying57 rfl bgSize hk
theorem ps_setPlan (hgd : op.guard = none) (x y : Operand) (ho : op.op = .store 57 x y) (a : Nat) (t : Int) (f f' : Nat → Int) (b b' o : Nat) (h : Nat → Int × Int) (n : Int) (hx : c.eval x = .pointer (some ⟨a, 1, none⟩)) (hy : c.eval y = .agg (bgA f' b')) (hb : PS w a t f b o h n)
    (hk : wpList Try.prog ops Q rest (c.put op.dst undef) (w.setCells a 1 (bgA f' b').toList)) : wpList Try.prog ops Q (op :: rest) c w :=
  wpList_store_mid hgd 57 x y ho a 1 (bgA f' b') hx hy hb.planThere bgSize (bgOne _ _) hk
theorem ps_ends (hgd : op.guard = none) (x : Operand) (ho : op.op = .load 86 x) (a : Nat) (t : Int) (f : Nat → Int) (b o : Nat) (h : Nat → Int × Int) (n : Int) (hx : c.eval x = .pointer (some ⟨a, 11, none⟩)) (hb : PS w a t f b o h n) (hk : wpList Try.prog ops Q rest (c.put op.dst (.agg (hpA h n))) w) : wpList Try.prog ops Q (op :: rest) c w :=
  wpList_load_mid hgd 86 x ho a 11 hx (hpA h n).toList _ hb.endsRange Try.underlying86 rfl qSize hk
theorem ps_setEnds (hgd : op.guard = none) (x y : Operand) (ho : op.op = .store 86 x y) (a : Nat) (t : Int) (f : Nat → Int) (b o : Nat) (h h' : Nat → Int × Int) (n n' : Int) (hx : c.eval x = .pointer (some ⟨a, 11, none⟩)) (hy : c.eval y = .agg (hpA h' n')) (hb : PS w a t f b o h n)
    (hk : wpList Try.prog ops Q rest (c.put op.dst undef) (w.setCells a 11 (hpA h' n').toList)) : wpList Try.prog ops Q (op :: rest) c w :=
  wpList_store_mid hgd 86 x y ho a 11 (hpA h' n') hx hy hb.endsThere qSize (qOne _ _) hk
end
end Go.Proofs.Ytihgakbopkaemaa
