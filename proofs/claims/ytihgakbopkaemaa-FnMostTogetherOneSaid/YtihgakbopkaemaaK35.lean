/-
  MERGED TEXTS: W42 W43 W44 W45.
-/
import Derived.Test.YtihgakbopkaemaaK27
import Derived.Test.YtihgakbopkaemaaK45
import Derived.Test.YtihgakbopkaemaaK37
import Derived.Deep.RegionHeld3
import Derived.Test.YtihgakbopkaemaaK7
namespace Go.Proofs.Ytihgakbopkaemaa
open Go.RowKit
/-- a heap as cells -/
def hpA (f : Nat → Int × Int) (n : Int) : Array Value := #[.int .i64 (f 0).1, .int .i64 (f 0).2, .int .i64 (f 1).1, .int .i64 (f 1).2, .int .i64 (f 2).1, .int .i64 (f 2).2, .int .i64 (f 3).1, .int .i64 (f 3).2, .int .i64 (f 4).1, .int .i64 (f 4).2, .int .i64 (f 5).1, .int .i64 (f 5).2, .int .i64 (f 6).1, .int .i64 (f 6).2, .int .i64 (f 7).1, .int .i64 (f 7).2, .int .i64 n]
theorem hpA_size (f : Nat → Int × Int) (n : Int) : (hpA f n).size = 17 := rfl
theorem hpA_n (f : Nat → Int × Int) (n : Int) : (hpA f n)[16]? = some (.int .i64 n) := rfl
theorem hpA_at (f : Nat → Int × Int) (n : Int) {i : Nat} (h : i < 8) : (hpA f n)[i * 2]? = some (.int .i64 (f i).1) ∧ (hpA f n)[i * 2 + 1]? = some (.int .i64 (f i).2) := by
  rcases eight h with rfl | rfl | rfl | rfl | rfl | rfl | rfl | rfl <;> exact ⟨rfl, rfl⟩
theorem hpA_size_set (f : Nat → Int × Int) (n m : Int) : (hpA f n).setIfInBounds 16 (.int .i64 m) = hpA f m := rfl
theorem hpA_set (f : Nat → Int × Int) (n : Int) {i : Nat} (h : i < 8) (x : Int × Int) : ((hpA f n).setIfInBounds (i * 2) (.int .i64 x.1)).setIfInBounds (i * 2 + 1) (.int .i64 x.2) = hpA (Bs.upd f i x) n := by
  rcases eight h with rfl | rfl | rfl | rfl | rfl | rfl | rfl | rfl <;> rfl
/-- a heap in memory -/
def HB (w : World) (b : Nat) (f : Nat → Int × Int) (n : Int) : Prop := Blk w b 126 (hpA f n)
theorem HB.n {w : World} {b : Nat} {f : Nat → Int × Int} {n : Int} (h : HB w b f n) : w.cell? ⟨b, 16, none⟩ = some (.int .i64 n) := (Blk.cell h 16).trans rfl
theorem HB.fst {w : World} {b : Nat} {f : Nat → Int × Int} {n : Int} (h : HB w b f n) {i : Nat} (hi : i < 8) : w.cell? ⟨b, i * 2, none⟩ = some (.int .i64 (f i).1) := (Blk.cell h _).trans (hpA_at f n hi).1
theorem HB.snd {w : World} {b : Nat} {f : Nat → Int × Int} {n : Int} (h : HB w b f n) {i : Nat} (hi : i < 8) : w.cell? ⟨b, i * 2 + 1, none⟩ = some (.int .i64 (f i).2) := (Blk.cell h _).trans (hpA_at f n hi).2
theorem HB.frozen {w : World} {b : Nat} {f : Nat → Int × Int} {n : Int} (h : HB w b f n) (i : Nat) : w.frozen? ⟨b, i, none⟩ = false := Blk.frozen h i
theorem HB.setN {w : World} {b : Nat} {f : Nat → Int × Int} {n : Int} (h : HB w b f n) (m : Int) : HB (w.setCell ⟨b, 16, none⟩ (.int .i64 m)) b f m := by
  unfold HB
  rw [← hpA_size_set f n m]
  exact Blk.set_ h 16 _
theorem HB.setP {w : World} {b : Nat} {f : Nat → Int × Int} {n : Int} (h : HB w b f n) {i : Nat} (hi : i < 8) (x : Int × Int) : HB ((w.setCell ⟨b, i * 2, none⟩ (.int .i64 x.1)).setCell ⟨b, i * 2 + 1, none⟩ (.int .i64 x.2)) b (Bs.upd f i x) n := by
  unfold HB
  rw [← hpA_set f n hi x]
  exact Blk.set_ (Blk.set_ h _ _) _ _
theorem HB.below {w w' : World} {b B : Nat} {f : Nat → Int × Int} {n : Int} (h : HB w b f n) (hb : Below B w w') (hg : b < B) : HB w' b f n := Blk.below h hb hg
theorem HB.lt {w : World} {b : Nat} {f : Nat → Int × Int} {n : Int} (h : HB w b f n) : b < w.heap.size := Blk.lt h
theorem HB.far {w : World} {b : Nat} {f : Nat → Int × Int} {n : Int} (h : HB w b f n) {p : Addr} (hp : b ≠ p.block) (u : Value) : HB (w.setCell p u) b f n := Blk.far h hp u
theorem HB.alloc {w : World} {b : Nat} {f : Nat → Int × Int} {n : Int} (h : HB w b f n) (o : Obj) : HB (w.alloc o) b f n := Blk.alloc h o
theorem HB.new (w : World) (f : Nat → Int × Int) (n : Int) : HB (w.alloc (.cells (hpA f n) 126)) w.heap.size f n := Blk.new w _ _
theorem HB.drewN {w : World} {b : Nat} {f : Nat → Int × Int} {n : Int} (h : HB w b f n) (k : Nat) : HB (w.drewN k) b f n := h
theorem before_bool {a b : Int × Int} (ha : 0 ≤ a.1 ∧ a.1 < 8) (hb : 0 ≤ b.1 ∧ b.1 < 8) : decide (Bs.keyP a < Bs.keyP b) = if a.2 = b.2 then decide (a.1 < b.1) else decide (b.2 < a.2) := by
  rw [Bool.eq_iff_iff, decide_eq_true_eq, Bs.keyP_lt ha hb]
  split <;> simp_all
theorem takenBefore_any (a b : Int × Int) (ha : 0 ≤ a.1 ∧ a.1 < 8) (hb : 0 ≤ b.1 ∧ b.1 < 8) (w : World) :
    Calls Try.prog 114 #[.agg #[.int .i64 a.1, .int .i64 a.2], .agg #[.int .i64 b.1, .int .i64 b.2]] w fun e w' => e = .returned (.bool (decide (Bs.keyP a < Bs.keyP b))) ∧ Below w.heap.size w w' := by
  rw [before_bool ha hb]
  obtain ⟨a1, a2⟩ := a
  obtain ⟨b1, b2⟩ := b
  simp only at ha hb ⊢
  by_cases h : a2 = b2
  · have hq : (a2 == b2) = true := by simp [h]
    rw [if_pos h]
    clear h
    go_enter Try.func114, Try.ntmps114
    go_wp2
    go_ret
    exact ⟨rfl, ((Below.refl _ _).alloc (Nat.le_refl _) _).alloc (by simp) _⟩
  · have hq : (a2 == b2) = false := by simp [h]
    rw [if_neg h]
    clear h
    go_enter Try.func114, Try.ntmps114
    go_wp2
    go_ret
    exact ⟨rfl, ((Below.refl _ _).alloc (Nat.le_refl _) _).alloc (by simp) _⟩
set_option maxHeartbeats 400000 in
theorem below_any (f : Nat → Int × Int) (n p : Nat) (hf : ∀ i, i < 8 → 0 ≤ (f i).1 ∧ (f i).1 < 8) (hn : n ≤ 8) (hp : p ≤ 8) (w : World) :
    Calls Try.prog 115 #[.agg (hpA f n), .int .i64 (p : Int)] w fun e w' => e = .returned (.int .i64 (Bs.bel f n p : Nat)) ∧ Below w.heap.size w w' := by
  have hb := HB.new w f n
  have hal : Below w.heap.size w (w.alloc (.cells (hpA f n) 126)) := (Below.refl _ _).alloc (Nat.le_refl _) _
  have hsz := hpA_size f n
  have k16 := hb.n
  obtain ⟨l, hl⟩ : ∃ l : Nat, l = 2 * p + 1 := ⟨_, rfl⟩
  obtain ⟨r, hr⟩ : ∃ r : Nat, r = 2 * p + 2 := ⟨_, rfl⟩
  have e1 : 2 * (p : Int) + 1 = (l : Int) := by omega
  have e2 : (l : Int) + 1 = (r : Int) := by omega
  have HV := Lib.hid (show Bs.bel f n p = if r < n ∧ Bs.keyP (f r) < Bs.keyP (f l) then r else l from by rw [hl, hr]; rfl)
  by_cases hrn : r < n
  · have hr8 : r < 8 := by omega
    have hl8 : l < 8 := by omega
    have kr0 := hb.fst hr8
    have kr1 := hb.snd hr8
    have kl0 := hb.fst hl8
    have kl1 := hb.snd hl8
    have c1 := fun W => takenBefore_any (f r) (f l) (hf r hr8) (hf l hl8) W
    have j0 : (0 : Int) ≤ (r : Int) := by omega
    have j1 : (0 : Int) ≤ (l : Int) := by omega
    have j2 : (r : Int) < 8 := by omega
    have j3 : (l : Int) < 8 := by omega
    have hrn1 : (r : Int) < (n : Int) := by omega
    have HAL := Lib.hid hal
    clear hb hal hl hr hf
    cases hk : decide (Bs.keyP (f r) < Bs.keyP (f l))
    all_goals
      rw [hk] at c1
      have C1 := Lib.hid c1
      have HK := Lib.hid hk
      clear c1 hk
      go_enter Try.func115, Try.ntmps115
      go_wp2_with fail
      have kb : w.heap.size < (w.alloc (.cells (hpA f n) 126)).heap.size := by simp
      generalize w.alloc (.cells (hpA f n) 126) = W1 at *
      go_region_held3 (fun w' => w'.cell? ⟨w.heap.size, 16, none⟩ = some (.int .i64 (n : Int)) ∧ w'.cell? ⟨w.heap.size, r * 2, none⟩ = some (.int .i64 (f r).1) ∧ w'.cell? ⟨w.heap.size, r * 2 + 1, none⟩ = some (.int .i64 (f r).2) ∧ w'.cell? ⟨w.heap.size, l * 2, none⟩ = some (.int .i64 (f l).1) ∧ w'.cell? ⟨w.heap.size, l * 2 + 1, none⟩ = some (.int .i64 (f l).2))
        (first | go_keep | (go_split_ands; refine ⟨?_, ?_, ?_, ?_, ?_⟩; (exact (hb5.cell (p := ⟨w.heap.size, 16, none⟩) kb).trans k16); (exact (hb5.cell (p := ⟨w.heap.size, r * 2, none⟩) kb).trans kr0); (exact (hb5.cell (p := ⟨w.heap.size, r * 2 + 1, none⟩) kb).trans kr1); (exact (hb5.cell (p := ⟨w.heap.size, l * 2, none⟩) kb).trans kl0); (exact (hb5.cell (p := ⟨w.heap.size, l * 2 + 1, none⟩) kb).trans kl1)))
        (first | (go_at_call 114; (with_reducible refine (C1.out _).mono ?_); rintro e w5 ⟨rfl, hb5⟩))
      go_wp2
      go_ret
      refine ⟨?_, HAL.out.trans ((((Below.refl _ W1).drewN 1).trans hb5).mono HAL.out.size)⟩
      rw [HV.out]
      have hk := HK.out
      simp only [decide_eq_true_eq, decide_eq_false_iff_not] at hk
      simp [hrn, hk]
  · have e3 : decide ((r : Int) < (n : Int)) = false := by simp; omega
    have HAL := Lib.hid hal
    clear hb hal hl hr hf
    go_enter Try.func115, Try.ntmps115
    go_wp2_with fail
    generalize w.alloc (.cells (hpA f n) 126) = W1 at *
    go_quiet (fail)
    go_wp2
    go_ret
    exact ⟨by rw [HV.out, if_neg (fun h => hrn h.1)]; rfl, HAL.out.drewN _⟩
end Go.Proofs.Ytihgakbopkaemaa
namespace Go.Proofs.Ytihgakbopkaemaa
open Go.RowKit
theorem OnlyB.hb {b g : Nat} {f : Nat → Int × Int} {n : Int} {w w' : World} (h : OnlyB b w w') (hb : HB w g f n) (hne : g ≠ b) : HB w' g f n := (h.far g hne).trans hb
theorem hpSize : (Try.prog.info? 126).map (·.size) = some 17 := by kernel_rfl
theorem hp_load {ops : Array Oper} {rest : List Oper} {o : Oper} {a : Act} {w : World} {Q : Exit → Act → World → Prop} (hgd : o.guard = none) (x : Operand) (ho : o.op = .load 126 x)
    (b : Nat) (f : Nat → Int × Int) (n : Int) (hx : a.eval x = .pointer (some ⟨b, 0, none⟩)) (hb : HB w b f n) (h : wpList Try.prog ops Q rest (a.put o.dst (.agg (hpA f n))) w) : wpList Try.prog ops Q (o :: rest) a w :=
  wpList_load_row hgd 126 x ho b hx 126 (hpA f n) (0, 0) _ hb Try.underlying126 rfl hpSize h
theorem setRow_only (w : World) (b : Nat) (f f' : Nat → Int × Int) (n n' : Int) (hb : HB w b f n) : HB (w.setRow b (hpA f' n')) b f' n' ∧ OnlyB b w (w.setRow b (hpA f' n')) := by
  refine ⟨setRow_heap w b _ _ _ _ hb, rfl, rfl, rfl, by simp, fun k hk => setRow_other w b k _ hk⟩
theorem hpOne (f : Nat → Int × Int) (n : Int) : (hpA f n).all (·.oneCell') = true := by simp [hpA, Value.oneCell']
theorem hp_store {ops : Array Oper} {rest : List Oper} {o : Oper} {a : Act} {w : World} {Q : Exit → Act → World → Prop} (hgd : o.guard = none) (x y : Operand) (ho : o.op = .store 126 x y)
    (b : Nat) (f f' : Nat → Int × Int) (n n' : Int) (hx : a.eval x = .pointer (some ⟨b, 0, none⟩)) (hy : a.eval y = .agg (hpA f' n')) (hb : HB w b f n)
    (h : ∀ w', HB w' b f' n' → OnlyB b w w' → wpList Try.prog ops Q rest (a.put o.dst undef) w') : wpList Try.prog ops Q (o :: rest) a w :=
  wpList_store_row hgd 126 x y ho b (hpA f' n') hx hy 126 (hpA f n) hb hpSize rfl (hpOne _ _) (h _ (setRow_only w b f f' n n' hb).1 (setRow_only w b f f' n n' hb).2)
theorem hp_ret {fn : Func} {p : Tmp} (h : fn.results = #[.cell p 126]) (tmps : Array Value) (w : World) (g : Nat) (f : Nat → Int × Int) (n : Int) (hp : tmps.getD p undef = .pointer (some ⟨g, 0, none⟩)) (hg : HB w g f n) :
    (results fn tmps).run Try.prog w = .ok (.agg (hpA f n)) w :=
  results_cell_row h tmps w g 126 _ (0, 0) _ hp hg Try.underlying126 rfl hpSize
theorem HB.fst0 {w : World} {b : Nat} {f : Nat → Int × Int} {n : Int} (h : HB w b f n) : w.cell? ⟨b, 0, none⟩ = some (.int .i64 (f 0).1) := h.fst (i := 0) (by omega)
theorem HB.snd0 {w : World} {b : Nat} {f : Nat → Int × Int} {n : Int} (h : HB w b f n) : w.cell? ⟨b, 1, none⟩ = some (.int .i64 (f 0).2) := h.snd (i := 0) (by omega)
theorem HB.setP0 {w : World} {b : Nat} {f : Nat → Int × Int} {n : Int} (h : HB w b f n) (x : Int × Int) : HB ((w.setCell ⟨b, 0, none⟩ (.int .i64 x.1)).setCell ⟨b, 1, none⟩ (.int .i64 x.2)) b (Bs.upd f 0 x) n := h.setP (i := 0) (by omega) x
theorem upd_in {f : Nat → Int × Int} {p : Nat} {x : Int × Int} (hf : ∀ i, i < 8 → 0 ≤ (f i).1 ∧ (f i).1 < 8) (hx : 0 ≤ x.1 ∧ x.1 < 8) : ∀ i, i < 8 → 0 ≤ (Bs.upd f p x i).1 ∧ (Bs.upd f p x i).1 < 8 := by
  intro i hi
  unfold Bs.upd
  split
  · exact hx
  · exact hf i hi
def zp : Nat → Int × Int := fun _ => (0, 0)
set_option maxHeartbeats 1600000 in
theorem with_any (f : Nat → Int × Int) (n : Nat) (t : Int × Int) (hf : ∀ i, i < 8 → 0 ≤ (f i).1 ∧ (f i).1 < 8) (ht : 0 ≤ t.1 ∧ t.1 < 8) (hH : Bs.Heap f n) (hn : n < 8) (w : World) :
    Calls Try.prog 107 #[.agg (hpA f n), .agg #[.int .i64 t.1, .int .i64 t.2]] w fun e w' => (∃ M, e = .returned (.agg (hpA M ((n : Int) + 1))) ∧ Bs.Heap M (n + 1) ∧ Bs.Rel (n + 1) (Bs.upd f n t) M ∧ ∀ i, i < 8 → 0 ≤ (M i).1 ∧ (M i).1 < 8) ∧ Below w.heap.size w w' := by
  have b2 := HB.new w f ((n : Int) + 1)
  have b3 := Blk.new (w.alloc (.cells (hpA f ((n : Int) + 1)) 126)) 123 #[.int .i64 t.1, .int .i64 t.2]
  rw [show (w.alloc (.cells (hpA f ((n : Int) + 1)) 126)).heap.size = w.heap.size + 1 from by simp] at b3
  have b4 := HB.new ((w.alloc (.cells (hpA f ((n : Int) + 1)) 126)).alloc (.cells #[.int .i64 t.1, .int .i64 t.2] 123)) zp 0
  rw [show ((w.alloc (.cells (hpA f ((n : Int) + 1)) 126)).alloc (.cells #[.int .i64 t.1, .int .i64 t.2] 123)).heap.size = w.heap.size + 1 + 1 from by simp] at b4
  replace b2 := (b2.alloc (.cells #[.int .i64 t.1, .int .i64 t.2] 123)).alloc (.cells (hpA zp 0) 126)
  replace b3 := b3.alloc (.cells (hpA zp 0) 126)
  have hbl : Below w.heap.size w (((w.alloc (.cells (hpA f ((n : Int) + 1)) 126)).alloc (.cells #[.int .i64 t.1, .int .i64 t.2] 123)).alloc (.cells (hpA zp 0) 126)) := (((Below.refl _ _).alloc (Nat.le_refl _) _).alloc (by simp) _).alloc (by simp; omega) _
  have HB2 := Lib.hid b2
  have HB3 := Lib.hid b3
  have HB4 := Lib.hid b4
  have HBL := Lib.hid hbl
  have kB := ((HB.new w f n).alloc (.cells #[.int .i64 t.1, .int .i64 t.2] 123)).alloc (.cells (hpA zp 0) 126)
  have kA := kB.n
  have fA := kB.frozen 16
  have hz : hpA zp 0 = #[.int .i64 0, .int .i64 0, .int .i64 0, .int .i64 0, .int .i64 0, .int .i64 0, .int .i64 0, .int .i64 0, .int .i64 0, .int .i64 0, .int .i64 0, .int .i64 0, .int .i64 0, .int .i64 0, .int .i64 0, .int .i64 0, .int .i64 0] := rfl
  rw [hz] at kA fA
  clear kB
  clear b2 b3 b4 hbl
  go_enter Try.func107, Try.ntmps107
  go_wp2_with fail
  rw [hpA_size_set]
  go_loopw [5] (fun i wr => ∃ (p : Nat) (f' : Nat → Int × Int), i = .int .i64 p ∧ HB wr w.heap.size f' ((n : Int) + 1) ∧ Blk wr (w.heap.size + 1) 123 #[.int .i64 t.1, .int .i64 t.2] ∧ HB wr (w.heap.size + 1 + 1) zp 0 ∧ Below w.heap.size w wr ∧ Bs.Up f' (n + 1) p t ∧ Bs.Rel (n + 1) (Bs.upd f n t) (Bs.upd f' p t) ∧ ∀ i, i < 8 → 0 ≤ (f' i).1 ∧ (f' i).1 < 8) (fun i _ => (intOf i).toNat)
  case atStart => exact ⟨n, f, rfl, HB2.out, HB3.out, HB4.out, HBL.out, Bs.Up.start hH t, Bs.Rel.refl _ _, hf⟩
  case round =>
    clear kA fA hz
    obtain ⟨p, f', rfl, h2, h3, h4, hb, hup, hrel, hf'⟩ := hrel
    have hpn := hup.lt
    have HU := Lib.hid hup
    have HR := Lib.hid hrel
    have HF := Lib.hid hf'
    have H2 := Lib.hid h2
    have H3 := Lib.hid h3
    have H4 := Lib.hid h4
    have HB := Lib.hid hb
    have j0 : wr.cell? ⟨w.heap.size + 1, 0, none⟩ = some (.int .i64 t.1) := h3.cell 0
    have j1 : wr.cell? ⟨w.heap.size + 1, 1, none⟩ = some (.int .i64 t.2) := h3.cell 1
    have sb3 := h3.lt
    have sb2 := h2.lt
    by_cases hp : 0 < p
    · obtain ⟨q, hq⟩ : ∃ q, q = Bs.par p := ⟨_, rfl⟩
      have hqp : q < p := by rw [hq]; exact Bs.par_lt hp
      have hq8 : q < 8 := by omega
      have kq0 := h2.fst hq8
      have kq1 := h2.snd hq8
      have c1 := fun W => takenBefore_any t (f' q) ht (hf' q hq8) W
      have e1 : ((p : Int) - 1) / 2 = (q : Int) := by rw [hq]; unfold Bs.par; omega
      have e2 : Int.tdiv ((p : Int) - 1) 2 = (q : Int) := by rw [Int.tdiv_eq_ediv_of_nonneg (by omega)]; exact e1
      have p0 : (0 : Int) < (p : Int) := by omega
      have p8 : (p : Int) < 8 := by omega
      have i0 : (0 : Int) ≤ (q : Int) := by omega
      have i1 : (q : Int) < 8 := by omega
      have hp8 : p < 8 := by omega
      have sb4 := h4.lt
      have sr := hb.size
      have HW := Lib.hid (show IntKind.i64.wrap ((IntKind.i64.wrap ((p : Int) - 1)).tdiv 2) = (q : Int) from by rw [IntWalk.i64_in ((p : Int) - 1) (by omega), e2]; exact IntWalk.i64_in _ (by omega))
      have hqe := Lib.hid hq
      clear h2 h3 h4 hb hup hrel hf' hq
      cases hk : decide (Bs.keyP t < Bs.keyP (f' q))
      · rw [hk] at c1
        have C1 := Lib.hid c1
        have HK := Lib.hid hk
        clear c1 hk
        go_wp2_with fail
        have hw := HW.out
        go_region_held3 (fun w' => w'.cell? ⟨w.heap.size + 1, 0, none⟩ = some (.int .i64 t.1) ∧ w'.cell? ⟨w.heap.size + 1, 1, none⟩ = some (.int .i64 t.2) ∧ w'.cell? ⟨w.heap.size, q * 2, none⟩ = some (.int .i64 (f' q).1) ∧ w'.cell? ⟨w.heap.size, q * 2 + 1, none⟩ = some (.int .i64 (f' q).2))
          (first | go_keep | (go_split_ands; refine ⟨?_, ?_, ?_, ?_⟩; (exact (hb5.cell (p := ⟨w.heap.size + 1, 0, none⟩) sb3).trans j0); (exact (hb5.cell (p := ⟨w.heap.size + 1, 1, none⟩) sb3).trans j1); (exact (hb5.cell (p := ⟨w.heap.size, q * 2, none⟩) sb2).trans kq0); (exact (hb5.cell (p := ⟨w.heap.size, q * 2 + 1, none⟩) sb2).trans kq1)))
          (first | (go_at_call 114; (with_reducible refine (C1.out _).mono ?_); rintro e w5 ⟨rfl, hb5⟩))
        clear hw
        have HB5 := Lib.hid (((Below.refl _ wr).drewN 1).trans hb5)
        clear hb5 kq0 kq1
        have h2' := H2.out.below HB5.out sb2
        have m0 := h2'.fst hp8
        have m1 := h2'.snd hp8
        have g0 := h2'.frozen (p * 2)
        have g1 := h2'.frozen (p * 2 + 1)
        have j0 := (HB5.out.cell (p := ⟨w.heap.size + 1, 0, none⟩) sb3).trans j0
        have j1 := (HB5.out.cell (p := ⟨w.heap.size + 1, 1, none⟩) sb3).trans j1
        have HP := Lib.hid (h2'.setP hp8 t)
        have HZ := Lib.hid (((H4.out.below HB5.out sb4).far (p := ⟨w.heap.size, p * 2, none⟩) (by show _ ≠ w.heap.size; omega) (.int .i64 t.1)).far (p := ⟨w.heap.size, p * 2 + 1, none⟩) (by show _ ≠ w.heap.size; omega) (.int .i64 t.2))
        have HS := Lib.hid (((HB.out.trans (HB5.out.mono sr)).setCell (p := ⟨w.heap.size, p * 2, none⟩) (Nat.le_refl _) (.int .i64 t.1)).setCell (p := ⟨w.heap.size, p * 2 + 1, none⟩) (Nat.le_refl _) (.int .i64 t.2))
        clear h2' H2 H3 H4
        go_wp2_with (first | (refine hp_load rfl _ rfl w.heap.size (Bs.upd f' p t) ((n : Int) + 1) rfl HP.out ?_) | (refine hp_store rfl _ _ rfl (w.heap.size + 1 + 1) zp (Bs.upd f' p t) 0 ((n : Int) + 1) rfl rfl HZ.out ?_; intro w9 h9 o9))
        refine bodyPost_ret (hp_ret rfl _ _ (w.heap.size + 1 + 1) (Bs.upd f' p t) ((n : Int) + 1) rfl h9) rfl ⟨⟨_, rfl, HU.out.stop ?_, HR.out, upd_in HF.out ht⟩, HS.out.trans (o9.below (by omega))⟩
        intro _
        rw [← hqe.out]
        have := HK.out
        simpa using this
      · rw [hk] at c1
        have C1 := Lib.hid c1
        have HK := Lib.hid hk
        clear c1 hk
        go_wp2_with fail
        have hw := HW.out
        go_region_held3 (fun w' => w'.cell? ⟨w.heap.size + 1, 0, none⟩ = some (.int .i64 t.1) ∧ w'.cell? ⟨w.heap.size + 1, 1, none⟩ = some (.int .i64 t.2) ∧ w'.cell? ⟨w.heap.size, q * 2, none⟩ = some (.int .i64 (f' q).1) ∧ w'.cell? ⟨w.heap.size, q * 2 + 1, none⟩ = some (.int .i64 (f' q).2))
          (first | go_keep | (go_split_ands; refine ⟨?_, ?_, ?_, ?_⟩; (exact (hb5.cell (p := ⟨w.heap.size + 1, 0, none⟩) sb3).trans j0); (exact (hb5.cell (p := ⟨w.heap.size + 1, 1, none⟩) sb3).trans j1); (exact (hb5.cell (p := ⟨w.heap.size, q * 2, none⟩) sb2).trans kq0); (exact (hb5.cell (p := ⟨w.heap.size, q * 2 + 1, none⟩) sb2).trans kq1)))
          (first | (go_at_call 114; (with_reducible refine (C1.out _).mono ?_); rintro e w5 ⟨rfl, hb5⟩))
        clear hw
        have HB5 := Lib.hid (((Below.refl _ wr).drewN 1).trans hb5)
        have h2' := H2.out.below HB5.out sb2
        have kq0 := h2'.fst hq8
        have kq1 := h2'.snd hq8
        have m0 := h2'.fst hp8
        have m1 := h2'.snd hp8
        have g0 := h2'.frozen (p * 2)
        have g1 := h2'.frozen (p * 2 + 1)
        have HP := Lib.hid (h2'.setP hp8 (f' q))
        have HQ := Lib.hid ((((H3.out.below HB5.out sb3).far (p := ⟨w.heap.size, p * 2, none⟩) (by show _ ≠ w.heap.size; omega) (.int .i64 (f' q).1)).far (p := ⟨w.heap.size, p * 2 + 1, none⟩) (by show _ ≠ w.heap.size; omega) (.int .i64 (f' q).2)))
        have HZ := Lib.hid (((H4.out.below HB5.out sb4).far (p := ⟨w.heap.size, p * 2, none⟩) (by show _ ≠ w.heap.size; omega) (.int .i64 (f' q).1)).far (p := ⟨w.heap.size, p * 2 + 1, none⟩) (by show _ ≠ w.heap.size; omega) (.int .i64 (f' q).2))
        have HS := Lib.hid (((HB.out.trans (HB5.out.mono sr)).setCell (p := ⟨w.heap.size, p * 2, none⟩) (Nat.le_refl _) (.int .i64 (f' q).1)).setCell (p := ⟨w.heap.size, p * 2 + 1, none⟩) (Nat.le_refl _) (.int .i64 (f' q).2))
        clear h2' H2 H3 H4 hb5
        go_wp2
        go_roundw
        case rel =>
          refine ⟨q, Bs.upd f' p (f' q), rfl, HP.out, HQ.out, HZ.out, HS.out, ?_, ?_, upd_in HF.out (HF.out q hq8)⟩
          · rw [hqe.out]
            exact HU.out.step hp (by have := HK.out; rw [hqe.out] at this; simpa using this)
          · have := HR.out.swap (HU.out.swap hp)
            rw [← hqe.out] at this
            exact this
        case measure => simp [intOf]; omega
    · obtain rfl : p = 0 := by omega
      have hp8 : 0 < 8 := by omega
      have sb4 := h4.lt
      have sr := hb.size
      clear h2 h3 h4 hb hup hrel hf'
      go_wp2_with fail
      go_quiet (fail)
      have HB5 := Lib.hid ((Below.refl wr.heap.size wr).drewN nq)
      have h2' := H2.out.below HB5.out sb2
      have m0 := h2'.fst0
      have m1 := h2'.snd0
      have g0 := h2'.frozen 0
      have g1 := h2'.frozen 1
      have j0 := (HB5.out.cell (p := ⟨w.heap.size + 1, 0, none⟩) sb3).trans j0
      have j1 := (HB5.out.cell (p := ⟨w.heap.size + 1, 1, none⟩) sb3).trans j1
      have HP := Lib.hid (h2'.setP0 t)
      have HZ := Lib.hid (((H4.out.below HB5.out sb4).far (p := ⟨w.heap.size, 0, none⟩) (by show _ ≠ w.heap.size; omega) (.int .i64 t.1)).far (p := ⟨w.heap.size, 1, none⟩) (by show _ ≠ w.heap.size; omega) (.int .i64 t.2))
      have HS := Lib.hid (((HB.out.trans (HB5.out.mono sr)).setCell (p := ⟨w.heap.size, 0, none⟩) (Nat.le_refl _) (.int .i64 t.1)).setCell (p := ⟨w.heap.size, 1, none⟩) (Nat.le_refl _) (.int .i64 t.2))
      clear h2' H2 H3 H4
      go_wp2_with (first | (refine hp_load rfl _ rfl w.heap.size (Bs.upd f' 0 t) ((n : Int) + 1) rfl HP.out ?_) | (refine hp_store rfl _ _ rfl (w.heap.size + 1 + 1) zp (Bs.upd f' 0 t) 0 ((n : Int) + 1) rfl rfl HZ.out ?_; intro w9 h9 o9))
      refine bodyPost_ret (hp_ret rfl _ _ (w.heap.size + 1 + 1) (Bs.upd f' 0 t) ((n : Int) + 1) rfl h9) rfl ⟨⟨_, rfl, HU.out.stop ?_, HR.out, upd_in HF.out ht⟩, HS.out.trans (o9.below (by omega))⟩
      intro h
      exact absurd h (Nat.lt_irrefl 0)
end Go.Proofs.Ytihgakbopkaemaa
namespace Go.Proofs.Ytihgakbopkaemaa
open Go.RowKit
set_option maxHeartbeats 1600000 in
theorem withoutFirst_any (f : Nat → Int × Int) (n : Nat) (hf : ∀ i, i < 8 → 0 ≤ (f i).1 ∧ (f i).1 < 8) (hH : Bs.Heap f (n + 1)) (hn : n < 8) (w : World) :
    Calls Try.prog 108 #[.agg (hpA f ((n : Int) + 1))] w fun e w' => (∃ M, e = .returned (.agg (hpA M n)) ∧ Bs.Heap M n ∧ Bs.Rel n (Bs.upd f 0 (f n)) M ∧ ∀ i, i < 8 → 0 ≤ (M i).1 ∧ (M i).1 < 8) ∧ Below w.heap.size w w' := by
  have htr : 0 ≤ (f n).1 ∧ (f n).1 < 8 := hf n hn
  have kB := ((HB.new w f ((n : Int) + 1)).alloc (.cells (hpA zp 0) 126))
  have kA := kB.n
  have fA := kB.frozen 16
  have kC := ((HB.new w f (n : Int)).alloc (.cells (hpA zp 0) 126))
  have kN := kC.n
  have kT0 := kC.fst hn
  have kT1 := kC.snd hn
  have hz : hpA zp 0 = #[.int .i64 0, .int .i64 0, .int .i64 0, .int .i64 0, .int .i64 0, .int .i64 0, .int .i64 0, .int .i64 0, .int .i64 0, .int .i64 0, .int .i64 0, .int .i64 0, .int .i64 0, .int .i64 0, .int .i64 0, .int .i64 0, .int .i64 0] := rfl
  have hs16 : (hpA f ((n : Int) + 1)).setIfInBounds 16 (.int .i64 (n : Int)) = hpA f n := rfl
  have b1 := kC.alloc (.cells #[.int .i64 (f n).1, .int .i64 (f n).2] 123)
  have b2 := (HB.new (w.alloc (.cells (hpA f n) 126)) zp 0).alloc (.cells #[.int .i64 (f n).1, .int .i64 (f n).2] 123)
  have b3 := Blk.new ((w.alloc (.cells (hpA f n) 126)).alloc (.cells (hpA zp 0) 126)) 123 #[.int .i64 (f n).1, .int .i64 (f n).2]
  rw [show (w.alloc (.cells (hpA f n) 126)).heap.size = w.heap.size + 1 from by simp] at b2
  rw [show ((w.alloc (.cells (hpA f n) 126)).alloc (.cells (hpA zp 0) 126)).heap.size = w.heap.size + 1 + 1 from by simp] at b3
  have hbl : Below w.heap.size w (((w.alloc (.cells (hpA f n) 126)).alloc (.cells (hpA zp 0) 126)).alloc (.cells #[.int .i64 (f n).1, .int .i64 (f n).2] 123)) := (((Below.refl _ _).alloc (Nat.le_refl _) _).alloc (by simp) _).alloc (by simp; omega) _
  have HB1 := Lib.hid b1
  have HB2 := Lib.hid b2
  have HB3 := Lib.hid b3
  have HBL := Lib.hid hbl
  rw [hz] at kA fA kN kT0 kT1
  have C0 := Lib.hid (fun W => below_any f n 0 hf (by omega) (by omega) W)
  clear kB kC b1 b2 b3 hbl
  have n0 : (0 : Int) ≤ (n : Int) := by omega
  have n8 : (n : Int) < 8 := by omega
  have en : (n : Int) + 1 - 1 = (n : Int) := by omega
  go_enter Try.func108, Try.ntmps108
  go_wp2_with (first | (refine hp_load rfl _ rfl w.heap.size f (n : Int) rfl HB1.out ?_))
  refine (C0.out _).mono ?_
  rintro e w2 ⟨rfl, hb2⟩
  have h1 := HB1.out.below hb2 (by exact HB1.out.lt)
  have h2 := HB2.out.below hb2 (by exact HB2.out.lt)
  have h3 := HB3.out.below hb2 (by exact HB3.out.lt)
  have hb0 := HBL.out.trans (hb2.mono HBL.out.size)
  have H1 := Lib.hid h1
  have H2 := Lib.hid h2
  have H3 := Lib.hid h3
  have H0 := Lib.hid hb0
  clear h1 h2 h3 hb0 hb2 kA fA kN kT0 kT1 hz hs16 HB1 HB2 HB3 HBL C0
  go_wp2
  go_loopw [4, 5] (fun ip ic wr => ∃ (p : Nat) (f' : Nat → Int × Int), ip = .int .i64 p ∧ ic = .int .i64 (Bs.bel f' n p : Nat) ∧ HB wr w.heap.size f' n ∧ HB wr (w.heap.size + 1) zp 0 ∧ Blk wr (w.heap.size + 1 + 1) 123 #[.int .i64 (f n).1, .int .i64 (f n).2] ∧ Below w.heap.size w wr ∧ Bs.Dn f' n p (f n) ∧ Bs.Rel n (Bs.upd f 0 (f n)) (Bs.upd f' p (f n)) ∧ (∀ i, i < 8 → 0 ≤ (f' i).1 ∧ (f' i).1 < 8) ∧ (p < n ∨ p = 0)) (fun ip _ _ => 8 - (intOf ip).toNat)
  case atStart => exact ⟨0, f, rfl, rfl, H1.out, H2.out, H3.out, H0.out, Bs.Dn.start hH (f n), Bs.Rel.refl _ _, hf, .inr rfl⟩
  case round =>
    obtain ⟨p, f', rfl, rfl, h1, h2, h3, hb, hdn, hrel, hf', hp⟩ := hrel
    clear H1 H2 H3 H0
    have hp8 : p < 8 := by omega
    obtain ⟨c, hc⟩ : ∃ c, c = Bs.bel f' n p := ⟨_, rfl⟩
    rw [← hc]
    have hcp := Bs.bel_par f' n p
    have hcs := Bs.bel_cases f' n p
    have hdone := hdn.done
    have hgo := hdn.go
    have hswap := fun hpn hcn hne => hrel.swap (Bs.Dn.swap (f := f') (t := f n) (p := p) (c := c) hpn hcn hne)
    rw [← hc] at hcp hcs hdone hgo
    have HD := Lib.hid hdone
    have HG := Lib.hid hgo
    have HSW := Lib.hid hswap
    have HR := Lib.hid hrel
    have HF := Lib.hid hf'
    have H1 := Lib.hid h1
    have H2 := Lib.hid h2
    have H3 := Lib.hid h3
    have H0 := Lib.hid hb
    have k16 := h1.n
    have j0 : wr.cell? ⟨w.heap.size + 1 + 1, 0, none⟩ = some (.int .i64 (f n).1) := h3.cell 0
    have j1 : wr.cell? ⟨w.heap.size + 1 + 1, 1, none⟩ = some (.int .i64 (f n).2) := h3.cell 1
    have sb1 := h1.lt
    have sb2 := h2.lt
    have sb3 := h3.lt
    have sr := hb.size
    have p0 : (0 : Int) ≤ (p : Int) := by omega
    have p8 : (p : Int) < 8 := by omega
    by_cases hcn : c < n
    · have hc8 : c < 8 := by omega
      have kq0 := h1.fst hc8
      have kq1 := h1.snd hc8
      have c1 := fun W => takenBefore_any (f' c) (f n) (hf' c hc8) htr W
      have i0 : (0 : Int) ≤ (c : Int) := by omega
      have i1 : (c : Int) < 8 := by omega
      have i2 : (c : Int) < (n : Int) := by omega
      clear h1 h2 h3 hb hdn hrel hf' hdone hgo hswap
      have hce := Lib.hid hc
      clear hc
      cases hk : decide (Bs.keyP (f' c) < Bs.keyP (f n))
      · rw [hk] at c1
        have C1 := Lib.hid c1
        have HK := Lib.hid hk
        clear c1 hk
        go_wp2_with fail
        go_region_held3 (fun w' => w'.cell? ⟨w.heap.size, 16, none⟩ = some (.int .i64 (n : Int)) ∧ w'.cell? ⟨w.heap.size, c * 2, none⟩ = some (.int .i64 (f' c).1) ∧ w'.cell? ⟨w.heap.size, c * 2 + 1, none⟩ = some (.int .i64 (f' c).2) ∧ w'.cell? ⟨w.heap.size + 1 + 1, 0, none⟩ = some (.int .i64 (f n).1) ∧ w'.cell? ⟨w.heap.size + 1 + 1, 1, none⟩ = some (.int .i64 (f n).2))
          (first | go_keep | (go_split_ands; refine ⟨?_, ?_, ?_, ?_, ?_⟩; (exact (hb5.cell (p := ⟨w.heap.size, 16, none⟩) sb1).trans k16); (exact (hb5.cell (p := ⟨w.heap.size, c * 2, none⟩) sb1).trans kq0); (exact (hb5.cell (p := ⟨w.heap.size, c * 2 + 1, none⟩) sb1).trans kq1); (exact (hb5.cell (p := ⟨w.heap.size + 1 + 1, 0, none⟩) sb3).trans j0); (exact (hb5.cell (p := ⟨w.heap.size + 1 + 1, 1, none⟩) sb3).trans j1)))
          (first | (go_at_call 114; (with_reducible refine (C1.out _).mono ?_); rintro e w5 ⟨rfl, hb5⟩))
        have HB5 := Lib.hid (((Below.refl _ wr).drewN 1).trans hb5)
        clear hb5 kq0 kq1 k16
        have h1' := H1.out.below HB5.out sb1
        have m0 := h1'.fst hp8
        have m1 := h1'.snd hp8
        have g0 := h1'.frozen (p * 2)
        have g1 := h1'.frozen (p * 2 + 1)
        have j0 := (HB5.out.cell (p := ⟨w.heap.size + 1 + 1, 0, none⟩) sb3).trans j0
        have j1 := (HB5.out.cell (p := ⟨w.heap.size + 1 + 1, 1, none⟩) sb3).trans j1
        have HP := Lib.hid (h1'.setP hp8 (f n))
        have HZ := Lib.hid (((H2.out.below HB5.out sb2).far (p := ⟨w.heap.size, p * 2, none⟩) (by show _ ≠ w.heap.size; omega) (.int .i64 (f n).1)).far (p := ⟨w.heap.size, p * 2 + 1, none⟩) (by show _ ≠ w.heap.size; omega) (.int .i64 (f n).2))
        have HS := Lib.hid (((H0.out.trans (HB5.out.mono sr)).setCell (p := ⟨w.heap.size, p * 2, none⟩) (Nat.le_refl _) (.int .i64 (f n).1)).setCell (p := ⟨w.heap.size, p * 2 + 1, none⟩) (Nat.le_refl _) (.int .i64 (f n).2))
        clear h1' H1 H2 H3
        go_wp2_with (first | (refine hp_load rfl _ rfl w.heap.size (Bs.upd f' p (f n)) (n : Int) rfl HP.out ?_) | (refine hp_store rfl _ _ rfl (w.heap.size + 1) zp (Bs.upd f' p (f n)) 0 (n : Int) rfl rfl HZ.out ?_; intro w9 h9 o9))
        refine bodyPost_ret (hp_ret rfl _ _ (w.heap.size + 1) (Bs.upd f' p (f n)) (n : Int) rfl h9) rfl ⟨⟨_, rfl, HD.out ?_, HR.out, upd_in HF.out htr⟩, HS.out.trans (o9.below (by omega))⟩
        exact fun h => by
          have := HK.out
          rw [decide_eq_false_iff_not] at this
          exact this h.2
      · rw [hk] at c1
        have C1 := Lib.hid c1
        have HK := Lib.hid (of_decide_eq_true hk)
        clear c1 hk
        go_wp2_with fail
        go_region_held3 (fun w' => w'.cell? ⟨w.heap.size, 16, none⟩ = some (.int .i64 (n : Int)) ∧ w'.cell? ⟨w.heap.size, c * 2, none⟩ = some (.int .i64 (f' c).1) ∧ w'.cell? ⟨w.heap.size, c * 2 + 1, none⟩ = some (.int .i64 (f' c).2) ∧ w'.cell? ⟨w.heap.size + 1 + 1, 0, none⟩ = some (.int .i64 (f n).1) ∧ w'.cell? ⟨w.heap.size + 1 + 1, 1, none⟩ = some (.int .i64 (f n).2))
          (first | go_keep | (go_split_ands; refine ⟨?_, ?_, ?_, ?_, ?_⟩; (exact (hb5.cell (p := ⟨w.heap.size, 16, none⟩) sb1).trans k16); (exact (hb5.cell (p := ⟨w.heap.size, c * 2, none⟩) sb1).trans kq0); (exact (hb5.cell (p := ⟨w.heap.size, c * 2 + 1, none⟩) sb1).trans kq1); (exact (hb5.cell (p := ⟨w.heap.size + 1 + 1, 0, none⟩) sb3).trans j0); (exact (hb5.cell (p := ⟨w.heap.size + 1 + 1, 1, none⟩) sb3).trans j1)))
          (first | (go_at_call 114; (with_reducible refine (C1.out _).mono ?_); rintro e w5 ⟨rfl, hb5⟩))
        have HB5 := Lib.hid (((Below.refl _ wr).drewN 1).trans hb5)
        have h1' := H1.out.below HB5.out sb1
        have kq0 := h1'.fst hc8
        have kq1 := h1'.snd hc8
        have m0 := h1'.fst hp8
        have m1 := h1'.snd hp8
        have g0 := h1'.frozen (p * 2)
        have g1 := h1'.frozen (p * 2 + 1)
        have hP := h1'.setP hp8 (f' c)
        have hQ := ((((H3.out.below HB5.out sb3).far (p := ⟨w.heap.size, p * 2, none⟩) (by show _ ≠ w.heap.size; omega) (.int .i64 (f' c).1)).far (p := ⟨w.heap.size, p * 2 + 1, none⟩) (by show _ ≠ w.heap.size; omega) (.int .i64 (f' c).2)))
        have hZ := (((H2.out.below HB5.out sb2).far (p := ⟨w.heap.size, p * 2, none⟩) (by show _ ≠ w.heap.size; omega) (.int .i64 (f' c).1)).far (p := ⟨w.heap.size, p * 2 + 1, none⟩) (by show _ ≠ w.heap.size; omega) (.int .i64 (f' c).2))
        have hS := (((H0.out.trans (HB5.out.mono sr)).setCell (p := ⟨w.heap.size, p * 2, none⟩) (Nat.le_refl _) (.int .i64 (f' c).1)).setCell (p := ⟨w.heap.size, p * 2 + 1, none⟩) (Nat.le_refl _) (.int .i64 (f' c).2))
        have HP := Lib.hid hP
        have HQ := Lib.hid hQ
        have HZ := Lib.hid hZ
        have HS := Lib.hid hS
        have hin := upd_in HF.out (HF.out c hc8) (p := p)
        have C2 := Lib.hid (fun W => below_any (Bs.upd f' p (f' c)) n c hin (by omega) (by omega) W)
        have HIN := Lib.hid hin
        clear h1' H1 H2 H3 hb5 k16 hin hP hQ hZ hS
        go_wp2_with (first | (refine hp_load rfl _ rfl w.heap.size (Bs.upd f' p (f' c)) (n : Int) rfl HP.out ?_))
        refine (C2.out _).mono ?_
        rintro e w6 ⟨rfl, hb6⟩
        have HP6 := Lib.hid (HP.out.below hb6 HP.out.lt)
        have HQ6 := Lib.hid (HQ.out.below hb6 HQ.out.lt)
        have HZ6 := Lib.hid (HZ.out.below hb6 HZ.out.lt)
        have HS6 := Lib.hid (HS.out.trans (hb6.mono HS.out.size))
        clear hb6 HP HQ HZ HS kq0 kq1 m0 m1 g0 g1
        go_wp2
        go_roundw
        case rel => exact ⟨c, Bs.upd f' p (f' c), rfl, rfl, HP6.out, HZ6.out, HQ6.out, HS6.out, HG.out hcn HK.out, HSW.out (by omega) hcn (by omega), HIN.out, .inl hcn⟩
        case measure => simp [intOf]; omega
    · have i2 : decide ((c : Int) < (n : Int)) = false := by simp; omega
      have hce := Lib.hid hc
      clear h1 h2 h3 hb hdn hrel hf' hdone hgo hswap hc
      go_wp2_with fail
      go_quiet (fail)
      have HB5 := Lib.hid ((Below.refl wr.heap.size wr).drewN nq)
      clear k16
      have h1' := H1.out.below HB5.out sb1
      have m0 := h1'.fst hp8
      have m1 := h1'.snd hp8
      have g0 := h1'.frozen (p * 2)
      have g1 := h1'.frozen (p * 2 + 1)
      have j0 := (HB5.out.cell (p := ⟨w.heap.size + 1 + 1, 0, none⟩) sb3).trans j0
      have j1 := (HB5.out.cell (p := ⟨w.heap.size + 1 + 1, 1, none⟩) sb3).trans j1
      have HP := Lib.hid (h1'.setP hp8 (f n))
      have HZ := Lib.hid (((H2.out.below HB5.out sb2).far (p := ⟨w.heap.size, p * 2, none⟩) (by show _ ≠ w.heap.size; omega) (.int .i64 (f n).1)).far (p := ⟨w.heap.size, p * 2 + 1, none⟩) (by show _ ≠ w.heap.size; omega) (.int .i64 (f n).2))
      have HS := Lib.hid (((H0.out.trans (HB5.out.mono sr)).setCell (p := ⟨w.heap.size, p * 2, none⟩) (Nat.le_refl _) (.int .i64 (f n).1)).setCell (p := ⟨w.heap.size, p * 2 + 1, none⟩) (Nat.le_refl _) (.int .i64 (f n).2))
      clear h1' H1 H2 H3
      go_wp2_with (first | (refine hp_load rfl _ rfl w.heap.size (Bs.upd f' p (f n)) (n : Int) rfl HP.out ?_) | (refine hp_store rfl _ _ rfl (w.heap.size + 1) zp (Bs.upd f' p (f n)) 0 (n : Int) rfl rfl HZ.out ?_; intro w9 h9 o9))
      refine bodyPost_ret (hp_ret rfl _ _ (w.heap.size + 1) (Bs.upd f' p (f n)) (n : Int) rfl h9) rfl ⟨⟨_, rfl, HD.out ?_, HR.out, upd_in HF.out htr⟩, HS.out.trans (o9.below (by omega))⟩
      exact fun h => hcn h.1
end Go.Proofs.Ytihgakbopkaemaa
namespace Go.Proofs.Ytihgakbopkaemaa
open Go.RowKit
theorem step_hp_load {ops : Array Oper} {o : Oper} {a : Act} {w : World} {K : Act → World → Prop} {Q : Exit → Act → World → Prop} {E : Prop} (hgd : o.guard = none) (x : Operand) (ho : o.op = .load 126 x)
    (b : Nat) (f : Nat → Int × Int) (n : Int) (hx : a.eval x = .pointer (some ⟨b, 0, none⟩)) (hb : HB w b f n) (h : K (a.put o.dst (.agg (hpA f n))) w) :
    if Region.wanted o (yielded ops a.tmps) = true then Oper.wp Try.prog o a w K Q else E := by
  have hw : Region.wanted o (yielded ops a.tmps) = true := by simp [Region.wanted, hgd]
  rw [if_pos hw]
  exact wp_load_row 126 x ho b hx 126 (hpA f n) (0, 0) _ hb Try.underlying126 rfl hpSize h
theorem step_hp_store {ops : Array Oper} {o : Oper} {a : Act} {w : World} {K : Act → World → Prop} {Q : Exit → Act → World → Prop} {E : Prop} (hgd : o.guard = none) (x y : Operand) (ho : o.op = .store 126 x y)
    (b : Nat) (f f' : Nat → Int × Int) (n n' : Int) (hx : a.eval x = .pointer (some ⟨b, 0, none⟩)) (hy : a.eval y = .agg (hpA f' n')) (hb : HB w b f n)
    (h : ∀ w', HB w' b f' n' → OnlyB b w w' → K (a.put o.dst undef) w') :
    if Region.wanted o (yielded ops a.tmps) = true then Oper.wp Try.prog o a w K Q else E := by
  have hw : Region.wanted o (yielded ops a.tmps) = true := by simp [Region.wanted, hgd]
  rw [if_pos hw]
  exact wp_store_row 126 x y ho b (hpA f' n') hx hy 126 (hpA f n) hb hpSize rfl (hpOne _ _) (h _ (setRow_only w b f f' n n' hb).1 (setRow_only w b f f' n n' hb).2)
set_option maxRecDepth 40000 in
set_option maxHeartbeats 800000 in
theorem ReadyOrder_any (A : Option Addr) (c : Nat) (g : List Bs.T) (A' : Option Addr) (c' : Nat) (d : List Int) (lo hi lo' hi' : Nat) (w : World) (h : RG w lo hi A g) (hh : hi ≤ w.heap.size) (h' : RI w lo' hi' A' d) (hh' : hi' ≤ w.heap.size) (hl : g.length ≤ 9223372036854775807) (hd : d.length ≤ 9223372036854775807) :
    Calls Try.prog 89 #[.slice A g.length c, .slice A' d.length c'] w (RetI w (Bs.ordL g d)) := by
  have c1 := ValidDone_any A c g A' c' d lo hi lo' hi' w h hh h' hh' hl hd
  cases hv : Bs.vdone g d
  · rw [hv] at c1
    have C1 := Lib.hid c1
    have HV := Lib.hid (Bs.ordL_no hv)
    clear c1 hv h h'
    go_enter Try.func89, Try.ntmps89
    go_wp2_with fail
    with_reducible refine (C1.out).mono ?_
    rintro e w1 ⟨rfl, hb⟩
    have HBq := Lib.hid hb
    clear hb
    go_wp2
    go_ret
    exact RetI.nil HBq.out HV.out
  · have hg := Bs.vdone_valid hv
    have hF := valid_fine hg
    have h8 := Bs.fine_len hF
    have c2 := fun W (hb : Below w.heap.size w W) => TailTimes_any A c g lo hi W (h.below hb hh) (Nat.le_trans hh hb.size) hl
    rw [hg] at c2
    simp only [if_true] at c2
    have c3 := fun W (hb : Below w.heap.size w W) => ReadyTasks_any A c g A' c' d lo hi lo' hi' W (h.below hb hh) (Nat.le_trans hh hb.size) (h'.below hb hh') (Nat.le_trans hh' hb.size) hl hd
    rw [readyL_yes hv] at c3
    have htl := tails_len hg
    have HTL := Lib.hid htl
    have HRI := Lib.hid (fun x hx => Bs.ready_in (g := g) (d := d) (x := x) hx)
    have HND := Lib.hid (Bs.pick_nodup (Bs.okNext g d) g.length)
    have hrl := Bs.readyC_len g d
    have HE := Lib.hid (fun o hs hm => Bs.ord_eq (o := o) (d := d) hF hs hm)
    have HV := Lib.hid (Bs.ordL_yes hv)
    rw [hv] at c1
    obtain ⟨T, hT⟩ : ∃ T, T = Bs.tailsC g := ⟨_, rfl⟩
    obtain ⟨R, hR⟩ : ∃ R, R = Bs.readyC g d := ⟨_, rfl⟩
    have hnd : R.Nodup := by rw [hR]; exact HND.out
    have HND := Lib.hid hnd
    rw [← hT] at c2 HTL HE
    rw [← hR] at c3 hrl HE HRI
    have C1 := Lib.hid c1
    have C2 := Lib.hid c2
    have C3 := Lib.hid c3
    clear c1 c2 c3 hv h h' hF hg htl hT hR hnd
    go_enter Try.func89, Try.ntmps89
    go_wp2_with fail
    with_reducible refine (C1.out).mono ?_
    rintro e w1 ⟨rfl, hb⟩
    have HBq := Lib.hid hb
    have s1 := hb.size
    clear hb
    go_wp2_with fail
    with_reducible refine (C2.out _ HBq.out).mono ?_
    rintro e w2 ⟨⟨A2, c2, rfl, ho2⟩, hb2⟩
    have HB2 := Lib.hid (HBq.out.trans (hb2.mono s1))
    have HO2 := Lib.hid ho2.ri
    have s2 := HB2.out.size
    clear ho2 hb2 C1 C2
    go_wp2_with fail
    have hb3 := HB.new w2 zp 0
    have HB3 := Lib.hid (HB2.out.alloc s2 (.cells (hpA zp 0) 126))
    have C4 := Lib.hid (C3.out _ HB3.out)
    refine (C4.out).mono ?_
    rintro e w4 ⟨⟨A4, c4, rfl, ho4⟩, hb4⟩
    have HH4 := Lib.hid (hb3.below hb4 (by simp))
    have HR4 := Lib.hid (show RI w4 (w2.heap.size + 1) w4.heap.size A4 R from by have := ho4.ri; rw [World.size_alloc] at this; exact this)
    have HT4 := Lib.hid ((HO2.out.keep (w' := w2.alloc (.cells (hpA zp 0) 126)) fun p _ hp => World.cell?_alloc_lt w2 _ p hp).below hb4 (by simp))
    have HB4 := Lib.hid (HB3.out.trans (hb4.mono HB3.out.size))
    have s4 : w2.heap.size + 1 ≤ w4.heap.size := by have := hb4.size; rw [World.size_alloc] at this; exact this
    clear hb3 ho4 hb4 C3 C4 HO2
    go_wp2
    go_loopw [21] (fun i wr => ∃ (k : Nat) (f : Nat → Int × Int), k ≤ R.length ∧ i = .int .i64 k ∧ HB wr w2.heap.size f k ∧ Bs.HS T f k (R.take k) ∧ (∀ i, i < 8 → 0 ≤ (f i).1 ∧ (f i).1 < 8) ∧ RI wr w1.heap.size w2.heap.size A2 T ∧ RI wr (w2.heap.size + 1) w4.heap.size A4 R ∧ w4.heap.size ≤ wr.heap.size ∧ Below w.heap.size w wr) (fun i _ => R.length - (intOf i).toNat)
    case atStart => exact ⟨0, zp, Nat.zero_le _, rfl, HH4.out, Bs.HS.nil T zp, fun i _ => by simp [zp], HT4.out, HR4.out, Nat.le_refl _, HB4.out⟩
    case round =>
      obtain ⟨k, f, hk, rfl, hh6, hs, hf, ht, hr, hsz, hb⟩ := hrel
      have HH := Lib.hid hh6
      have HS := Lib.hid hs
      have HF := Lib.hid hf
      have HT := Lib.hid ht
      have HR := Lib.hid hr
      have HB6 := Lib.hid hb
      have sb6 := hh6.lt
      by_cases hlt : k < R.length
      · obtain ⟨br, or_, rfl, _, _, hc⟩ := hr.at_ hlt
        have hx := HRI.out _ (List.getElem_mem hlt)
        have HNX := Lib.hid (show R[k] ∉ R.take k from by
          intro hmem
          obtain ⟨i, hi, e⟩ := List.mem_iff_getElem.1 hmem
          rw [List.length_take] at hi
          rw [List.getElem_take] at e
          exact (List.pairwise_iff_getElem.1 (List.nodup_iff_pairwise_ne.1 HND.out)) i k (by omega) hlt (by omega) e)
        have HTK := Lib.hid (show R.take (k + 1) = R.take k ++ [R[k]] from List.take_succ_eq_append_getElem hlt)
        obtain ⟨v, hv⟩ : ∃ v : Nat, R[k] = (v : Int) := ⟨R[k].toNat, by omega⟩
        rw [hv] at hc hx HNX HTK
        have hvT : v < T.length := by have := HTL.out; omega
        obtain ⟨bt, ot, rfl, _, hbt, hct⟩ := ht.at_ hvT
        have hgi := gi_at hvT
        have c5 : ∀ W, Calls Try.prog 107 #[.agg (hpA f k), .agg #[.int .i64 (v : Int), .int .i64 T[v]]] W fun e w' => (∃ M, e = .returned (.agg (hpA M ((k : Int) + 1))) ∧ Bs.Heap M (k + 1) ∧ Bs.Rel (k + 1) (Bs.upd f k ((v : Int), T[v])) M ∧ ∀ i, i < 8 → 0 ≤ (M i).1 ∧ (M i).1 < 8) ∧ Below W.heap.size W w' := fun W => with_any f k ((v : Int), T[v]) hf (by show 0 ≤ (v : Int) ∧ (v : Int) < 8; omega) hs.heap (by omega) W
        have C5 := Lib.hid c5
        have HGI := Lib.hid hgi
        have i0 : (0 : Int) ≤ (v : Int) := by omega
        have i1 : (v : Int) < (T.length : Int) := by omega
        have hbtw : bt < wr.heap.size := by omega
        generalize T[v] = x at *
        clear hh6 hs hf ht hr hb c5 hgi hv
        go_wp2_with fail
        refine wp_region_any (by kernel_rfl) ?_
        change wpAny _ _ _ _ _ _ _ (World.drew _)
        refine wpAny_take (i := 1) (v := ?_) rfl (by kernel_rfl) (by kernel_rfl) (by kernel_rfl) (fun _ _ _ h => h) (Or.inl ⟨by rfl, ?_⟩) ?_
        rotate_left
        · intro w
          go_simp
          with_reducible rfl
        refine wpAny_take (i := 2) (v := ?_) rfl (by kernel_rfl) (by kernel_rfl) (by kernel_rfl) (fun _ _ _ h => h) (Or.inl ⟨by rfl, ?_⟩) ?_
        rotate_left
        · intro w
          go_simp
          with_reducible rfl
        refine wpAny_take (i := 3) (v := ?_) rfl (by kernel_rfl) (by kernel_rfl) (by kernel_rfl) (fun _ _ _ h => h) (Or.inl ⟨by rfl, ?_⟩) ?_
        rotate_left
        · intro w
          go_simp
          with_reducible rfl
        refine wpAny_take (i := 4) (v := ?_) rfl (by kernel_rfl) (by kernel_rfl) (by kernel_rfl) (fun _ _ _ h => h) (Or.inl ⟨by rfl, ?_⟩) ?_
        rotate_left
        · intro w
          go_simp
          with_reducible rfl
        refine wpAny_ready (rs := [0, 5]) (by kernel_rfl) (by simp) ?_
        refine AllReady.cons rfl (fun K hK => ?_) (AllReady.cons rfl (fun K hK => ?_) AllReady.nil)
        · refine step_hp_load rfl _ rfl w2.heap.size f (k : Int) rfl (HH.out.drewN 1) ?_
          try go_simp
          refine hK _ _ ?_
          clear hK K
          refine wpAny_ready (rs := [5]) (by kernel_rfl) (by simp) ?_
          refine AllReady.cons rfl (fun K hK => ?_) ?_
          rotate_left
          exact AllReady.nil
          go_simp
          refine hK _ _ ?_
          clear hK K
          refine wpAny_take (i := 6) (v := ?_) rfl (by kernel_rfl) (by kernel_rfl) (by kernel_rfl) (fun _ _ _ h => h) (Or.inl ⟨by rfl, ?_⟩) ?_
          rotate_left
          · intro w
            go_simp
            with_reducible rfl
          refine wpAny_ready (rs := [7]) (by kernel_rfl) (by simp) ?_
          refine AllReady.cons rfl (fun K hK => ?_) ?_
          rotate_left
          exact AllReady.nil
          go_simp
          go_at_call 107
          refine (C5.out _).mono ?_
          rintro e w5 ⟨⟨M, rfl, hM1, hM2, hM3⟩, hb5⟩
          have hb5' : Below wr.heap.size wr w5 := ((Below.refl _ wr).drewN 1).trans hb5
          clear hb5
          try go_simp
          refine hK _ _ ?_
          clear hK K
          refine wpAny_ready (rs := [8]) (by kernel_rfl) (by simp) ?_
          refine AllReady.cons rfl (fun K hK => ?_) ?_
          rotate_left
          exact AllReady.nil
          refine step_hp_store rfl _ _ rfl w2.heap.size f M (k : Int) ((k : Int) + 1) rfl rfl (HB.below HH.out hb5' sb6) ?_
          intro w9 hh9 ho9
          try go_simp
          refine hK _ _ ?_
          clear hK K
          refine wpAny_done (by kernel_rfl) ?_ _
          have s5 := hb5'.size
          have hs9 : w9.heap.size = w5.heap.size := ho9.size
          have HT9 := Lib.hid (ho9.ri (HT.out.below hb5' (by omega)) (.inl (Nat.le_refl _)))
          have HR9 := Lib.hid (ho9.ri (HR.out.below hb5' hsz) (.inr (Nat.lt_succ_self _)))
          have HB9 := Lib.hid ((HB6.out.trans (hb5'.mono HB6.out.size)).trans (ho9.below s2))
          have HS9 := Lib.hid (show Bs.HS T M (k + 1) (R.take (k + 1)) from by
            rw [HTK.out]
            refine HS.out.push HNX.out ?_ hM1
            rw [Int.toNat_natCast, HGI.out]
            exact hM2)
          have HH9 := Lib.hid hh9
          clear hb5' ho9 hh9 hM1 hM2
          go_wp2
          go_roundw
          case rel => exact ⟨k + 1, M, by omega, by go_num, by have := HH9.out; simpa using this, HS9.out, hM3, HT9.out, HR9.out, by omega, HB9.out⟩
          case measure => simp [intOf]; omega
        · go_simp
          refine hK _ _ ?_
          clear hK K
          refine wpAny_take (i := 6) (v := ?_) rfl (by kernel_rfl) (by kernel_rfl) (by kernel_rfl) (fun _ _ _ h => h) (Or.inl ⟨by rfl, ?_⟩) ?_
          rotate_left
          · intro w
            go_simp
            with_reducible rfl
          refine wpAny_ready (rs := [0]) (by kernel_rfl) (by simp) ?_
          refine AllReady.cons rfl (fun K hK => ?_) ?_
          rotate_left
          exact AllReady.nil
          refine step_hp_load rfl _ rfl w2.heap.size f (k : Int) rfl (HH.out.drewN 1) ?_
          try go_simp
          refine hK _ _ ?_
          clear hK K
          refine wpAny_ready (rs := [7]) (by kernel_rfl) (by simp) ?_
          refine AllReady.cons rfl (fun K hK => ?_) ?_
          rotate_left
          exact AllReady.nil
          go_simp
          go_at_call 107
          refine (C5.out _).mono ?_
          rintro e w5 ⟨⟨M, rfl, hM1, hM2, hM3⟩, hb5⟩
          have hb5' : Below wr.heap.size wr w5 := ((Below.refl _ wr).drewN 1).trans hb5
          clear hb5
          try go_simp
          refine hK _ _ ?_
          clear hK K
          refine wpAny_ready (rs := [8]) (by kernel_rfl) (by simp) ?_
          refine AllReady.cons rfl (fun K hK => ?_) ?_
          rotate_left
          exact AllReady.nil
          refine step_hp_store rfl _ _ rfl w2.heap.size f M (k : Int) ((k : Int) + 1) rfl rfl (HB.below HH.out hb5' sb6) ?_
          intro w9 hh9 ho9
          try go_simp
          refine hK _ _ ?_
          clear hK K
          refine wpAny_done (by kernel_rfl) ?_ _
          have s5 := hb5'.size
          have hs9 : w9.heap.size = w5.heap.size := ho9.size
          have HT9 := Lib.hid (ho9.ri (HT.out.below hb5' (by omega)) (.inl (Nat.le_refl _)))
          have HR9 := Lib.hid (ho9.ri (HR.out.below hb5' hsz) (.inr (Nat.lt_succ_self _)))
          have HB9 := Lib.hid ((HB6.out.trans (hb5'.mono HB6.out.size)).trans (ho9.below s2))
          have HS9 := Lib.hid (show Bs.HS T M (k + 1) (R.take (k + 1)) from by
            rw [HTK.out]
            refine HS.out.push HNX.out ?_ hM1
            rw [Int.toNat_natCast, HGI.out]
            exact hM2)
          have HH9 := Lib.hid hh9
          clear hb5' ho9 hh9 hM1 hM2
          go_wp2
          go_roundw
          case rel => exact ⟨k + 1, M, by omega, by go_num, by have := HH9.out; simpa using this, HS9.out, hM3, HT9.out, HR9.out, by omega, HB9.out⟩
          case measure => simp [intOf]; omega
      · obtain rfl : k = R.length := by omega
        rw [List.take_length] at hs
        have hO0 := OI.new wr (w2.heap.size + 1) (by omega)
        have HO0 := Lib.hid hO0
        have HHA := Lib.hid (hh6.alloc (.cells #[] 3))
        have HBA := Lib.hid (hb.alloc hb.size (.cells #[] 3))
        have HS0 := Lib.hid hs
        clear hh6 hs hf ht hr hb hO0 HT HR HH
        go_wp2
        go_loopw [9] (fun vo wr => ∃ (n : Nat) (f : Nat → Int × Int) (o S : List Int) (A5 : Option Addr) (c5 : Nat), n ≤ 8 ∧ vo = .slice A5 o.length c5 ∧ HB wr w2.heap.size f n ∧ Bs.HS T f n S ∧ Bs.Taken T R o S ∧ (∀ i, i < 8 → 0 ≤ (f i).1 ∧ (f i).1 < 8) ∧ OI wr (w2.heap.size + 1) A5 c5 o ∧ Below w.heap.size w wr ∧ w2.heap.size + 1 ≤ wr.heap.size) (fun vo _ => R.length - lenOf vo)
        case atStart => exact ⟨R.length, f, [], R, _, _, by omega, rfl, HHA.out, HS0.out, Bs.Taken.start T (fun _ => Iff.rfl), HF.out, HO0.out, HBA.out, by simp; omega⟩
        case round =>
          clear HO0 HHA HBA HS0 HF HS HB6
          obtain ⟨n, f, o, S, A5, c5, hn8, rfl, hh6, hs, hta, hf, ho, hb, hsz2⟩ := hrel
          have HH := Lib.hid hh6
          have HS := Lib.hid hs
          have HF := Lib.hid hf
          have HO := Lib.hid ho
          have HT := Lib.hid hta
          have HB6 := Lib.hid hb
          have sb6 := hh6.lt
          have k16 := hh6.n
          have hlo : o.length ≤ R.length := Bs.nodup_le (Bs.pair_nodup hta.sorted) (fun x hx => (hta.mem x).2 (.inl hx))
          by_cases hn : n = 0
          · subst hn
            have HEO := Lib.hid (HE.out o hta.sorted (fun x => by
              rw [hta.mem x]
              constructor
              · exact .inl
              · rintro (h | h)
                · exact h
                · obtain ⟨i, hi, _⟩ := (hs.mem _).2 ⟨x, h, rfl⟩
                  omega))
            clear hh6 hs hta hf ho hb
            go_wp2
            go_ret
            rw [HV.out, ← HEO.out]
            exact ⟨⟨A5, c5, rfl, HO.out.base (by omega)⟩, HB6.out⟩
          · obtain ⟨m, rfl⟩ : ∃ m, n = m + 1 := ⟨n - 1, by omega⟩
            have hSR : ∀ x ∈ S, 0 ≤ x ∧ x < 8 := fun x hx => by have := HRI.out x ((hta.mem x).2 (.inr hx)); omega
            obtain ⟨ha1, ha2, ha3⟩ := hs.first hSR
            have hnext := hta.next ha1 ha3
            have hlo2 : (o ++ [(f 0).1]).length ≤ R.length := Bs.nodup_le (Bs.pair_nodup hnext.sorted) (fun x hx => (hnext.mem x).2 (.inl hx))
            rw [List.length_append, List.length_singleton] at hlo2
            have HNX := Lib.hid hnext
            have k0 := hh6.fst (i := 0) (by omega)
            simp only [Nat.zero_mul] at k0
            have hcast : ((m + 1 : Nat) : Int) = (m : Int) + 1 := by omega
            rw [hcast] at HH k16 hh6
            have C5 := Lib.hid (fun W => withoutFirst_any f m hf hs.heap (by omega) W)
            have hm0 : (0 : Int) < (m : Int) + 1 := by omega
            have HOa := Lib.hid (ho.alloc (.cells #[.int .i64 (f 0).1] 3))
            have HHa := Lib.hid (hh6.alloc (.cells #[.int .i64 (f 0).1] 3))
            have HBa := Lib.hid (hb.alloc hb.size (.cells #[.int .i64 (f 0).1] 3))
            clear hh6 hs hta hf ho hb hnext ha1 ha2 ha3 hSR hcast
            go_wp2_with (first
              | (at_builtin; refine push_int rfl _ _ rfl (w2.heap.size + 1) A5 c5 o (f 0).1 rfl HOa.out wr.heap.size 1 rfl (by simp [go_sem]) (by omega) (by simp; omega) ?_; intro A6 c6 w6 ho6 hb6 _; have HH6 := Lib.hid (HHa.out.below hb6 (Nat.lt_succ_self _)); have HO6 := Lib.hid ho6; have HB7 := Lib.hid (HBa.out.trans (hb6.mono (by omega))); have s6 := hb6.size; rw [World.size_alloc] at s6; clear ho6 hb6)
              | (refine hp_load rfl _ rfl w2.heap.size f ((m : Int) + 1) rfl HH6.out ?_))
            with_reducible refine (C5.out _).mono ?_
            rintro e w7 ⟨⟨M, rfl, hM1, hM2, hM3⟩, hb7⟩
            have HH7 := Lib.hid (HH6.out.below hb7 HH6.out.lt)
            have HO7 := Lib.hid (HO6.out.below hb7 (Nat.le_refl _))
            have HB8 := Lib.hid (HB7.out.trans (hb7.mono HB7.out.size))
            have s7 := hb7.size
            have HS7 := Lib.hid (HS.out.pop hM2 hM1)
            clear hb7 hM1 hM2 C5
            go_wp2_with (first | (refine hp_store rfl _ _ rfl w2.heap.size f M ((m : Int) + 1) (m : Int) rfl rfl HH7.out ?_; intro w9 hh9 ho9))
            have HH9 := Lib.hid hh9
            have HO9 := Lib.hid (ho9.oi HO7.out (Nat.lt_succ_self _))
            have HB9 := Lib.hid (HB8.out.trans (ho9.below s2))
            have hs9 : w9.heap.size = w7.heap.size := ho9.size
            clear hh9 ho9
            go_wp2
            refine ⟨⟨_, _, _, _, _, _, _, _, _, _, _, _, _, ⟨m, M, o ++ [(f 0).1], _, A6, c6, by omega, by rw [List.length_append]; rfl, HH9.out, HS7.out, HNX.out, hM3, HO9.out, HB9.out, by omega⟩, rfl⟩, ?_⟩
            simp [lenOf, Act.put]
            omega
end Go.Proofs.Ytihgakbopkaemaa
