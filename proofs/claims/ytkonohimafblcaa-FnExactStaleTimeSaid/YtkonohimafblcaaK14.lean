/-
  MERGED TEXTS: W50 W51 W52 W53 W54 W55.
-/
import Derived.Test.YtkonohimafblcaaK27
import Derived.Test.YtkonohimafblcaaMem6
import Derived.Test.YtkonohimafblcaaMath29
import Derived.Deep.RegionHeld3
import Derived.Test.YtkonohimafblcaaK16
namespace Go.Proofs.Ytkonohimafblcaa
open Go.RowKit
/-- beginnings as cells -/
def bgA (f : Nat → Int) (b : Nat) : Array Value := #[.int .i64 (f 0), .int .i64 (f 1), .int .i64 (f 2), .int .i64 (f 3), .int .i64 (f 4), .int .i64 (f 5), .int .i64 (f 6), .int .i64 (f 7), .int .u64 (b : Int)]
theorem bgA_size (f : Nat → Int) (b : Nat) : (bgA f b).size = 9 := rfl
theorem bgA_b (f : Nat → Int) (b : Nat) : (bgA f b)[8]? = some (.int .u64 (b : Int)) := rfl
theorem bgA_at (f : Nat → Int) (b : Nat) {i : Nat} (h : i < 8) : (bgA f b)[i]? = some (.int .i64 (f i)) := by
  rcases eight h with rfl | rfl | rfl | rfl | rfl | rfl | rfl | rfl <;> rfl
theorem bgA_setB (f : Nat → Int) (b c : Nat) : (bgA f b).setIfInBounds 8 (.int .u64 (c : Int)) = bgA f c := rfl
theorem bgA_set (f : Nat → Int) (b : Nat) {i : Nat} (h : i < 8) (x : Int) : (bgA f b).setIfInBounds i (.int .i64 x) = bgA (Bs.upd f i x) b := by
  rcases eight h with rfl | rfl | rfl | rfl | rfl | rfl | rfl | rfl <;> rfl
theorem bgA_congr {f f' : Nat → Int} (b : Nat) (h : ∀ i, i < 8 → f i = f' i) : bgA f b = bgA f' b := by
  unfold bgA
  rw [h 0 (by omega), h 1 (by omega), h 2 (by omega), h 3 (by omega), h 4 (by omega), h 5 (by omega), h 6 (by omega), h 7 (by omega)]
theorem bgOne (f : Nat → Int) (b : Nat) : (bgA f b).all (·.oneCell') = true := by simp [bgA, Value.oneCell']
theorem bgSize : (Try.prog.info? 88).map (·.size) = some 9 := by kernel_rfl
/-- beginnings in memory -/
def BG (w : World) (a : Nat) (f : Nat → Int) (b : Nat) : Prop := Blk w a 88 (bgA f b)
theorem BG.b {w : World} {a b : Nat} {f : Nat → Int} (h : BG w a f b) : w.cell? ⟨a, 8, none⟩ = some (.int .u64 (b : Int)) := (Blk.cell h 8).trans rfl
theorem BG.at_ {w : World} {a b : Nat} {f : Nat → Int} (h : BG w a f b) {i : Nat} (hi : i < 8) : w.cell? ⟨a, i, none⟩ = some (.int .i64 (f i)) := (Blk.cell h _).trans (bgA_at f b hi)
theorem BG.frozen {w : World} {a b : Nat} {f : Nat → Int} (h : BG w a f b) (i : Nat) : w.frozen? ⟨a, i, none⟩ = false := Blk.frozen h i
theorem BG.setB {w : World} {a b : Nat} {f : Nat → Int} (h : BG w a f b) (c : Nat) : BG (w.setCell ⟨a, 8, none⟩ (.int .u64 (c : Int))) a f c := by
  unfold BG
  rw [← bgA_setB f b c]
  exact Blk.set_ h 8 _
theorem BG.setP {w : World} {a b : Nat} {f : Nat → Int} (h : BG w a f b) {i : Nat} (hi : i < 8) (x : Int) : BG (w.setCell ⟨a, i, none⟩ (.int .i64 x)) a (Bs.upd f i x) b := by
  unfold BG
  rw [← bgA_set f b hi x]
  exact Blk.set_ h _ _
theorem BG.below {w w' : World} {a b B : Nat} {f : Nat → Int} (h : BG w a f b) (hb : Below B w w') (hg : a < B) : BG w' a f b := Blk.below h hb hg
theorem BG.lt {w : World} {a b : Nat} {f : Nat → Int} (h : BG w a f b) : a < w.heap.size := Blk.lt h
theorem BG.far {w : World} {a b : Nat} {f : Nat → Int} (h : BG w a f b) {p : Addr} (hp : a ≠ p.block) (u : Value) : BG (w.setCell p u) a f b := Blk.far h hp u
theorem BG.alloc {w : World} {a b : Nat} {f : Nat → Int} (h : BG w a f b) (o : Obj) : BG (w.alloc o) a f b := Blk.alloc h o
theorem BG.new (w : World) (f : Nat → Int) (b : Nat) : BG (w.alloc (.cells (bgA f b) 88)) w.heap.size f b := Blk.new w _ _
theorem BG.drewN {w : World} {a b : Nat} {f : Nat → Int} (h : BG w a f b) (k : Nat) : BG (w.drewN k) a f b := h
theorem OnlyB.bg {b g s : Nat} {f : Nat → Int} {w w' : World} (h : OnlyB b w w') (hb : BG w g f s) (hne : g ≠ b) : BG w' g f s := (h.far g hne).trans hb
theorem bgRow_only (w : World) (a : Nat) (f f' : Nat → Int) (b b' : Nat) (hb : BG w a f b) : BG (w.setRow a (bgA f' b')) a f' b' ∧ OnlyB a w (w.setRow a (bgA f' b')) := by
  refine ⟨setRow_heap w a _ _ _ _ hb, rfl, rfl, rfl, by simp, fun k hk => setRow_other w a k _ hk⟩
theorem bg_load {ops : Array Oper} {rest : List Oper} {o : Oper} {a : Act} {w : World} {Q : Exit → Act → World → Prop} (hgd : o.guard = none) (x : Operand) (ho : o.op = .load 88 x)
    (b : Nat) (f : Nat → Int) (s : Nat) (hx : a.eval x = .pointer (some ⟨b, 0, none⟩)) (hb : BG w b f s) (h : wpList Try.prog ops Q rest (a.put o.dst (.agg (bgA f s))) w) : wpList Try.prog ops Q (o :: rest) a w :=
  wpList_load_row hgd 88 x ho b hx 88 (bgA f s) (0, 0) _ hb Try.underlying88 rfl bgSize h
theorem bg_store {ops : Array Oper} {rest : List Oper} {o : Oper} {a : Act} {w : World} {Q : Exit → Act → World → Prop} (hgd : o.guard = none) (x y : Operand) (ho : o.op = .store 88 x y)
    (b : Nat) (f f' : Nat → Int) (s s' : Nat) (hx : a.eval x = .pointer (some ⟨b, 0, none⟩)) (hy : a.eval y = .agg (bgA f' s')) (hb : BG w b f s)
    (h : ∀ w', BG w' b f' s' → OnlyB b w w' → wpList Try.prog ops Q rest (a.put o.dst undef) w') : wpList Try.prog ops Q (o :: rest) a w :=
  wpList_store_row hgd 88 x y ho b (bgA f' s') hx hy 88 (bgA f s) hb bgSize rfl (bgOne _ _) (h _ (bgRow_only w b f f' s s' hb).1 (bgRow_only w b f f' s s' hb).2)
theorem bg_ret {fn : Func} {p : Tmp} (h : fn.results = #[.cell p 88]) (tmps : Array Value) (w : World) (g : Nat) (f : Nat → Int) (b : Nat) (hp : tmps.getD p undef = .pointer (some ⟨g, 0, none⟩)) (hg : BG w g f b) :
    (results fn tmps).run Try.prog w = .ok (.agg (bgA f b)) w :=
  results_cell_row h tmps w g 88 _ (0, 0) _ hp hg Try.underlying88 rfl bgSize
theorem step_bg_load {ops : Array Oper} {o : Oper} {a : Act} {w : World} {K : Act → World → Prop} {Q : Exit → Act → World → Prop} {E : Prop} (hgd : o.guard = none) (x : Operand) (ho : o.op = .load 88 x)
    (b : Nat) (f : Nat → Int) (n : Nat) (hx : a.eval x = .pointer (some ⟨b, 0, none⟩)) (hb : BG w b f n) (h : K (a.put o.dst (.agg (bgA f n))) w) :
    if Region.wanted o (yielded ops a.tmps) = true then Oper.wp Try.prog o a w K Q else E := by
  have hw : Region.wanted o (yielded ops a.tmps) = true := by simp [Region.wanted, hgd]
  rw [if_pos hw]
  exact wp_load_row 88 x ho b hx 88 (bgA f n) (0, 0) _ hb Try.underlying88 rfl bgSize h
def z8 : Nat → Int := fun _ => 0
theorem z8A : bgA z8 0 = #[.int .i64 0, .int .i64 0, .int .i64 0, .int .i64 0, .int .i64 0, .int .i64 0, .int .i64 0, .int .i64 0, .int .u64 0] := rfl
set_option maxHeartbeats 400000 in
theorem over_any (f : Nat → Int) (b : Nat) (A : Option Addr) (c : Nat) (g : List Bs.T) (v : Nat) (lo hi : Nat) (w : World) (h : RG w lo hi A g) (hh : hi ≤ w.heap.size) (hF : Bs.fine g = true) (hv : v < g.length) (hf : ∀ i, i < 8 → 0 ≤ f i ∧ f i ≤ 100000) :
    Calls Try.prog 102 #[.agg (bgA f b), .slice A g.length c, .int .i64 (v : Int)] w fun e w' => e = .returned (.int .i64 (f v + Bs.timeOf g v)) ∧ Below w.heap.size w w' := by
  have hgl := Bs.fine_len hF
  have hv8 : v < 8 := by omega
  have hb := BG.new w f b
  have hal : Below w.heap.size w (w.alloc (.cells (bgA f b) 88)) := (Below.refl _ _).alloc (Nat.le_refl _) _
  have hsz := bgA_size f b
  have kv := hb.at_ hv8
  have hfv := hf v hv8
  have ht := Bs.fine_time' hF hv
  obtain ⟨bg, og, N, cN, rfl, _, hgh, q0, q1, q2, q3, hlN, hcN, hN⟩ := (h.below hal hh) v hv
  have i0 : (0 : Int) ≤ (v : Int) := by omega
  have i1 : (v : Int) < (g.length : Int) := by omega
  have i2 : (v : Int) < 8 := by omega
  rw [time_at hv]
  have HAL := Lib.hid hal
  clear hb hal hN q1 q2 q3 hf h
  generalize g[v].time = tv at *
  generalize f v = fv at *
  have hw : IntKind.i64.wrap (fv + tv) = fv + tv := IntWalk.i64_in _ ⟨by omega, by omega⟩
  go_enter Try.func102, Try.ntmps102
  go_wp2_with fail
  generalize w.alloc (.cells (bgA f b) 88) = W1 at *
  go_quiet (fail)
  go_wp2
  go_ret
  exact ⟨rfl, HAL.out.drewN _⟩
set_option maxHeartbeats 800000 in
theorem bgWith_any (f : Nat → Int) (b v : Nat) (t : Int) (w : World) (hb8 : b < 256) (hv : v < 8) :
    Calls Try.prog 100 #[.agg (bgA f b), .int .i64 (v : Int), .int .i64 t] w fun e w' => e = .returned (.agg (bgA (Bs.upd f v t) (b ||| 1 <<< v))) ∧ Below w.heap.size w w' := by
  have b1 := (BG.new w (Bs.upd f v t) b).alloc (.cells (bgA z8 0) 88)
  have b2 := BG.new (w.alloc (.cells (bgA (Bs.upd f v t) b) 88)) z8 0
  rw [show (w.alloc (.cells (bgA (Bs.upd f v t) b) 88)).heap.size = w.heap.size + 1 from by simp] at b2
  have hbl : Below w.heap.size w ((w.alloc (.cells (bgA (Bs.upd f v t) b) 88)).alloc (.cells (bgA z8 0) 88)) := ((Below.refl _ _).alloc (Nat.le_refl _) _).alloc (by simp) _
  have k8 := b1.b
  have f8 := b1.frozen 8
  have b0 := (BG.new w f b).alloc (.cells (bgA z8 0) 88)
  have kv := b0.at_ hv
  have fv := b0.frozen v
  have hsz := bgA_size f b
  have i0 : (0 : Int) ≤ (v : Int) := by omega
  have i1 : (v : Int) < 8 := by omega
  have B1 := Lib.hid b1
  have B2 := Lib.hid b2
  have HB := Lib.hid hbl
  have HO := Lib.hid (or_pow b v hb8 hv)
  rw [z8A] at k8 f8 kv fv hbl B1 B2 HB
  have hne : (w.heap.size + 1) ≠ w.heap.size := by omega
  clear b1 b2 hbl b0
  go_enter Try.func100, Try.ntmps100
  go_wp2_with fail
  rw [bgA_set f b hv t]
  generalize (w.alloc (.cells (bgA (Bs.upd f v t) b) 88)).alloc (.cells #[.int .i64 0, .int .i64 0, .int .i64 0, .int .i64 0, .int .i64 0, .int .i64 0, .int .i64 0, .int .i64 0, .int .u64 0] 88) = W at *
  go_region_law (fail)
  all_goals go_wp2_with (first
    | (refine bg_load rfl _ rfl w.heap.size (Bs.upd f v t) (b ||| 1 <<< v) rfl (by rw [HO.out]; exact (B1.out.setB _)) ?_)
    | (refine bg_store rfl _ _ rfl (w.heap.size + 1) z8 (Bs.upd f v t) 0 (b ||| 1 <<< v) rfl rfl (B2.out.far (by exact hne) _) ?_; intro w9 h9 o9))
  all_goals refine bodyPost_ret (bg_ret rfl _ _ (w.heap.size + 1) (Bs.upd f v t) (b ||| 1 <<< v) rfl h9) rfl ⟨rfl, ?_⟩
  all_goals exact (((HB.out.drewN 1).setCell (by exact Nat.le_refl _) _).trans ((o9.below (Nat.le_succ _))))
end Go.Proofs.Ytkonohimafblcaa
namespace Go.Proofs.Ytkonohimafblcaa
open Go.RowKit
theorem bgw_load {ops : Array Oper} {rest : List Oper} {o : Oper} {a : Act} {w : World} {Q : Exit → Act → World → Prop} (hw : Region.wanted o (yielded ops a.tmps) = true) (x : Operand) (ho : o.op = .load 88 x)
    (b : Nat) (f : Nat → Int) (s : Nat) (hx : a.eval x = .pointer (some ⟨b, 0, none⟩)) (hb : BG w b f s) (h : wpList Try.prog ops Q rest (a.put o.dst (.agg (bgA f s))) w) : wpList Try.prog ops Q (o :: rest) a w :=
  BigFrame.wpList_want hw fun _ hK => wp_load_row 88 x ho b hx 88 (bgA f s) (0, 0) _ hb Try.underlying88 rfl bgSize (hK _ _ h)
set_option maxHeartbeats 800000 in
theorem bgRunning_any (f : Nat → Int) (b : Nat) (A : Option Addr) (c : Nat) (g : List Bs.T) (now : Int) (lo hi : Nat) (w : World) (h : RG w lo hi A g) (hh : hi ≤ w.heap.size) (hF : Bs.fine g = true) (hb8 : b < 256) (hf : ∀ i, i < 8 → 0 ≤ f i ∧ f i ≤ 100000) :
    Calls Try.prog 105 #[.agg (bgA f b), .slice A g.length c, .int .i64 now] w (RetI w (Bs.runB g f b now)) := by
  have hgl := Bs.fine_len hF
  have hb0 := BG.new w f b
  have hal : Below w.heap.size w (w.alloc (.cells (bgA f b) 88)) := (Below.refl _ _).alloc (Nat.le_refl _) _
  have hsz := bgA_size f b
  have hs1 : (w.alloc (.cells (bgA f b) 88)).heap.size = w.heap.size + 1 := by simp
  have HO0 := Lib.hid (OI.new (w.alloc (.cells (bgA f b) 88)) (w.heap.size + 1) (by simp))
  have HB0 := Lib.hid (hb0.alloc (.cells #[] 3))
  have HL0 := Lib.hid (hal.alloc (by simp) (.cells #[] 3))
  have C2 := Lib.hid (fun (v : Nat) (hv : v < g.length) W (hbW : Below w.heap.size w W) => over_any f b A c g v lo hi W (h.below hbW hh) (Nat.le_trans hh hbW.size) hF hv hf)
  have HE := Lib.hid (show Bs.runB g f b now = Bs.pick g.length (Bs.runBp g f b now) from rfl)
  clear hb0 hal h hf hF
  go_enter Try.func105, Try.ntmps105
  go_wp2
  go_loopw [7, 12] (fun vo i wr => ∃ (k : Nat) (A' : Option Addr) (c' : Nat) (o : List Int), k ≤ g.length ∧ vo = .slice A' o.length c' ∧ i = .int .i64 k ∧ o = Bs.pick k (Bs.runBp g f b now) ∧ OI wr (w.heap.size + 1) A' c' o ∧ BG wr w.heap.size f b ∧ Below w.heap.size w wr ∧ w.heap.size + 1 ≤ wr.heap.size) (fun _ i _ => g.length - (intOf i).toNat)
  case atStart => exact ⟨0, _, _, [], Nat.zero_le _, rfl, rfl, rfl, by have := HO0.out; rw [hs1] at this; exact this, HB0.out, HL0.out, by simp⟩
  case round =>
    obtain ⟨k, A', c', o, hk, rfl, rfl, ho, hO, hB, hb, hs⟩ := hrel
    clear HO0 HB0 HL0 hs1
    by_cases hlt : k < g.length
    · have hk8 : k < 8 := by omega
      have k8 := hB.b
      have kk := hB.at_ hk8
      have c1 := fun W => hasTask_any b k W hb8 hk8
      have C3 := Lib.hid (C2.out k hlt wr hb)
      have hp := Bs.pick_succ k (Bs.runBp g f b now)
      rw [← ho] at hp
      have hpe : Bs.runBp g f b now k = (b.testBit k && (decide (f k ≤ now) && decide (now < f k + Bs.timeOf g k))) := rfl
      rw [hpe] at hp
      have hol := Bs.pick_len k (Bs.runBp g f b now)
      rw [← ho] at hol
      have HOL := Lib.hid hol
      have HO := Lib.hid hO
      have HB := Lib.hid hB
      have HBb := Lib.hid hb
      have i0 : (0 : Int) ≤ (k : Int) := by omega
      have i1 : (k : Int) < 8 := by omega
      have i2 : (k : Int) < (g.length : Int) := by omega
      clear ho hpe hO hB hb hol C2
      cases hq : b.testBit k
      · rw [hq] at c1 hp
        simp only [Bool.false_and, Bool.false_eq_true, if_false] at hp
        have C1 := Lib.hid c1
        have HP := Lib.hid hp.symm
        clear c1 hp hq C3
        go_wp2_with fail
        with_reducible refine (C1.out _).mono ?_
        rintro e w2 ⟨rfl, rfl⟩
        go_wp2
        go_roundw
        case rel => exact ⟨k + 1, A', c', o, by omega, rfl, by go_num, HP.out, HO.out, HB.out, HBb.out, hs⟩
        case measure => simp [intOf]; omega
      · rw [hq] at c1 hp
        simp only [Bool.true_and] at hp
        have C1 := Lib.hid c1
        clear c1 hq
        generalize Bs.timeOf g k = tk at *
        generalize f k = fk at *
        by_cases h1 : fk ≤ now
        · have d1 : decide (fk ≤ now) = true := by simp [h1]
          by_cases h2 : now < fk + tk
          · have d2 : decide (now < fk + tk) = true := by simp [h2]
            rw [d1, d2] at hp
            simp only [Bool.and_self, if_true] at hp
            have HP := Lib.hid hp.symm
            clear hp
            go_wp2_with fail
            with_reducible refine (C1.out _).mono ?_
            rintro e w2 ⟨rfl, rfl⟩
            go_wp2_with (first | (refine bgw_load (by rfl) _ rfl w.heap.size f b rfl HB.out ?_))
            with_reducible refine (C3.out).mono ?_
            rintro e w2 ⟨rfl, hb2⟩
            have s2 := hb2.size
            have HO2 := Lib.hid ((HO.out.below hb2 (Nat.le_refl _)).alloc (.cells #[.int .i64 (k : Int)] 3))
            have HB2 := Lib.hid ((HB.out.below hb2 (by omega)).alloc (.cells #[.int .i64 (k : Int)] 3))
            have HBb2 := Lib.hid ((HBb.out.trans (hb2.mono HBb.out.size)).alloc (by omega) (.cells #[.int .i64 (k : Int)] 3))
            clear hb2 C3 C1
            go_wp2_with (first
              | (at_builtin; refine push_int rfl _ _ rfl (w.heap.size + 1) A' c' o (k : Int) rfl HO2.out w2.heap.size 1 rfl (by simp [go_sem]) (by have := HOL.out; omega) (by simp; omega) ?_; intro A6 c6 w6 ho6 hb6 _; have HO6 := Lib.hid ho6; have HB6 := Lib.hid (HB2.out.below hb6 (by omega)); have HBb6 := Lib.hid (HBb2.out.trans (hb6.mono (by omega))); have s6 := hb6.size; rw [World.size_alloc] at s6; clear ho6 hb6))
            go_roundw
            case rel => exact ⟨k + 1, A6, c6, o ++ [(k : Int)], by omega, by rw [List.length_append]; rfl, by go_num, HP.out, HO6.out, HB6.out, HBb6.out, by omega⟩
            case measure => simp [intOf]; omega
          · have d2 : decide (now < fk + tk) = false := by simp; omega
            rw [d1, d2] at hp
            simp only [Bool.and_false, Bool.false_eq_true, if_false] at hp
            have HP := Lib.hid hp.symm
            clear hp
            go_wp2_with fail
            with_reducible refine (C1.out _).mono ?_
            rintro e w2 ⟨rfl, rfl⟩
            go_wp2_with (first | (refine bgw_load (by rfl) _ rfl w.heap.size f b rfl HB.out ?_))
            with_reducible refine (C3.out).mono ?_
            rintro e w2 ⟨rfl, hb2⟩
            have s2 := hb2.size
            have HO2 := Lib.hid (HO.out.below hb2 (Nat.le_refl _))
            have HB2 := Lib.hid (HB.out.below hb2 (by omega))
            have HBb2 := Lib.hid (HBb.out.trans (hb2.mono HBb.out.size))
            clear hb2 C3 C1
            go_wp2
            go_roundw
            case rel => exact ⟨k + 1, A', c', o, by omega, rfl, by go_num, HP.out, HO2.out, HB2.out, HBb2.out, by omega⟩
            case measure => simp [intOf]; omega
        · have d1 : decide (fk ≤ now) = false := by simp; omega
          rw [d1] at hp
          simp only [Bool.false_and, Bool.false_eq_true, if_false] at hp
          have HP := Lib.hid hp.symm
          clear hp C3
          go_wp2_with fail
          with_reducible refine (C1.out _).mono ?_
          rintro e w2 ⟨rfl, rfl⟩
          go_wp2
          go_roundw
          case rel => exact ⟨k + 1, A', c', o, by omega, rfl, by go_num, HP.out, HO.out, HB.out, HBb.out, hs⟩
          case measure => simp [intOf]; omega
    · obtain rfl : k = g.length := by omega
      have HO := Lib.hid hO
      have HBb := Lib.hid hb
      have HQ := Lib.hid ho
      clear hO hB hb ho
      go_wp2
      go_ret
      rw [HE.out, ← HQ.out]
      exact ⟨⟨A', c', rfl, HO.out.base (by omega)⟩, HBb.out⟩
end Go.Proofs.Ytkonohimafblcaa
namespace Go.Proofs.Ytkonohimafblcaa
open Go.RowKit
def fitK (g : List Bs.T) (m : List Int) (wk : Int) (f : Nat → Int) (b : Nat) (k : Nat) : Bool := (List.range k).all fun i => !b.testBit i || Bs.fitN g m wk (Bs.runB g f b (f i))
theorem fitK_succ (g : List Bs.T) (m : List Int) (wk : Int) (f : Nat → Int) (b : Nat) (k : Nat) : fitK g m wk f b (k + 1) = (fitK g m wk f b k && (!b.testBit k || Bs.fitN g m wk (Bs.runB g f b (f k)))) := by
  unfold fitK
  rw [List.range_succ, List.all_append]
  simp
theorem fitK_no {g : List Bs.T} {m : List Int} {wk : Int} {f : Nat → Int} {b k : Nat} (hk : k < g.length) (h : (!b.testBit k || Bs.fitN g m wk (Bs.runB g f b (f k))) = false) : Bs.fitB g m wk f b = false := by
  unfold Bs.fitB
  rw [List.all_eq_false]
  exact ⟨k, by simp [hk], by simp only [h]; simp⟩
end Go.Proofs.Ytkonohimafblcaa
namespace Go.Proofs.Ytkonohimafblcaa
open Go.RowKit
theorem bg_same {f f' : Nat → Int} {w : World} {a b : Nat} (h : BG w a f b) (e : bgA f b = bgA f' b) : BG w a f' b := by unfold BG at h ⊢; rw [← e]; exact h
theorem giZ_none {l : List Int} {k : Nat} (h : l.length ≤ k) : Bs.giZ l k = 0 := by unfold Bs.giZ; rw [List.getElem?_eq_none (by omega)]
/-- beginnings of the first k tasks -/
def bgTo (S : List Int) (k : Nat) : Nat → Int := fun i => if i < k then Bs.giZ S i else 0
theorem bgTo_zero (S : List Int) : bgA (bgTo S 0) (Bs.full 0) = bgA z8 0 := rfl
theorem bgTo_succ (S : List Int) (k : Nat) : Bs.upd (bgTo S k) k (Bs.giZ S k) = bgTo S (k + 1) := by
  funext i
  unfold Bs.upd bgTo
  by_cases h : i = k
  · subst h; simp
  · rw [if_neg h]
    by_cases h2 : i < k
    · rw [if_pos h2, if_pos (by omega)]
    · rw [if_neg h2, if_neg (by omega)]
theorem bgTo_all (S : List Int) : bgTo S S.length = Bs.giZ S := by
  funext i
  unfold bgTo
  split
  · rfl
  · rw [giZ_none (by omega)]
theorem canPlan_any (A : Option Addr) (c : Nat) (g : List Bs.T) (A1 : Option Addr) (c1 : Nat) (m : List Int) (wk : Int) (lo hi l1 h1 : Nat) (w : World) (h : RG w lo hi A g) (hh : hi ≤ w.heap.size) (hm : RI w l1 h1 A1 m) (hh1 : h1 ≤ w.heap.size) (hl : g.length ≤ 9223372036854775807) (hml : m.length ≤ 9223372036854775807) :
    Calls Try.prog 76 #[.slice A g.length c, .slice A1 m.length c1, .int .i64 wk] w fun e w' => e = .returned (.bool (Bs.canV g m wk)) ∧ Below w.heap.size w w' := by
  have q1 := ValidGraph_any A c g lo hi w h hh hl
  have q2 := fun W (hb : Below w.heap.size w W) => ValidRoom_same A1 c1 m l1 h1 W (hm.below hb hh1) hml
  have q3 := fun W => validWorkers_any wk W
  have HE := Lib.hid (show Bs.canV g m wk = (Bs.valid g && Bs.roomOk m && decide (1 ≤ wk ∧ wk ≤ 4)) from rfl)
  clear h hm
  generalize Bs.valid g = v1 at *
  generalize Bs.roomOk m = v2 at *
  generalize decide (1 ≤ wk ∧ wk ≤ 4) = v3 at *
  have C1 := Lib.hid q1
  have C2 := Lib.hid q2
  have C3 := Lib.hid q3
  clear q1 q2 q3
  cases v1
  · go_enter Try.func76, Try.ntmps76
    go_wp2_with fail
    with_reducible refine (C1.out).mono ?_
    rintro e w1 ⟨rfl, hb⟩
    have HB := Lib.hid hb
    clear hb
    go_wp2
    go_ret
    exact ⟨ret_bool (by rw [HE.out]; rfl), HB.out⟩
  · cases v2
    · go_enter Try.func76, Try.ntmps76
      go_wp2_with fail
      with_reducible refine (C1.out).mono ?_
      rintro e w1 ⟨rfl, hb⟩
      have HB := Lib.hid hb
      clear hb
      go_wp2_with fail
      with_reducible refine (C2.out _ HB.out).mono ?_
      rintro e w2 ⟨rfl, rfl⟩
      go_wp2
      go_ret
      exact ⟨ret_bool (by rw [HE.out]; rfl), HB.out⟩
    · go_enter Try.func76, Try.ntmps76
      go_wp2_with fail
      with_reducible refine (C1.out).mono ?_
      rintro e w1 ⟨rfl, hb⟩
      have HB := Lib.hid hb
      clear hb
      go_wp2_with fail
      with_reducible refine (C2.out _ HB.out).mono ?_
      rintro e w2 ⟨rfl, rfl⟩
      go_wp2_with fail
      with_reducible refine (C3.out _).mono ?_
      rintro e w2 ⟨rfl, rfl⟩
      go_wp2
      go_ret
      exact ⟨ret_bool (by rw [HE.out]; simp), HB.out⟩
end Go.Proofs.Ytkonohimafblcaa
namespace Go.Proofs.Ytkonohimafblcaa
open Go.RowKit
theorem needAll_no {g : List Bs.T} {m S : List Int} {wk : Int} {k : Nat} (hk : k < g.length) (h : Bs.needOkB g S k = false) : Bs.stV g m wk S = false := by
  unfold Bs.stV
  rw [Bs.stK_split, List.all_eq_false.2 ⟨k, by simp [hk], by simp [h]⟩]
  simp
theorem needAll_yes {g : List Bs.T} {m S : List Int} {wk : Int} (h1 : Bs.canV g m wk = true) (h2 : Bs.clkV g S = true) (h : ∀ k, k < g.length → Bs.needOkB g S k = true) : Bs.stV g m wk S = Bs.fitB g m wk (Bs.giZ S) (Bs.full g.length) := by
  rw [Bs.stV_yes h1 h2, Bs.stK_split, List.all_eq_true.2 (fun x hx => h x (by simpa using hx))]
  rfl
theorem giZ_b {g : List Bs.T} {S : List Int} (h : Bs.clkV g S = true) : ∀ i, i < 8 → 0 ≤ Bs.giZ S i ∧ Bs.giZ S i ≤ 100000 := fun i _ => by
  have := Bs.clk_at h i
  omega
end Go.Proofs.Ytkonohimafblcaa
namespace Go.Proofs.Ytkonohimafblcaa
open Go.RowKit
end Go.Proofs.Ytkonohimafblcaa
