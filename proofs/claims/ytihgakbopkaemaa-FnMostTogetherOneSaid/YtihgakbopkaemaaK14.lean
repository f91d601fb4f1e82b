/-
  MERGED TEXTS: W50 W51 W52 W53 W54 W55.
-/
import Derived.Test.YtihgakbopkaemaaK27
import Derived.Test.YtihgakbopkaemaaK45
import Derived.Test.YtihgakbopkaemaaK37
import Derived.Deep.RegionHeld3
import Derived.Test.YtihgakbopkaemaaK16
namespace Go.Proofs.Ytihgakbopkaemaa
open Go.RowKit
/-- beginnings as cells -/
def bgA (f : Nat → Int) (b : Nat) : Array Value := #[.int .i64 (f 0), .int .i64 (f 1), .int .i64 (f 2), .int .i64 (f 3), .int .i64 (f 4), .int .i64 (f 5), .int .i64 (f 6), .int .i64 (f 7), .int .u64 (b : Int)]
theorem bgA_size (f : Nat → Int) (b : Nat) : (bgA f b).size = 9 := rfl
theorem bgA_b (f : Nat → Int) (b : Nat) : (bgA f b)[8]? = some (.int .u64 (b : Int)) := rfl
theorem bgA_at (f : Nat → Int) (b : Nat) {i : Nat} (h : i < 8) : (bgA f b)[i]? = some (.int .i64 (f i)) := by
  rcases eight h with rfl | rfl | rfl | rfl | rfl | rfl | rfl | rfl <;> rfl
theorem bgA_setB (f : Nat → Int) (b c : Nat) : (bgA f b).setIfInBounds 8 (.int .u64 (c : Int)) = bgA f c := rfl
theorem bgA_set (f : Nat → Int) (b : Nat) {i : Nat} (h : i < 8) (x : Int) : (bgA f b).setIfInBounds i (.int .i64 x) = bgA (Bs.upd f i x) b := by
  rcases eight h with rfl | rfl | rfl | rfl | rfl | rfl | rfl | rfl <;> rfl
theorem bgA_congr {f f' : Nat → Int} (b : Nat) (h : ∀ i, i < 8 → f i = f' i) : bgA f b = bgA f' b := by
  unfold bgA
  rw [h 0 (by omega), h 1 (by omega), h 2 (by omega), h 3 (by omega), h 4 (by omega), h 5 (by omega), h 6 (by omega), h 7 (by omega)]
theorem bgOne (f : Nat → Int) (b : Nat) : (bgA f b).all (·.oneCell') = true := by simp [bgA, Value.oneCell']
theorem bgSize : (Try.prog.info? 57).map (·.size) = some 9 := by kernel_rfl
/-- beginnings in memory -/
def BG (w : World) (a : Nat) (f : Nat → Int) (b : Nat) : Prop := Blk w a 57 (bgA f b)
theorem BG.b {w : World} {a b : Nat} {f : Nat → Int} (h : BG w a f b) : w.cell? ⟨a, 8, none⟩ = some (.int .u64 (b : Int)) := (Blk.cell h 8).trans rfl
theorem BG.at_ {w : World} {a b : Nat} {f : Nat → Int} (h : BG w a f b) {i : Nat} (hi : i < 8) : w.cell? ⟨a, i, none⟩ = some (.int .i64 (f i)) := (Blk.cell h _).trans (bgA_at f b hi)
theorem BG.frozen {w : World} {a b : Nat} {f : Nat → Int} (h : BG w a f b) (i : Nat) : w.frozen? ⟨a, i, none⟩ = false := Blk.frozen h i
theorem BG.setB {w : World} {a b : Nat} {f : Nat → Int} (h : BG w a f b) (c : Nat) : BG (w.setCell ⟨a, 8, none⟩ (.int .u64 (c : Int))) a f c := by
  unfold BG
  rw [← bgA_setB f b c]
  exact Blk.set_ h 8 _
theorem BG.setP {w : World} {a b : Nat} {f : Nat → Int} (h : BG w a f b) {i : Nat} (hi : i < 8) (x : Int) : BG (w.setCell ⟨a, i, none⟩ (.int .i64 x)) a (Bs.upd f i x) b := by
  unfold BG
  rw [← bgA_set f b hi x]
  exact Blk.set_ h _ _
theorem BG.below {w w' : World} {a b B : Nat} {f : Nat → Int} (h : BG w a f b) (hb : Below B w w') (hg : a < B) : BG w' a f b := Blk.below h hb hg
theorem BG.lt {w : World} {a b : Nat} {f : Nat → Int} (h : BG w a f b) : a < w.heap.size := Blk.lt h
theorem BG.far {w : World} {a b : Nat} {f : Nat → Int} (h : BG w a f b) {p : Addr} (hp : a ≠ p.block) (u : Value) : BG (w.setCell p u) a f b := Blk.far h hp u
theorem BG.alloc {w : World} {a b : Nat} {f : Nat → Int} (h : BG w a f b) (o : Obj) : BG (w.alloc o) a f b := Blk.alloc h o
theorem BG.new (w : World) (f : Nat → Int) (b : Nat) : BG (w.alloc (.cells (bgA f b) 57)) w.heap.size f b := Blk.new w _ _
theorem BG.drewN {w : World} {a b : Nat} {f : Nat → Int} (h : BG w a f b) (k : Nat) : BG (w.drewN k) a f b := h
theorem OnlyB.bg {b g s : Nat} {f : Nat → Int} {w w' : World} (h : OnlyB b w w') (hb : BG w g f s) (hne : g ≠ b) : BG w' g f s := (h.far g hne).trans hb
theorem bgRow_only (w : World) (a : Nat) (f f' : Nat → Int) (b b' : Nat) (hb : BG w a f b) : BG (w.setRow a (bgA f' b')) a f' b' ∧ OnlyB a w (w.setRow a (bgA f' b')) := by
  refine ⟨setRow_heap w a _ _ _ _ hb, rfl, rfl, rfl, by simp, fun k hk => setRow_other w a k _ hk⟩
theorem bg_load {ops : Array Oper} {rest : List Oper} {o : Oper} {a : Act} {w : World} {Q : Exit → Act → World → Prop} (hgd : o.guard = none) (x : Operand) (ho : o.op = .load 57 x)
    (b : Nat) (f : Nat → Int) (s : Nat) (hx : a.eval x = .pointer (some ⟨b, 0, none⟩)) (hb : BG w b f s) (h : wpList Try.prog ops Q rest (a.put o.dst (.agg (bgA f s))) w) : wpList Try.prog ops Q (o :: rest) a w :=
  wpList_load_row hgd 57 x ho b hx 57 (bgA f s) (0, 0) _ hb Try.underlying57 rfl bgSize h
theorem bg_store {ops : Array Oper} {rest : List Oper} {o : Oper} {a : Act} {w : World} {Q : Exit → Act → World → Prop} (hgd : o.guard = none) (x y : Operand) (ho : o.op = .store 57 x y)
    (b : Nat) (f f' : Nat → Int) (s s' : Nat) (hx : a.eval x = .pointer (some ⟨b, 0, none⟩)) (hy : a.eval y = .agg (bgA f' s')) (hb : BG w b f s)
    (h : ∀ w', BG w' b f' s' → OnlyB b w w' → wpList Try.prog ops Q rest (a.put o.dst undef) w') : wpList Try.prog ops Q (o :: rest) a w :=
  wpList_store_row hgd 57 x y ho b (bgA f' s') hx hy 57 (bgA f s) hb bgSize rfl (bgOne _ _) (h _ (bgRow_only w b f f' s s' hb).1 (bgRow_only w b f f' s s' hb).2)
theorem bg_ret {fn : Func} {p : Tmp} (h : fn.results = #[.cell p 57]) (tmps : Array Value) (w : World) (g : Nat) (f : Nat → Int) (b : Nat) (hp : tmps.getD p undef = .pointer (some ⟨g, 0, none⟩)) (hg : BG w g f b) :
    (results fn tmps).run Try.prog w = .ok (.agg (bgA f b)) w :=
  results_cell_row h tmps w g 57 _ (0, 0) _ hp hg Try.underlying57 rfl bgSize
theorem step_bg_load {ops : Array Oper} {o : Oper} {a : Act} {w : World} {K : Act → World → Prop} {Q : Exit → Act → World → Prop} {E : Prop} (hgd : o.guard = none) (x : Operand) (ho : o.op = .load 57 x)
    (b : Nat) (f : Nat → Int) (n : Nat) (hx : a.eval x = .pointer (some ⟨b, 0, none⟩)) (hb : BG w b f n) (h : K (a.put o.dst (.agg (bgA f n))) w) :
    if Region.wanted o (yielded ops a.tmps) = true then Oper.wp Try.prog o a w K Q else E := by
  have hw : Region.wanted o (yielded ops a.tmps) = true := by simp [Region.wanted, hgd]
  rw [if_pos hw]
  exact wp_load_row 57 x ho b hx 57 (bgA f n) (0, 0) _ hb Try.underlying57 rfl bgSize h
def z8 : Nat → Int := fun _ => 0
theorem z8A : bgA z8 0 = #[.int .i64 0, .int .i64 0, .int .i64 0, .int .i64 0, .int .i64 0, .int .i64 0, .int .i64 0, .int .i64 0, .int .u64 0] := rfl
theorem laterOf_any (a b : Int) (w : World) : Calls Try.prog 57 #[.int .i64 a, .int .i64 b] w fun e w' => e = .returned (.int .i64 (max a b)) ∧ w = w' := by
  go_enter Try.func57, Try.ntmps57
  go_wp2
  all_goals go_ret
  all_goals exact ⟨ret_int (by omega), rfl⟩
set_option maxHeartbeats 400000 in
theorem over_any (f : Nat → Int) (b : Nat) (A : Option Addr) (c : Nat) (g : List Bs.T) (v : Nat) (lo hi : Nat) (w : World) (h : RG w lo hi A g) (hh : hi ≤ w.heap.size) (hF : Bs.fine g = true) (hv : v < g.length) (hf : ∀ i, i < 8 → 0 ≤ f i ∧ f i ≤ 100000) :
    Calls Try.prog 58 #[.agg (bgA f b), .slice A g.length c, .int .i64 (v : Int)] w fun e w' => e = .returned (.int .i64 (f v + Bs.timeOf g v)) ∧ Below w.heap.size w w' := by
  have hgl := Bs.fine_len hF
  have hv8 : v < 8 := by omega
  have hb := BG.new w f b
  have hal : Below w.heap.size w (w.alloc (.cells (bgA f b) 57)) := (Below.refl _ _).alloc (Nat.le_refl _) _
  have hsz := bgA_size f b
  have kv := hb.at_ hv8
  have hfv := hf v hv8
  have ht := Bs.fine_time' hF hv
  obtain ⟨bg, og, N, cN, rfl, _, hgh, q0, q1, q2, q3, hlN, hcN, hN⟩ := (h.below hal hh) v hv
  have i0 : (0 : Int) ≤ (v : Int) := by omega
  have i1 : (v : Int) < (g.length : Int) := by omega
  have i2 : (v : Int) < 8 := by omega
  rw [time_at hv]
  have HAL := Lib.hid hal
  clear hb hal hN q1 q2 q3 hf h
  generalize g[v].time = tv at *
  generalize f v = fv at *
  have hw : IntKind.i64.wrap (fv + tv) = fv + tv := IntWalk.i64_in _ ⟨by omega, by omega⟩
  go_enter Try.func58, Try.ntmps58
  go_wp2_with fail
  generalize w.alloc (.cells (bgA f b) 57) = W1 at *
  go_quiet (fail)
  go_wp2
  go_ret
  exact ⟨rfl, HAL.out.drewN _⟩
set_option maxHeartbeats 800000 in
theorem bgWith_any (f : Nat → Int) (b v : Nat) (t : Int) (w : World) (hb8 : b < 256) (hv : v < 8) :
    Calls Try.prog 69 #[.agg (bgA f b), .int .i64 (v : Int), .int .i64 t] w fun e w' => e = .returned (.agg (bgA (Bs.upd f v t) (b ||| 1 <<< v))) ∧ Below w.heap.size w w' := by
  have b1 := (BG.new w (Bs.upd f v t) b).alloc (.cells (bgA z8 0) 57)
  have b2 := BG.new (w.alloc (.cells (bgA (Bs.upd f v t) b) 57)) z8 0
  rw [show (w.alloc (.cells (bgA (Bs.upd f v t) b) 57)).heap.size = w.heap.size + 1 from by simp] at b2
  have hbl : Below w.heap.size w ((w.alloc (.cells (bgA (Bs.upd f v t) b) 57)).alloc (.cells (bgA z8 0) 57)) := ((Below.refl _ _).alloc (Nat.le_refl _) _).alloc (by simp) _
  have k8 := b1.b
  have f8 := b1.frozen 8
  have b0 := (BG.new w f b).alloc (.cells (bgA z8 0) 57)
  have kv := b0.at_ hv
  have fv := b0.frozen v
  have hsz := bgA_size f b
  have i0 : (0 : Int) ≤ (v : Int) := by omega
  have i1 : (v : Int) < 8 := by omega
  have B1 := Lib.hid b1
  have B2 := Lib.hid b2
  have HB := Lib.hid hbl
  have HO := Lib.hid (or_pow b v hb8 hv)
  rw [z8A] at k8 f8 kv fv hbl B1 B2 HB
  have hne : (w.heap.size + 1) ≠ w.heap.size := by omega
  clear b1 b2 hbl b0
  go_enter Try.func69, Try.ntmps69
  go_wp2_with fail
  rw [bgA_set f b hv t]
  generalize (w.alloc (.cells (bgA (Bs.upd f v t) b) 57)).alloc (.cells #[.int .i64 0, .int .i64 0, .int .i64 0, .int .i64 0, .int .i64 0, .int .i64 0, .int .i64 0, .int .i64 0, .int .u64 0] 57) = W at *
  go_region_law (fail)
  all_goals go_wp2_with (first
    | (refine bg_load rfl _ rfl w.heap.size (Bs.upd f v t) (b ||| 1 <<< v) rfl (by rw [HO.out]; exact (B1.out.setB _)) ?_)
    | (refine bg_store rfl _ _ rfl (w.heap.size + 1) z8 (Bs.upd f v t) 0 (b ||| 1 <<< v) rfl rfl (B2.out.far (by exact hne) _) ?_; intro w9 h9 o9))
  all_goals refine bodyPost_ret (bg_ret rfl _ _ (w.heap.size + 1) (Bs.upd f v t) (b ||| 1 <<< v) rfl h9) rfl ⟨rfl, ?_⟩
  all_goals exact (((HB.out.drewN 1).setCell (by exact Nat.le_refl _) _).trans ((o9.below (Nat.le_succ _))))
end Go.Proofs.Ytihgakbopkaemaa
namespace Go.Proofs.Ytihgakbopkaemaa
open Go.RowKit
theorem bgw_load {ops : Array Oper} {rest : List Oper} {o : Oper} {a : Act} {w : World} {Q : Exit → Act → World → Prop} (hw : Region.wanted o (yielded ops a.tmps) = true) (x : Operand) (ho : o.op = .load 57 x)
    (b : Nat) (f : Nat → Int) (s : Nat) (hx : a.eval x = .pointer (some ⟨b, 0, none⟩)) (hb : BG w b f s) (h : wpList Try.prog ops Q rest (a.put o.dst (.agg (bgA f s))) w) : wpList Try.prog ops Q (o :: rest) a w :=
  BigFrame.wpList_want hw fun _ hK => wp_load_row 57 x ho b hx 57 (bgA f s) (0, 0) _ hb Try.underlying57 rfl bgSize (hK _ _ h)
set_option maxHeartbeats 800000 in
theorem bgRunning_any (f : Nat → Int) (b : Nat) (A : Option Addr) (c : Nat) (g : List Bs.T) (now : Int) (lo hi : Nat) (w : World) (h : RG w lo hi A g) (hh : hi ≤ w.heap.size) (hF : Bs.fine g = true) (hb8 : b < 256) (hf : ∀ i, i < 8 → 0 ≤ f i ∧ f i ≤ 100000) :
    Calls Try.prog 49 #[.agg (bgA f b), .slice A g.length c, .int .i64 now] w (RetI w (Bs.runB g f b now)) := by
  have hgl := Bs.fine_len hF
  have hb0 := BG.new w f b
  have hal : Below w.heap.size w (w.alloc (.cells (bgA f b) 57)) := (Below.refl _ _).alloc (Nat.le_refl _) _
  have hsz := bgA_size f b
  have hs1 : (w.alloc (.cells (bgA f b) 57)).heap.size = w.heap.size + 1 := by simp
  have HO0 := Lib.hid (OI.new (w.alloc (.cells (bgA f b) 57)) (w.heap.size + 1) (by simp))
  have HB0 := Lib.hid (hb0.alloc (.cells #[] 3))
  have HL0 := Lib.hid (hal.alloc (by simp) (.cells #[] 3))
  have C2 := Lib.hid (fun (v : Nat) (hv : v < g.length) W (hbW : Below w.heap.size w W) => over_any f b A c g v lo hi W (h.below hbW hh) (Nat.le_trans hh hbW.size) hF hv hf)
  have HE := Lib.hid (show Bs.runB g f b now = Bs.pick g.length (Bs.runBp g f b now) from rfl)
  clear hb0 hal h hf hF
  go_enter Try.func49, Try.ntmps49
  go_wp2
  go_loopw [7, 12] (fun vo i wr => ∃ (k : Nat) (A' : Option Addr) (c' : Nat) (o : List Int), k ≤ g.length ∧ vo = .slice A' o.length c' ∧ i = .int .i64 k ∧ o = Bs.pick k (Bs.runBp g f b now) ∧ OI wr (w.heap.size + 1) A' c' o ∧ BG wr w.heap.size f b ∧ Below w.heap.size w wr ∧ w.heap.size + 1 ≤ wr.heap.size) (fun _ i _ => g.length - (intOf i).toNat)
  case atStart => exact ⟨0, _, _, [], Nat.zero_le _, rfl, rfl, rfl, by have := HO0.out; rw [hs1] at this; exact this, HB0.out, HL0.out, by simp⟩
  case round =>
    obtain ⟨k, A', c', o, hk, rfl, rfl, ho, hO, hB, hb, hs⟩ := hrel
    clear HO0 HB0 HL0 hs1
    by_cases hlt : k < g.length
    · have hk8 : k < 8 := by omega
      have k8 := hB.b
      have kk := hB.at_ hk8
      have c1 := fun W => hasTask_any b k W hb8 hk8
      have C3 := Lib.hid (C2.out k hlt wr hb)
      have hp := Bs.pick_succ k (Bs.runBp g f b now)
      rw [← ho] at hp
      have hpe : Bs.runBp g f b now k = (b.testBit k && (decide (f k ≤ now) && decide (now < f k + Bs.timeOf g k))) := rfl
      rw [hpe] at hp
      have hol := Bs.pick_len k (Bs.runBp g f b now)
      rw [← ho] at hol
      have HOL := Lib.hid hol
      have HO := Lib.hid hO
      have HB := Lib.hid hB
      have HBb := Lib.hid hb
      have i0 : (0 : Int) ≤ (k : Int) := by omega
      have i1 : (k : Int) < 8 := by omega
      have i2 : (k : Int) < (g.length : Int) := by omega
      clear ho hpe hO hB hb hol C2
      cases hq : b.testBit k
      · rw [hq] at c1 hp
        simp only [Bool.false_and, Bool.false_eq_true, if_false] at hp
        have C1 := Lib.hid c1
        have HP := Lib.hid hp.symm
        clear c1 hp hq C3
        go_wp2_with fail
        with_reducible refine (C1.out _).mono ?_
        rintro e w2 ⟨rfl, rfl⟩
        go_wp2
        go_roundw
        case rel => exact ⟨k + 1, A', c', o, by omega, rfl, by go_num, HP.out, HO.out, HB.out, HBb.out, hs⟩
        case measure => simp [intOf]; omega
      · rw [hq] at c1 hp
        simp only [Bool.true_and] at hp
        have C1 := Lib.hid c1
        clear c1 hq
        generalize Bs.timeOf g k = tk at *
        generalize f k = fk at *
        by_cases h1 : fk ≤ now
        · have d1 : decide (fk ≤ now) = true := by simp [h1]
          by_cases h2 : now < fk + tk
          · have d2 : decide (now < fk + tk) = true := by simp [h2]
            rw [d1, d2] at hp
            simp only [Bool.and_self, if_true] at hp
            have HP := Lib.hid hp.symm
            clear hp
            go_wp2_with fail
            with_reducible refine (C1.out _).mono ?_
            rintro e w2 ⟨rfl, rfl⟩
            go_wp2_with (first | (refine bgw_load (by rfl) _ rfl w.heap.size f b rfl HB.out ?_))
            with_reducible refine (C3.out).mono ?_
            rintro e w2 ⟨rfl, hb2⟩
            have s2 := hb2.size
            have HO2 := Lib.hid ((HO.out.below hb2 (Nat.le_refl _)).alloc (.cells #[.int .i64 (k : Int)] 3))
            have HB2 := Lib.hid ((HB.out.below hb2 (by omega)).alloc (.cells #[.int .i64 (k : Int)] 3))
            have HBb2 := Lib.hid ((HBb.out.trans (hb2.mono HBb.out.size)).alloc (by omega) (.cells #[.int .i64 (k : Int)] 3))
            clear hb2 C3 C1
            go_wp2_with (first
              | (at_builtin; refine push_int rfl _ _ rfl (w.heap.size + 1) A' c' o (k : Int) rfl HO2.out w2.heap.size 1 rfl (by simp [go_sem]) (by have := HOL.out; omega) (by simp; omega) ?_; intro A6 c6 w6 ho6 hb6 _; have HO6 := Lib.hid ho6; have HB6 := Lib.hid (HB2.out.below hb6 (by omega)); have HBb6 := Lib.hid (HBb2.out.trans (hb6.mono (by omega))); have s6 := hb6.size; rw [World.size_alloc] at s6; clear ho6 hb6))
            go_roundw
            case rel => exact ⟨k + 1, A6, c6, o ++ [(k : Int)], by omega, by rw [List.length_append]; rfl, by go_num, HP.out, HO6.out, HB6.out, HBb6.out, by omega⟩
            case measure => simp [intOf]; omega
          · have d2 : decide (now < fk + tk) = false := by simp; omega
            rw [d1, d2] at hp
            simp only [Bool.and_false, Bool.false_eq_true, if_false] at hp
            have HP := Lib.hid hp.symm
            clear hp
            go_wp2_with fail
            with_reducible refine (C1.out _).mono ?_
            rintro e w2 ⟨rfl, rfl⟩
            go_wp2_with (first | (refine bgw_load (by rfl) _ rfl w.heap.size f b rfl HB.out ?_))
            with_reducible refine (C3.out).mono ?_
            rintro e w2 ⟨rfl, hb2⟩
            have s2 := hb2.size
            have HO2 := Lib.hid (HO.out.below hb2 (Nat.le_refl _))
            have HB2 := Lib.hid (HB.out.below hb2 (by omega))
            have HBb2 := Lib.hid (HBb.out.trans (hb2.mono HBb.out.size))
            clear hb2 C3 C1
            go_wp2
            go_roundw
            case rel => exact ⟨k + 1, A', c', o, by omega, rfl, by go_num, HP.out, HO2.out, HB2.out, HBb2.out, by omega⟩
            case measure => simp [intOf]; omega
        · have d1 : decide (fk ≤ now) = false := by simp; omega
          rw [d1] at hp
          simp only [Bool.false_and, Bool.false_eq_true, if_false] at hp
          have HP := Lib.hid hp.symm
          clear hp C3
          go_wp2_with fail
          with_reducible refine (C1.out _).mono ?_
          rintro e w2 ⟨rfl, rfl⟩
          go_wp2
          go_roundw
          case rel => exact ⟨k + 1, A', c', o, by omega, rfl, by go_num, HP.out, HO.out, HB.out, HBb.out, hs⟩
          case measure => simp [intOf]; omega
    · obtain rfl : k = g.length := by omega
      have HO := Lib.hid hO
      have HBb := Lib.hid hb
      have HQ := Lib.hid ho
      clear hO hB hb ho
      go_wp2
      go_ret
      rw [HE.out, ← HQ.out]
      exact ⟨⟨A', c', rfl, HO.out.base (by omega)⟩, HBb.out⟩
set_option maxHeartbeats 800000 in
theorem needsOver_any (f : Nat → Int) (b : Nat) (A : Option Addr) (c : Nat) (g : List Bs.T) (v : Nat) (lo hi : Nat) (w : World) (h : RG w lo hi A g) (hh : hi ≤ w.heap.size) (hF : Bs.fine g = true) (hv : v < g.length) (hf : ∀ i, i < 8 → 0 ≤ f i ∧ f i ≤ 100000) :
    Calls Try.prog 53 #[.agg (bgA f b), .slice A g.length c, .int .i64 (v : Int)] w fun e w' => e = .returned (.int .i64 (Bs.needsOv g f v)) ∧ Below w.heap.size w w' := by
  have hgl := Bs.fine_len hF
  have hb0 := BG.new w f b
  have hal : Below w.heap.size w (w.alloc (.cells (bgA f b) 57)) := (Below.refl _ _).alloc (Nat.le_refl _) _
  have hsz := bgA_size f b
  have HB0 := Lib.hid hb0
  have HL0 := Lib.hid hal
  have C2 := Lib.hid (fun (v : Nat) (hv : v < g.length) W (hbW : Below w.heap.size w W) => over_any f b A c g v lo hi W (h.below hbW hh) (Nat.le_trans hh hbW.size) hF hv hf)
  have HNI := Lib.hid (Bs.inG_mem (Bs.fine_inG hF hv))
  have hnl := Bs.fine_needs_len hF hv
  have HE := Lib.hid (show Bs.needsOv g f v = Bs.maxL (g[v].needs.map (Bs.ovF g f)) from by rw [← need_at hv]; rfl)
  obtain ⟨bg, og, N, cN, rfl, _, hgh, _, q1, _, _, hlN, hcN, hN⟩ := h v hv
  replace q1 := (hal.cell (p := ⟨bg, og + v * 4 + 1, none⟩) (by show bg < _; omega)).trans q1
  have HN0 := Lib.hid (fun W (hbW : Below w.heap.size w W) => hN.below hbW hh)
  have HTB := Lib.hid (fun i => Bs.time_b hF i)
  have Hf := Lib.hid hf
  have i0 : (0 : Int) ≤ (v : Int) := by omega
  have i1 : (v : Int) < (g.length : Int) := by omega
  clear hb0 hal hf hF h hN
  generalize hL : g[v].needs = L at *
  clear hL
  go_enter Try.func53, Try.ntmps53
  go_wp2
  go_loopw [7, 16] (fun s i wr => ∃ (k : Nat) (t : Int), k ≤ L.length ∧ s = .int .i64 t ∧ i = .int .i64 k ∧ t = Bs.maxL ((L.take k).map (Bs.ovF g f)) ∧ BG wr w.heap.size f b ∧ Below w.heap.size w wr) (fun _ i _ => L.length - (intOf i).toNat)
  case atStart => exact ⟨0, 0, Nat.zero_le _, rfl, rfl, by simp [Bs.maxL], HB0.out, HL0.out⟩
  case round =>
    obtain ⟨k, t, hk, rfl, rfl, ht, hB, hb⟩ := hrel
    clear HB0 HL0
    by_cases hlt : k < L.length
    · obtain ⟨b', o', rfl, _, _, hc⟩ := (HN0.out wr hb).at_ hlt
      have hx := HNI.out _ (List.getElem_mem hlt)
      have hst : Bs.maxL ((L.take (k + 1)).map (Bs.ovF g f)) = max t (Bs.ovF g f L[k]) := by
        rw [List.take_succ_eq_append_getElem hlt, List.map_append, ht]
        exact Bs.maxL_append _ _
      obtain ⟨x, hxv⟩ : ∃ x : Nat, L[k] = (x : Int) := ⟨L[k].toNat, by omega⟩
      rw [hxv] at hc hx hst
      have hxl : x < g.length := by omega
      have C3 := Lib.hid (C2.out x hxl wr hb)
      have HS := Lib.hid (show Bs.maxL ((L.take (k + 1)).map (Bs.ovF g f)) = max t (f x + Bs.timeOf g x) from by rw [hst]; unfold Bs.ovF; rw [Int.toNat_natCast])
      have HB := Lib.hid hB
      have HBb := Lib.hid hb
      clear ht hB hb hst hxv C2
      generalize f x + Bs.timeOf g x = y at *
      go_wp2_with (first | (refine bg_load rfl _ rfl w.heap.size f b rfl HB.out ?_))
      with_reducible refine (C3.out).mono ?_
      rintro e w2 ⟨rfl, hb2⟩
      have s2 := hb2.size
      have sB := HB.out.lt
      have HB2 := Lib.hid (HB.out.below hb2 (by omega))
      have HBb2 := Lib.hid (HBb.out.trans (hb2.mono HBb.out.size))
      clear hb2 C3
      go_wp2_with fail
      with_reducible refine (laterOf_any t y _).mono ?_
      rintro e w3 ⟨rfl, rfl⟩
      go_wp2
      go_roundw
      case rel => exact ⟨k + 1, max t y, by omega, rfl, by go_num, HS.out.symm, HB2.out, HBb2.out⟩
      case measure => simp [intOf]; omega
    · have e : L.take k = L := List.take_of_length_le (by omega)
      rw [e] at ht
      have HT := Lib.hid (show t = Bs.needsOv g f v from by rw [HE.out, ← ht])
      have HBb := Lib.hid hb
      clear ht hB hb e
      go_wp2
      go_ret
      exact ⟨ret_int HT.out, HBb.out⟩
end Go.Proofs.Ytihgakbopkaemaa
namespace Go.Proofs.Ytihgakbopkaemaa
open Go.RowKit
def fitK (g : List Bs.T) (m : List Int) (wk : Int) (f : Nat → Int) (b : Nat) (k : Nat) : Bool := (List.range k).all fun i => !b.testBit i || Bs.fitN g m wk (Bs.runB g f b (f i))
theorem fitK_succ (g : List Bs.T) (m : List Int) (wk : Int) (f : Nat → Int) (b : Nat) (k : Nat) : fitK g m wk f b (k + 1) = (fitK g m wk f b k && (!b.testBit k || Bs.fitN g m wk (Bs.runB g f b (f k)))) := by
  unfold fitK
  rw [List.range_succ, List.all_append]
  simp
theorem fitK_no {g : List Bs.T} {m : List Int} {wk : Int} {f : Nat → Int} {b k : Nat} (hk : k < g.length) (h : (!b.testBit k || Bs.fitN g m wk (Bs.runB g f b (f k))) = false) : Bs.fitB g m wk f b = false := by
  unfold Bs.fitB
  rw [List.all_eq_false]
  exact ⟨k, by simp [hk], by simp only [h]; simp⟩
set_option maxHeartbeats 800000 in
theorem bgFit_any (f : Nat → Int) (b : Nat) (A : Option Addr) (c : Nat) (g : List Bs.T) (A1 : Option Addr) (c1 : Nat) (m : List Int) (wk : Int) (lo hi l1 h1 : Nat) (w : World) (h : RG w lo hi A g) (hh : hi ≤ w.heap.size) (hm : RI w l1 h1 A1 m) (hh1 : h1 ≤ w.heap.size) (hF : Bs.fine g = true) (hm3 : m.length = 3) (hb8 : b < 256) (hf : ∀ i, i < 8 → 0 ≤ f i ∧ f i ≤ 100000) :
    Calls Try.prog 54 #[.agg (bgA f b), .slice A g.length c, .slice A1 m.length c1, .int .i64 wk] w fun e w' => e = .returned (.bool (Bs.fitB g m wk f b)) ∧ Below w.heap.size w w' := by
  have hgl := Bs.fine_len hF
  have hb0 := BG.new w f b
  have hal : Below w.heap.size w (w.alloc (.cells (bgA f b) 57)) := (Below.refl _ _).alloc (Nat.le_refl _) _
  have hsz := bgA_size f b
  have HB0 := Lib.hid hb0
  have HL0 := Lib.hid hal
  have C2 := Lib.hid (fun (now : Int) W (hbW : Below w.heap.size w W) => bgRunning_any f b A c g now lo hi W (h.below hbW hh) (Nat.le_trans hh hbW.size) hF hb8 hf)
  have C4 := Lib.hid (fun (A' : Option Addr) (c' : Nat) (r : List Int) (l2 h2 : Nat) W (hbW : Below w.heap.size w W) (hr : RI W l2 h2 A' r) (hh2 : h2 ≤ W.heap.size) (hin : ∀ x ∈ r, 0 ≤ x ∧ x < g.length) (hl : r.length ≤ 100) => countUnits_any A c g A' c' r lo hi l2 h2 W (h.below hbW hh) (Nat.le_trans hh hbW.size) hr hh2 hF hin hl)
  have C5 := Lib.hid (fun (x0 x1 x2 n : Int) W (hb : Below w.heap.size w W) => fits_any x0 x1 x2 n A1 c1 m l1 h1 W (hm.below hb hh1) (Nat.le_trans hh1 hb.size) hm3)
  have HE := Lib.hid (show fitK g m wk f b g.length = Bs.fitB g m wk f b from rfl)
  clear hb0 hal h hf hF hm hm3
  go_enter Try.func54, Try.ntmps54
  go_wp2
  go_loopw [13] (fun i wr => ∃ (k : Nat), k ≤ g.length ∧ i = .int .i64 k ∧ fitK g m wk f b k = true ∧ BG wr w.heap.size f b ∧ Below w.heap.size w wr ∧ w.heap.size + 1 ≤ wr.heap.size) (fun i _ => g.length - (intOf i).toNat)
  case atStart => exact ⟨0, Nat.zero_le _, rfl, rfl, HB0.out, HL0.out, by simp⟩
  case round =>
    obtain ⟨k, hk, rfl, hfk, hB, hb, hs⟩ := hrel
    clear HB0 HL0
    by_cases hlt : k < g.length
    · have hk8 : k < 8 := by omega
      have k8 := hB.b
      have kk := hB.at_ hk8
      have c1 := fun W => hasTask_any b k W hb8 hk8
      have hsu := fitK_succ g m wk f b k
      have hno := fun h => fitK_no (g := g) (m := m) (wk := wk) (f := f) (b := b) hlt h
      rw [hfk] at hsu
      have hrl := Bs.runB_len g f b (f k)
      have HRI := Lib.hid (Bs.runB_in (g := g) (f := f) (b := b) (now := f k))
      have hfe := fits_eq g m (Bs.runB g f b (f k))
      have c3 := fun W hW => C2.out (f k) W hW
      have sb1 : w.heap.size < wr.heap.size := hs
      have sb2 : ¬ w.heap.size = wr.heap.size := by omega
      have HX0 := Lib.hid (show Below w.heap.size w wr.drew from hb.drewN 1)
      have HX1 := Lib.hid (show Below w.heap.size w (wr.alloc (.cells #[.int .i64 0, .int .i64 0, .int .i64 0, .int .i64 0] 108)).drew from (hb.alloc hb.size _).drewN 1)
      have HP1 := Lib.hid (show Blk (wr.alloc (.cells #[.int .i64 0, .int .i64 0, .int .i64 0, .int .i64 0] 108)).drew wr.heap.size 108 #[.int .i64 0, .int .i64 0, .int .i64 0, .int .i64 0] from Blk.new wr _ _)
      unfold bgA at c3
      have C3 := Lib.hid c3
      have b0 := hB.at_ (i := 0) (by omega)
      have b1 := hB.at_ (i := 1) (by omega)
      have b2 := hB.at_ (i := 2) (by omega)
      have b3 := hB.at_ (i := 3) (by omega)
      have b4 := hB.at_ (i := 4) (by omega)
      have b5 := hB.at_ (i := 5) (by omega)
      have b6 := hB.at_ (i := 6) (by omega)
      have b7 := hB.at_ (i := 7) (by omega)
      clear c3
      have HB := Lib.hid hB
      have HBb := Lib.hid hb
      have i0 : (0 : Int) ≤ (k : Int) := by omega
      have i1 : (k : Int) < 8 := by omega
      clear hfk hB hb C2
      cases hq : b.testBit k
      · rw [hq] at c1 hsu
        have C1 := Lib.hid c1
        have HS := Lib.hid hsu
        clear c1 hsu hno hq hfe C3 HRI hrl b0 b1 b2 b3 b4 b5 b6 b7
        go_wp2_with fail
        with_reducible refine (C1.out _).mono ?_
        rintro e w2 ⟨rfl, rfl⟩
        go_wp2
        go_roundw
        case rel => exact ⟨k + 1, by omega, by go_num, by rw [HS.out]; rfl, HB.out, HBb.out, hs⟩
        case measure => simp [intOf]; omega
      · rw [hq] at c1 hsu hno
        have hfn : Bs.fitN g m wk (Bs.runB g f b (f k)) = (decide (((Bs.runB g f b (f k)).length : Int) ≤ wk) && Bs.fitsC g m (Bs.runB g f b (f k))) := rfl
        rw [hfn] at hsu hno
        clear hfn
        have C1 := Lib.hid c1
        rw [hfe] at hsu hno
        clear c1 hq hfe
        generalize f k = fk at *
        generalize hR : Bs.runB g f b fk = R at *
        have C6 := Lib.hid (fun (A' : Option Addr) (c' : Nat) (l2 h2 : Nat) W (hbW : Below w.heap.size w W) (hr : RI W l2 h2 A' R) (hh2 : h2 ≤ W.heap.size) => C4.out A' c' R l2 h2 W hbW hr hh2 HRI.out (by omega))
        clear C4 hR HRI
        unfold pcV at C6
        generalize Bs.usedC g R 0 = x0 at *
        generalize Bs.usedC g R 1 = x1 at *
        generalize Bs.usedC g R 2 = x2 at *
        obtain ⟨n, hn⟩ : ∃ n : Int, n = (R.length : Int) := ⟨_, rfl⟩
        rw [← hn] at hsu hno C6
        have HS := Lib.hid hsu
        have HNO := Lib.hid hno
        have HN := Lib.hid hn
        clear hsu hno hn hrl
        go_wp2_with fail
        with_reducible refine (C1.out _).mono ?_
        rintro e w2 ⟨rfl, rfl⟩
        go_wp2_with fail
        go_region_law (first
          | (go_simp; (go_at_call 49; (with_reducible refine (C3.out _ (by first | exact HX0.out | exact HX1.out)).mono ?_); rintro e w5 ⟨⟨A5, c5, rfl, ho5⟩, hb5⟩; have s5 : wr.heap.size ≤ w5.heap.size := Nat.le_trans (by simp) hb5.size; have HO5 := Lib.hid (ho5.ri); have HBb5 := Lib.hid (show Below w.heap.size w w5 from by first | exact HX0.out.trans (hb5.mono HX0.out.size) | exact HX1.out.trans (hb5.mono HX1.out.size)); have HB5 := Lib.hid (show BG w5 w.heap.size f b from by first | exact (HB.out.drewN 1).below hb5 hs | exact ((HB.out.alloc _).drewN 1).below hb5 (by simp; omega)); try have HP5 := Lib.hid (show Blk w5 wr.heap.size 108 #[.int .i64 0, .int .i64 0, .int .i64 0, .int .i64 0] from HP1.out.below hb5 (by simp)); clear hb5 ho5))
          | (go_simp; (go_at_call 84; (with_reducible refine (C6.out _ _ _ _ _ (by first | exact HBb5.out | exact HBb5.out.alloc HBb5.out.size _) (by first | exact HO5.out | exact HO5.out.keep fun p _ hp => World.cell?_alloc_lt w5 _ p hp) (by first | exact Nat.le_refl _ | simp)).mono ?_); rintro e w6 ⟨rfl, hb6⟩; have s6 : w5.heap.size ≤ w6.heap.size := Nat.le_trans (by simp) hb6.size; have HBb6 := Lib.hid (show Below w.heap.size w w6 from by first | exact HBb5.out.trans (hb6.mono HBb5.out.size) | exact (HBb5.out.alloc HBb5.out.size _).trans (hb6.mono (Nat.le_trans HBb5.out.size (by simp)))); have HB6 := Lib.hid (show BG w6 w.heap.size f b from by first | exact HB5.out.below hb6 HB5.out.lt | exact (HB5.out.alloc _).below hb6 (Nat.lt_of_lt_of_le HB5.out.lt (by simp))); (first | have HP6 := Lib.hid (show Blk w6 wr.heap.size 108 #[.int .i64 0, .int .i64 0, .int .i64 0, .int .i64 0] from HP5.out.below hb6 HP5.out.lt) | (have HP6 := Lib.hid (show Blk w6 w5.heap.size 108 #[.int .i64 0, .int .i64 0, .int .i64 0, .int .i64 0] from (Blk.new w5 _ _).below hb6 (by simp))) | skip); try (have e0 := HP6.out.cell 0; have e1 := HP6.out.cell 1; have e2 := HP6.out.cell 2; have e3 := HP6.out.cell 3; have e4 := HP6.out.frozen 0; have e5 := HP6.out.frozen 1; have e6 := HP6.out.frozen 2; have e7 := HP6.out.frozen 3); clear hb6)))
        all_goals
          try clear e0 e1 e2 e3 e4 e5 e6 e7
          clear b0 b1 b2 b3 b4 b5 b6 b7 kk k8 C3 C6
          first
            | (have hP := pc_block (show Blk w6 wr.heap.size 108 #[.int .i64 0, .int .i64 0, .int .i64 0, .int .i64 0] from HP6.out) (.int .i64 x0) (.int .i64 x1) (.int .i64 x2) (.int .i64 n); have HP7 := Lib.hid hP; have HB7 := Lib.hid (((((HB6.out.far (p := ⟨wr.heap.size, 0, none⟩) (by show _ ≠ wr.heap.size; omega) (.int .i64 x0)).far (p := ⟨wr.heap.size, 1, none⟩) (by show _ ≠ wr.heap.size; omega) (.int .i64 x1)).far (p := ⟨wr.heap.size, 2, none⟩) (by show _ ≠ wr.heap.size; omega) (.int .i64 x2)).far (p := ⟨wr.heap.size, 3, none⟩) (by show _ ≠ wr.heap.size; omega) (.int .i64 n))); have HBb7 := Lib.hid (((((HBb6.out.setCell (p := ⟨wr.heap.size, 0, none⟩) (by show _ ≤ wr.heap.size; omega) (.int .i64 x0)).setCell (p := ⟨wr.heap.size, 1, none⟩) (by show _ ≤ wr.heap.size; omega) (.int .i64 x1)).setCell (p := ⟨wr.heap.size, 2, none⟩) (by show _ ≤ wr.heap.size; omega) (.int .i64 x2)).setCell (p := ⟨wr.heap.size, 3, none⟩) (by show _ ≤ wr.heap.size; omega) (.int .i64 n))); have s7 : w.heap.size + 1 ≤ w6.heap.size := by omega)
            | (have hP := pc_block (show Blk w6 w5.heap.size 108 #[.int .i64 0, .int .i64 0, .int .i64 0, .int .i64 0] from HP6.out) (.int .i64 x0) (.int .i64 x1) (.int .i64 x2) (.int .i64 n); have HP7 := Lib.hid hP; have HB7 := Lib.hid (((((HB6.out.far (p := ⟨w5.heap.size, 0, none⟩) (by show _ ≠ w5.heap.size; omega) (.int .i64 x0)).far (p := ⟨w5.heap.size, 1, none⟩) (by show _ ≠ w5.heap.size; omega) (.int .i64 x1)).far (p := ⟨w5.heap.size, 2, none⟩) (by show _ ≠ w5.heap.size; omega) (.int .i64 x2)).far (p := ⟨w5.heap.size, 3, none⟩) (by show _ ≠ w5.heap.size; omega) (.int .i64 n))); have HBb7 := Lib.hid (((((HBb6.out.setCell (p := ⟨w5.heap.size, 0, none⟩) (by show _ ≤ w5.heap.size; omega) (.int .i64 x0)).setCell (p := ⟨w5.heap.size, 1, none⟩) (by show _ ≤ w5.heap.size; omega) (.int .i64 x1)).setCell (p := ⟨w5.heap.size, 2, none⟩) (by show _ ≤ w5.heap.size; omega) (.int .i64 x2)).setCell (p := ⟨w5.heap.size, 3, none⟩) (by show _ ≤ w5.heap.size; omega) (.int .i64 n))); have s7 : w.heap.size + 1 ≤ w6.heap.size := by omega)
            | (have hP := Blk.new w6 108 #[.int .i64 x0, .int .i64 x1, .int .i64 x2, .int .i64 n]; have HP7 := Lib.hid hP; have HB7 := Lib.hid (HB6.out.alloc (.cells #[.int .i64 x0, .int .i64 x1, .int .i64 x2, .int .i64 n] 108)); have HBb7 := Lib.hid (HBb6.out.alloc HBb6.out.size (.cells #[.int .i64 x0, .int .i64 x1, .int .i64 x2, .int .i64 n] 108)); have s7 : w.heap.size + 1 ≤ w6.heap.size := by omega)
          have p0 := hP.cell 0
          have p1 := hP.cell 1
          have p2 := hP.cell 2
          have p3 := hP.cell 3
          have C7 := Lib.hid (C5.out x0 x1 x2 n _ HBb7.out)
          clear hP
          have HFF := Lib.hid (show fit3 x0 x1 x2 m = true ∨ fit3 x0 x1 x2 m = false from by cases fit3 x0 x1 x2 m <;> simp)
          by_cases hn : wk < n
          · have HNN := Lib.hid (HNO.out (by simp; omega))
            have hn2 : decide (n > wk) = true := by simp; omega
            go_wp2
            go_ret
            exact ⟨ret_bool HNN.out.symm, HBb7.out⟩
          · have hn2 : decide (n > wk) = false := by simp; omega
            have hn3 : decide (wk < n) = false := by simp; omega
            rcases HFF.out with hff | hff
            · rw [hff] at C7 HS
              have HS2 := Lib.hid (show fitK g m wk f b (k + 1) = true from by rw [HS.out]; simp; omega)
              clear HNO HS hff
              go_wp2_with fail
              with_reducible refine (C7.out).mono ?_
              rintro e w8 ⟨rfl, hb8⟩
              have s8 := hb8.size
              have HB8 := Lib.hid (HB7.out.below hb8 HB7.out.lt)
              have HBb8 := Lib.hid (HBb7.out.trans (hb8.mono HBb7.out.size))
              have s9 := HBb8.out.size
              have s10 := HB8.out.lt
              clear hb8
              go_wp2
              go_roundw
              case rel => exact ⟨k + 1, by omega, by go_num, HS2.out, HB8.out, HBb8.out, by omega⟩
              case measure => simp [intOf]; omega
            · rw [hff] at C7 HNO
              have HNN := Lib.hid (HNO.out (by simp))
              clear HS HNO hff
              go_wp2_with fail
              with_reducible refine (C7.out).mono ?_
              rintro e w8 ⟨rfl, hb8⟩
              have HBb8 := Lib.hid (HBb7.out.trans (hb8.mono HBb7.out.size))
              clear hb8
              go_wp2
              go_ret
              exact ⟨ret_bool HNN.out.symm, HBb8.out⟩
    · obtain rfl : k = g.length := by omega
      have HBb := Lib.hid hb
      have HQ := Lib.hid hfk
      clear hB hb hfk
      go_wp2
      go_ret
      exact ⟨ret_bool (by rw [← HE.out, HQ.out]), HBb.out⟩
end Go.Proofs.Ytihgakbopkaemaa
namespace Go.Proofs.Ytihgakbopkaemaa
open Go.RowKit
theorem bg_same {f f' : Nat → Int} {w : World} {a b : Nat} (h : BG w a f b) (e : bgA f b = bgA f' b) : BG w a f' b := by unfold BG at h ⊢; rw [← e]; exact h
theorem giZ_none {l : List Int} {k : Nat} (h : l.length ≤ k) : Bs.giZ l k = 0 := by unfold Bs.giZ; rw [List.getElem?_eq_none (by omega)]
/-- beginnings of the first k tasks -/
def bgTo (S : List Int) (k : Nat) : Nat → Int := fun i => if i < k then Bs.giZ S i else 0
theorem bgTo_zero (S : List Int) : bgA (bgTo S 0) (Bs.full 0) = bgA z8 0 := rfl
theorem bgTo_succ (S : List Int) (k : Nat) : Bs.upd (bgTo S k) k (Bs.giZ S k) = bgTo S (k + 1) := by
  funext i
  unfold Bs.upd bgTo
  by_cases h : i = k
  · subst h; simp
  · rw [if_neg h]
    by_cases h2 : i < k
    · rw [if_pos h2, if_pos (by omega)]
    · rw [if_neg h2, if_neg (by omega)]
theorem bgTo_all (S : List Int) : bgTo S S.length = Bs.giZ S := by
  funext i
  unfold bgTo
  split
  · rfl
  · rw [giZ_none (by omega)]
set_option maxHeartbeats 800000 in
theorem beginningsOf_any (A : Option Addr) (c : Nat) (S : List Int) (lo hi : Nat) (w : World) (h : RI w lo hi A S) (hh : hi ≤ w.heap.size) (hl : S.length ≤ 8) :
    Calls Try.prog 34 #[.slice A S.length c] w fun e w' => e = .returned (.agg (bgA (Bs.giZ S) (Bs.full S.length))) ∧ Below w.heap.size w w' := by
  have b2 := (BG.new w z8 0).alloc (.cells (bgA z8 0) 57)
  have b3 := BG.new (w.alloc (.cells (bgA z8 0) 57)) z8 0
  rw [show (w.alloc (.cells (bgA z8 0) 57)).heap.size = w.heap.size + 1 from by simp] at b3
  have hbl : Below w.heap.size w ((w.alloc (.cells (bgA z8 0) 57)).alloc (.cells (bgA z8 0) 57)) := ((Below.refl _ _).alloc (Nat.le_refl _) _).alloc (by simp) _
  have HB2 := Lib.hid b2
  have HB3 := Lib.hid b3
  have HBL := Lib.hid hbl
  have HE := Lib.hid (bgTo_all S)
  have HR := Lib.hid h
  rw [z8A] at HB2 HB3 HBL
  clear b2 b3 hbl h
  go_enter Try.func34, Try.ntmps34
  go_wp2
  go_loopw [9] (fun i wr => ∃ (k : Nat), k ≤ S.length ∧ i = .int .i64 k ∧ BG wr w.heap.size z8 0 ∧ BG wr (w.heap.size + 1) (bgTo S k) (Bs.full k) ∧ Below w.heap.size w wr) (fun i _ => S.length - (intOf i).toNat)
  case atStart => exact ⟨0, Nat.zero_le _, rfl, HB2.out, HB3.out, HBL.out⟩
  case round =>
    obtain ⟨k, hk, rfl, h2, h3, hb⟩ := hrel
    clear HB2 HB3 HBL
    by_cases hlt : k < S.length
    · obtain ⟨b, o, rfl, _, _, hc⟩ := (HR.out.below hb hh).at_ hlt
      have hf8 : Bs.full k < 256 := Bs.full_lt (by omega)
      have c1 := fun W => bgWith_any (bgTo S k) (Bs.full k) k S[k] W hf8 (by omega)
      rw [← Bs.giZ_at hlt, bgTo_succ, Bs.full_succ] at c1
      rw [← Bs.giZ_at hlt] at hc
      have C1 := Lib.hid c1
      have H2 := Lib.hid h2
      have H3 := Lib.hid h3
      have HB := Lib.hid hb
      have sb := h3.lt
      have sr := hb.size
      clear c1 h2 h3 hb
      go_wp2_with (first | (refine bg_load rfl _ rfl (w.heap.size + 1) (bgTo S k) (Bs.full k) rfl H3.out ?_))
      with_reducible refine (C1.out _).mono ?_
      rintro e w5 ⟨rfl, hb5⟩
      have H25 := Lib.hid (H2.out.below hb5 H2.out.lt)
      have H35 := Lib.hid (H3.out.below hb5 H3.out.lt)
      have HB5 := Lib.hid (HB.out.trans (hb5.mono HB.out.size))
      clear hb5 C1
      go_wp2_with (first | (refine bg_store rfl _ _ rfl (w.heap.size + 1) (bgTo S k) (bgTo S (k + 1)) (Bs.full k) (Bs.full (k + 1)) rfl rfl H35.out ?_; intro w9 h9 o9))
      have H9 := Lib.hid h9
      have H29 := Lib.hid (o9.bg H25.out (by omega))
      have HB9 := Lib.hid (HB5.out.trans (o9.below (Nat.le_succ _)))
      clear h9 o9
      go_roundw
      case rel => exact ⟨k + 1, by omega, by go_num, H29.out, H9.out, HB9.out⟩
      case measure => simp [intOf]; omega
    · obtain rfl : k = S.length := by omega
      rw [HE.out] at h3
      have H2 := Lib.hid h2
      have H3 := Lib.hid h3
      have HB := Lib.hid hb
      clear h2 h3 hb
      go_wp2_with (first
        | (refine bg_load rfl _ rfl (w.heap.size + 1) (Bs.giZ S) (Bs.full S.length) rfl H3.out ?_)
        | (refine bg_store rfl _ _ rfl w.heap.size z8 (Bs.giZ S) 0 (Bs.full S.length) rfl rfl H2.out ?_; intro w9 h9 o9))
      exact bodyPost_ret (bg_ret rfl _ _ w.heap.size (Bs.giZ S) (Bs.full S.length) rfl h9) rfl ⟨rfl, HB.out.trans (o9.below (Nat.le_refl _))⟩
theorem validClocks_any (A : Option Addr) (c : Nat) (g : List Bs.T) (A1 : Option Addr) (c1 : Nat) (S : List Int) (lo hi : Nat) (w : World) (h : RI w lo hi A1 S) (_hl : g.length ≤ 9223372036854775807) (hs : S.length ≤ 9223372036854775807) :
    Calls Try.prog 52 #[.slice A g.length c, .slice A1 S.length c1] w fun e w' => e = .returned (.bool (Bs.clkV g S)) ∧ w = w' := by
  have HE := Lib.hid (show Bs.clkV g S = (decide (S.length = g.length) && Bs.allInB S 0 200) from rfl)
  by_cases hlen : S.length = g.length
  · have HEE := Lib.hid (show Bs.clkV g S = Bs.allInB S 0 200 from by rw [HE.out]; simp [hlen])
    have HF := Lib.hid (fun k (hk : k < S.length) (hx : decide (0 ≤ S[k] ∧ S[k] ≤ 200) = false) => show Bs.allInB S 0 200 = false from Bs.all_false_at hk hx)
    have hq : ((S.length : Int) != (g.length : Int)) = false := by simp [hlen]
    have hq2 : (S.length != g.length) = false := by simp [hlen]
    clear hlen
    go_enter Try.func52, Try.ntmps52
    go_wp2
    go_loop [14] (fun i => ∃ k : Nat, k ≤ S.length ∧ i = .int .i64 k ∧ ∀ j (hj : j < S.length), j < k → 0 ≤ S[j] ∧ S[j] ≤ 200) (fun i => S.length - (intOf i).toNat)
    case atStart => exact ⟨0, Nat.zero_le _, rfl, by intro j _ h; omega⟩
    case round =>
      obtain ⟨k, hk, rfl, hall⟩ := hrel
      have HA := Lib.hid hall
      clear hall
      by_cases hlt : k < S.length
      · obtain ⟨b, o, rfl, _, _, hc⟩ := h.at_ hlt
        have HK := Lib.hid (HF.out k hlt)
        have HS := Lib.hid (fun (h1 : 0 ≤ S[k]) (h2 : S[k] ≤ 200) => show ∀ j (hj : j < S.length), j < k + 1 → 0 ≤ S[j] ∧ S[j] ≤ 200 from by
          intro j hj hjk
          by_cases e : j = k
          · subst e; exact ⟨h1, h2⟩
          · exact HA.out j hj (by omega))
        generalize S[k] = x at *
        by_cases h1 : x < 0
        · have HN := Lib.hid (HK.out (by simp; omega))
          go_wp2
          go_ret
          exact ⟨ret_bool (by rw [HEE.out, HN.out]), rfl⟩
        · by_cases h2 : x > 200
          · have HN := Lib.hid (HK.out (by simp; omega))
            go_wp2
            go_ret
            exact ⟨ret_bool (by rw [HEE.out, HN.out]), rfl⟩
          · have HN := Lib.hid (HS.out (by omega) (by omega))
            go_wp2
            go_round
            case rel => exact ⟨k + 1, by omega, by go_num, HN.out⟩
            case measure => simp [intOf]; omega
      · have HT := Lib.hid (show Bs.allInB S 0 200 = true from Bs.allInB_of (fun x hx => by
          obtain ⟨j, hj, rfl⟩ := List.mem_iff_getElem.1 hx
          exact HA.out j hj (by omega)))
        go_wp2
        go_ret
        exact ⟨ret_bool (by rw [HEE.out, HT.out]), rfl⟩
  · have HEE := Lib.hid (show Bs.clkV g S = false from by rw [HE.out]; simp [hlen])
    have hq : ((S.length : Int) != (g.length : Int)) = true := by simp; omega
    have hq2 : (S.length != g.length) = true := by simp [hlen]
    go_enter Try.func52, Try.ntmps52
    go_wp2
    go_ret
    exact ⟨ret_bool HEE.out.symm, rfl⟩
theorem canPlan_any (A : Option Addr) (c : Nat) (g : List Bs.T) (A1 : Option Addr) (c1 : Nat) (m : List Int) (wk : Int) (lo hi l1 h1 : Nat) (w : World) (h : RG w lo hi A g) (hh : hi ≤ w.heap.size) (hm : RI w l1 h1 A1 m) (hh1 : h1 ≤ w.heap.size) (hl : g.length ≤ 9223372036854775807) (hml : m.length ≤ 9223372036854775807) :
    Calls Try.prog 51 #[.slice A g.length c, .slice A1 m.length c1, .int .i64 wk] w fun e w' => e = .returned (.bool (Bs.canV g m wk)) ∧ Below w.heap.size w w' := by
  have q1 := ValidGraph_any A c g lo hi w h hh hl
  have q2 := fun W (hb : Below w.heap.size w W) => ValidRoom_same A1 c1 m l1 h1 W (hm.below hb hh1) hml
  have q3 := fun W => validWorkers_any wk W
  have HE := Lib.hid (show Bs.canV g m wk = (Bs.valid g && Bs.roomOk m && decide (1 ≤ wk ∧ wk ≤ 4)) from rfl)
  clear h hm
  generalize Bs.valid g = v1 at *
  generalize Bs.roomOk m = v2 at *
  generalize decide (1 ≤ wk ∧ wk ≤ 4) = v3 at *
  have C1 := Lib.hid q1
  have C2 := Lib.hid q2
  have C3 := Lib.hid q3
  clear q1 q2 q3
  cases v1
  · go_enter Try.func51, Try.ntmps51
    go_wp2_with fail
    with_reducible refine (C1.out).mono ?_
    rintro e w1 ⟨rfl, hb⟩
    have HB := Lib.hid hb
    clear hb
    go_wp2
    go_ret
    exact ⟨ret_bool (by rw [HE.out]; rfl), HB.out⟩
  · cases v2
    · go_enter Try.func51, Try.ntmps51
      go_wp2_with fail
      with_reducible refine (C1.out).mono ?_
      rintro e w1 ⟨rfl, hb⟩
      have HB := Lib.hid hb
      clear hb
      go_wp2_with fail
      with_reducible refine (C2.out _ HB.out).mono ?_
      rintro e w2 ⟨rfl, rfl⟩
      go_wp2
      go_ret
      exact ⟨ret_bool (by rw [HE.out]; rfl), HB.out⟩
    · go_enter Try.func51, Try.ntmps51
      go_wp2_with fail
      with_reducible refine (C1.out).mono ?_
      rintro e w1 ⟨rfl, hb⟩
      have HB := Lib.hid hb
      clear hb
      go_wp2_with fail
      with_reducible refine (C2.out _ HB.out).mono ?_
      rintro e w2 ⟨rfl, rfl⟩
      go_wp2_with fail
      with_reducible refine (C3.out _).mono ?_
      rintro e w2 ⟨rfl, rfl⟩
      go_wp2
      go_ret
      exact ⟨ret_bool (by rw [HE.out]; simp), HB.out⟩
end Go.Proofs.Ytihgakbopkaemaa
namespace Go.Proofs.Ytihgakbopkaemaa
open Go.RowKit
theorem needAll_no {g : List Bs.T} {m S : List Int} {wk : Int} {k : Nat} (hk : k < g.length) (h : Bs.needOkB g S k = false) : Bs.stV g m wk S = false := by
  unfold Bs.stV
  rw [Bs.stK_split, List.all_eq_false.2 ⟨k, by simp [hk], by simp [h]⟩]
  simp
theorem needAll_yes {g : List Bs.T} {m S : List Int} {wk : Int} (h1 : Bs.canV g m wk = true) (h2 : Bs.clkV g S = true) (h : ∀ k, k < g.length → Bs.needOkB g S k = true) : Bs.stV g m wk S = Bs.fitB g m wk (Bs.giZ S) (Bs.full g.length) := by
  rw [Bs.stV_yes h1 h2, Bs.stK_split, List.all_eq_true.2 (fun x hx => h x (by simpa using hx))]
  rfl
theorem giZ_b {g : List Bs.T} {S : List Int} (h : Bs.clkV g S = true) : ∀ i, i < 8 → 0 ≤ Bs.giZ S i ∧ Bs.giZ S i ≤ 100000 := fun i _ => by
  have := Bs.clk_at h i
  omega
set_option maxHeartbeats 1600000 in
theorem ValidStarts_any (A : Option Addr) (c : Nat) (g : List Bs.T) (A1 : Option Addr) (c1 : Nat) (m : List Int) (A2 : Option Addr) (c2 : Nat) (S : List Int) (wk : Int) (lo hi l1 h1 l2 h2 : Nat) (w : World) (h : RG w lo hi A g) (hh : hi ≤ w.heap.size) (hm : RI w l1 h1 A1 m) (hh1 : h1 ≤ w.heap.size) (hs : RI w l2 h2 A2 S) (hh2 : h2 ≤ w.heap.size) (hl : g.length ≤ 9223372036854775807) (hml : m.length ≤ 9223372036854775807) (hsl : S.length ≤ 9223372036854775807) :
    Calls Try.prog 24 #[.slice A g.length c, .slice A1 m.length c1, .int .i64 wk, .slice A2 S.length c2] w fun e w' => e = .returned (.bool (Bs.stV g m wk S)) ∧ Below w.heap.size w w' := by
  have q1 := canPlan_any A c g A1 c1 m wk lo hi l1 h1 w h hh hm hh1 hl hml
  cases hv : Bs.canV g m wk
  · rw [hv] at q1
    have C1 := Lib.hid q1
    have HV := Lib.hid (Bs.stV_no1 (S := S) hv)
    clear q1 hv h hm hs
    go_enter Try.func24, Try.ntmps24
    go_wp2_with fail
    with_reducible refine (C1.out).mono ?_
    rintro e w1 ⟨rfl, hb⟩
    have HB := Lib.hid hb
    clear hb
    go_wp2
    go_ret
    exact ⟨ret_bool HV.out.symm, HB.out⟩
  rw [hv] at q1
  have C1 := Lib.hid q1
  have q2 := fun W (hb : Below w.heap.size w W) => validClocks_any A c g A2 c2 S l2 h2 W (hs.below hb hh2) hl hsl
  cases hk : Bs.clkV g S
  · rw [hk] at q2
    have C2 := Lib.hid q2
    have HV := Lib.hid (Bs.stV_no2 (m := m) (wk := wk) hk)
    clear q1 q2 hv hk h hm hs
    go_enter Try.func24, Try.ntmps24
    go_wp2_with fail
    with_reducible refine (C1.out).mono ?_
    rintro e w1 ⟨rfl, hb⟩
    have HB := Lib.hid hb
    clear hb
    go_wp2_with fail
    with_reducible refine (C2.out _ HB.out).mono ?_
    rintro e w2 ⟨rfl, rfl⟩
    go_wp2
    go_ret
    exact ⟨ret_bool HV.out.symm, HB.out⟩
  rw [hk] at q2
  have C2 := Lib.hid q2
  obtain ⟨hval, hroom, _⟩ := Bs.canV_iff.1 hv
  have hF := valid_fine hval
  have h8 := Bs.fine_len hF
  have hm3 := Bs.roomOk_len hroom
  have hlen := Bs.clk_len hk
  have hfb := giZ_b hk
  have q3 := fun W (hb : Below w.heap.size w W) => beginningsOf_any A2 c2 S l2 h2 W (hs.below hb hh2) (Nat.le_trans hh2 hb.size) (by omega)
  rw [show Bs.full S.length = Bs.full g.length from by rw [hlen]] at q3
  have C3 := Lib.hid q3
  have q4 := fun (v : Nat) (hv : v < g.length) W (hb : Below w.heap.size w W) => needsOver_any (Bs.giZ S) (Bs.full g.length) A c g v lo hi W (h.below hb hh) (Nat.le_trans hh hb.size) hF hv hfb
  unfold bgA at q4
  have C4 := Lib.hid q4
  have C5 := Lib.hid (fun W (hb : Below w.heap.size w W) => bgFit_any (Bs.giZ S) (Bs.full g.length) A c g A1 c1 m wk lo hi l1 h1 W (h.below hb hh) (Nat.le_trans hh hb.size) (hm.below hb hh1) (Nat.le_trans hh1 hb.size) hF hm3 (Bs.full_lt h8) hfb)
  have HNO := Lib.hid (fun k hk h => needAll_no (g := g) (m := m) (S := S) (wk := wk) (k := k) hk h)
  have HYES := Lib.hid (fun h => needAll_yes (g := g) (m := m) (S := S) (wk := wk) hv hk h)
  have HNE := Lib.hid (fun k => Bs.needsOv_le (g := g) (S := S) (i := k) (Bs.clk_at hk k).1)
  have HI := Lib.hid hs
  clear q1 q2 q3 q4 hval hF hroom hm3 hfb h hm hs hv hk hl hml hsl
  have HLEN := Lib.hid hlen
  clear hlen
  go_enter Try.func24, Try.ntmps24
  go_wp2_with fail
  with_reducible refine (C1.out).mono ?_
  rintro e w1 ⟨rfl, hb⟩
  have HB := Lib.hid hb
  clear hb
  go_wp2_with fail
  with_reducible refine (C2.out _ HB.out).mono ?_
  rintro e w2 ⟨rfl, rfl⟩
  go_wp2_with fail
  with_reducible refine (C3.out _ HB.out).mono ?_
  rintro e w3 ⟨rfl, hb3⟩
  have HB3 := Lib.hid (HB.out.trans (hb3.mono HB.out.size))
  have hz3 := BG.new w3 z8 0
  have ha3 := HB3.out.alloc HB3.out.size (.cells (bgA z8 0) 57)
  rw [z8A] at hz3 ha3
  have HZ3 := Lib.hid hz3
  have HAZ3 := Lib.hid ha3
  have s3 := HB3.out.size
  clear hb3 C1 C2 C3 hz3 ha3
  go_wp2_with (first | (refine bg_store rfl _ _ rfl w3.heap.size z8 (Bs.giZ S) 0 (Bs.full g.length) rfl rfl HZ3.out ?_; intro w4 h4 o4))
  have HN3 := Lib.hid h4
  have HA3 := Lib.hid (HAZ3.out.trans (o4.below s3))
  clear h4 o4
  go_loopw [26] (fun i wr => ∃ (k : Nat), k ≤ g.length ∧ i = .int .i64 k ∧ (∀ j, j < k → Bs.needOkB g S j = true) ∧ BG wr w3.heap.size (Bs.giZ S) (Bs.full g.length) ∧ Below w.heap.size w wr) (fun i _ => g.length - (intOf i).toNat)
  case atStart => exact ⟨0, Nat.zero_le _, rfl, by intro j hj; omega, HN3.out, HA3.out⟩
  case round =>
    obtain ⟨k, hk, rfl, hall, hB, hb⟩ := hrel
    clear HN3 HA3
    have HALL := Lib.hid hall
    clear hall
    by_cases hlt : k < g.length
    · obtain ⟨b, o, rfl, _, hbh, hc⟩ := (HI.out.below hb hh2).at_ (show k < S.length by have := HLEN.out; omega)
      have hks : (k : Int) < (S.length : Int) := by have := HLEN.out; omega
      have hgz := Bs.giZ_at (show k < S.length by omega)
      rw [← hgz] at hc
      have hne := HNE.out k
      have HNOk := Lib.hid (HNO.out k hlt)
      have c0 := hB.at_ (i := 0) (by omega)
      have c1 := hB.at_ (i := 1) (by omega)
      have c2 := hB.at_ (i := 2) (by omega)
      have c3 := hB.at_ (i := 3) (by omega)
      have c4 := hB.at_ (i := 4) (by omega)
      have c5 := hB.at_ (i := 5) (by omega)
      have c6 := hB.at_ (i := 6) (by omega)
      have c7 := hB.at_ (i := 7) (by omega)
      have c8 := hB.b
      have HX0 := Lib.hid (show Below w.heap.size w wr.drew from hb.drewN 1)
      have C6 := Lib.hid (C4.out k hlt _ HX0.out)
      have HB0 := Lib.hid hB
      have HBb := Lib.hid hb
      have sr := hb.size
      have i0 : (0 : Int) ≤ (k : Int) := by omega
      have i1 : (k : Int) < (g.length : Int) := by omega
      have hbw : b < wr.heap.size := by omega
      clear hB hb hgz C4 HNE HNO
      generalize Bs.needsOv g (Bs.giZ S) k = nv at *
      obtain ⟨sk, hsk⟩ : ∃ sk, sk = Bs.giZ S k := ⟨_, rfl⟩
      rw [← hsk] at hc hne
      have HNK := Lib.hid hne
      clear hne hsk
      go_wp2_with fail
      go_region_law (go_simp; (go_at_call 53; (with_reducible refine (C6.out).mono ?_); rintro e w5 ⟨rfl, hb5⟩; have hc5 : w5.cell? ⟨b, o + k, none⟩ = some (.int .i64 sk) := (hb5.cell (p := ⟨b, o + k, none⟩) hbw).trans hc; have HBb5 := Lib.hid (HX0.out.trans (hb5.mono HX0.out.size)); have HB5 := Lib.hid ((HB0.out.drewN 1).below hb5 HB0.out.lt); clear hb5))
      all_goals
        clear c0 c1 c2 c3 c4 c5 c6 c7 c8 hc hc5 C6
        by_cases hn : sk < nv
        · have HNN := Lib.hid (HNOk.out (by rw [HNK.out]; simp; omega))
          have hn2 : decide (sk < nv) = true := by simp [hn]
          go_wp2
          go_ret
          exact ⟨ret_bool HNN.out.symm, HBb5.out⟩
        · have HNN := Lib.hid (show ∀ j, j < k + 1 → Bs.needOkB g S j = true from by
            intro j hj
            by_cases e : j = k
            · subst e; rw [HNK.out]; simp; omega
            · exact HALL.out j (by omega))
          have hn2 : decide (sk < nv) = false := by simp; omega
          go_wp2
          go_roundw
          case rel => exact ⟨k + 1, by omega, by go_num, HNN.out, HB5.out, HBb5.out⟩
          case measure => simp [intOf]; omega
    · obtain rfl : k = g.length := by omega
      have HQ := Lib.hid (HYES.out HALL.out)
      have HB0 := Lib.hid hB
      have HBb := Lib.hid hb
      have C6 := Lib.hid (C5.out _ hb)
      clear hB hb HYES HNO HNE C4 C5
      go_wp2_with (first | (refine bg_load rfl _ rfl w3.heap.size (Bs.giZ S) (Bs.full g.length) rfl HB0.out ?_))
      with_reducible refine (C6.out).mono ?_
      rintro e w5 ⟨rfl, hb5⟩
      have HBb5 := Lib.hid (HBb.out.trans (hb5.mono HBb.out.size))
      clear hb5
      go_wp2
      go_ret
      exact ⟨ret_bool HQ.out.symm, HBb5.out⟩
end Go.Proofs.Ytihgakbopkaemaa
namespace Go.Proofs.Ytihgakbopkaemaa
open Go.RowKit
set_option maxHeartbeats 800000 in
theorem EndTime_any (A : Option Addr) (c : Nat) (g : List Bs.T) (A1 : Option Addr) (c1 : Nat) (m : List Int) (A2 : Option Addr) (c2 : Nat) (S : List Int) (wk : Int) (lo hi l1 h1 l2 h2 : Nat) (w : World) (h : RG w lo hi A g) (hh : hi ≤ w.heap.size) (hm : RI w l1 h1 A1 m) (hh1 : h1 ≤ w.heap.size) (hs : RI w l2 h2 A2 S) (hh2 : h2 ≤ w.heap.size) (hl : g.length ≤ 9223372036854775807) (hml : m.length ≤ 9223372036854775807) (hsl : S.length ≤ 9223372036854775807) :
    Calls Try.prog 26 #[.slice A g.length c, .slice A1 m.length c1, .int .i64 wk, .slice A2 S.length c2] w fun e w' => e = .returned (.int .i64 (Bs.endT g m wk S)) ∧ Below w.heap.size w w' := by
  have q1 := ValidStarts_any A c g A1 c1 m A2 c2 S wk lo hi l1 h1 l2 h2 w h hh hm hh1 hs hh2 hl hml hsl
  cases hv : Bs.stV g m wk S
  · rw [hv] at q1
    have C1 := Lib.hid q1
    have HV := Lib.hid (Bs.endT_no hv)
    clear q1 hv h hm hs
    go_enter Try.func26, Try.ntmps26
    go_wp2_with fail
    with_reducible refine (C1.out).mono ?_
    rintro e w1 ⟨rfl, hb⟩
    have HB := Lib.hid hb
    clear hb
    go_wp2
    go_ret
    exact ⟨ret_int HV.out.symm, HB.out⟩
  rw [hv] at q1
  have C1 := Lib.hid q1
  have HV := Lib.hid (show Bs.endT g m wk S = Bs.endK g S g.length from Bs.endT_yes hv)
  obtain ⟨hcan, hk, _⟩ := Bs.stV_iff.1 hv
  have hF := valid_fine (Bs.canV_iff.1 hcan).1
  have h8 := Bs.fine_len hF
  have hlen := Bs.clk_len hk
  have hfb := giZ_b hk
  have q3 := fun W (hb : Below w.heap.size w W) => beginningsOf_any A2 c2 S l2 h2 W (hs.below hb hh2) (Nat.le_trans hh2 hb.size) (by omega)
  rw [show Bs.full S.length = Bs.full g.length from by rw [hlen]] at q3
  have C3 := Lib.hid q3
  have C4 := Lib.hid (fun (v : Nat) (hv : v < g.length) W (hb : Below w.heap.size w W) => over_any (Bs.giZ S) (Bs.full g.length) A c g v lo hi W (h.below hb hh) (Nat.le_trans hh hb.size) hF hv hfb)
  have HT := Lib.hid (fun i => Bs.time_b hF i)
  have HFB := Lib.hid hfb
  clear q1 q3 hF hfb h hm hs hv hk hl hml hsl hcan
  have HLEN := Lib.hid hlen
  clear hlen
  go_enter Try.func26, Try.ntmps26
  go_wp2_with fail
  with_reducible refine (C1.out).mono ?_
  rintro e w1 ⟨rfl, hb⟩
  have HB := Lib.hid hb
  clear hb
  go_wp2_with fail
  with_reducible refine (C3.out _ HB.out).mono ?_
  rintro e w3 ⟨rfl, hb3⟩
  have HB3 := Lib.hid (HB.out.trans (hb3.mono HB.out.size))
  have hz3 := BG.new w3 z8 0
  have ha3 := HB3.out.alloc HB3.out.size (.cells (bgA z8 0) 57)
  rw [z8A] at hz3 ha3
  have HZ3 := Lib.hid hz3
  have HAZ3 := Lib.hid ha3
  have s3 := HB3.out.size
  clear hb3 C1 C3 hz3 ha3
  go_wp2_with (first | (refine bg_store rfl _ _ rfl w3.heap.size z8 (Bs.giZ S) 0 (Bs.full g.length) rfl rfl HZ3.out ?_; intro w4 h4 o4))
  have HN3 := Lib.hid h4
  have HA3 := Lib.hid (HAZ3.out.trans (o4.below s3))
  clear h4 o4
  go_loopw [10, 22] (fun s i wr => ∃ (k : Nat) (t : Int), k ≤ g.length ∧ s = .int .i64 t ∧ i = .int .i64 k ∧ t = Bs.endK g S k ∧ BG wr w3.heap.size (Bs.giZ S) (Bs.full g.length) ∧ Below w.heap.size w wr) (fun _ i _ => g.length - (intOf i).toNat)
  case atStart => exact ⟨0, 0, Nat.zero_le _, rfl, rfl, rfl, HN3.out, HA3.out⟩
  case round =>
    obtain ⟨k, t, hk, rfl, rfl, ht, hB, hb⟩ := hrel
    clear HN3 HA3
    by_cases hlt : k < g.length
    · have C6 := Lib.hid (C4.out k hlt wr hb)
      have hsu := Bs.endK_succ g S k
      rw [← ht] at hsu
      have HS := Lib.hid (show Bs.endK g S (k + 1) = max t (Bs.giZ S k + Bs.timeOf g k) from hsu)
      have HB0 := Lib.hid hB
      have HBb := Lib.hid hb
      clear hsu hB hb ht C4
      generalize Bs.giZ S k + Bs.timeOf g k = y at *
      go_wp2_with (first | (refine bg_load rfl _ rfl w3.heap.size (Bs.giZ S) (Bs.full g.length) rfl HB0.out ?_))
      with_reducible refine (C6.out).mono ?_
      rintro e w5 ⟨rfl, hb5⟩
      have HB5 := Lib.hid (HB0.out.below hb5 HB0.out.lt)
      have HBb5 := Lib.hid (HBb.out.trans (hb5.mono HBb.out.size))
      clear hb5 C6
      go_wp2_with fail
      with_reducible refine (laterOf_any t y _).mono ?_
      rintro e w6 ⟨rfl, rfl⟩
      go_wp2
      go_roundw
      case rel => exact ⟨k + 1, max t y, by omega, rfl, by go_num, HS.out.symm, HB5.out, HBb5.out⟩
      case measure => simp [intOf]; omega
    · obtain rfl : k = g.length := by omega
      have HQ := Lib.hid (show t = Bs.endT g m wk S from by rw [HV.out, ht])
      have HBb := Lib.hid hb
      clear hB hb ht
      go_wp2
      go_ret
      exact ⟨ret_int HQ.out, HBb.out⟩
set_option maxHeartbeats 800000 in
theorem RunningAt_any (A : Option Addr) (c : Nat) (g : List Bs.T) (A1 : Option Addr) (c1 : Nat) (m : List Int) (A2 : Option Addr) (c2 : Nat) (S : List Int) (wk now : Int) (lo hi l1 h1 l2 h2 : Nat) (w : World) (h : RG w lo hi A g) (hh : hi ≤ w.heap.size) (hm : RI w l1 h1 A1 m) (hh1 : h1 ≤ w.heap.size) (hs : RI w l2 h2 A2 S) (hh2 : h2 ≤ w.heap.size) (hl : g.length ≤ 9223372036854775807) (hml : m.length ≤ 9223372036854775807) (hsl : S.length ≤ 9223372036854775807) :
    Calls Try.prog 22 #[.slice A g.length c, .slice A1 m.length c1, .int .i64 wk, .slice A2 S.length c2, .int .i64 now] w (RetI w (Bs.runL g m wk S now)) := by
  have q1 := ValidStarts_any A c g A1 c1 m A2 c2 S wk lo hi l1 h1 l2 h2 w h hh hm hh1 hs hh2 hl hml hsl
  cases hv : Bs.stV g m wk S
  · rw [hv] at q1
    have C1 := Lib.hid q1
    have HV := Lib.hid (Bs.runL_no (now := now) hv)
    clear q1 hv h hm hs
    go_enter Try.func22, Try.ntmps22
    go_wp2_with fail
    with_reducible refine (C1.out).mono ?_
    rintro e w1 ⟨rfl, hb⟩
    have HB := Lib.hid hb
    clear hb
    go_wp2
    go_ret
    exact RetI.nil HB.out HV.out
  rw [hv] at q1
  have C1 := Lib.hid q1
  have HV := Lib.hid (Bs.runL_yes (now := now) hv)
  obtain ⟨hcan, hk, _⟩ := Bs.stV_iff.1 hv
  have hF := valid_fine (Bs.canV_iff.1 hcan).1
  have h8 := Bs.fine_len hF
  have hlen := Bs.clk_len hk
  have hfb := giZ_b hk
  have q3 := fun W (hb : Below w.heap.size w W) => beginningsOf_any A2 c2 S l2 h2 W (hs.below hb hh2) (Nat.le_trans hh2 hb.size) (by omega)
  rw [show Bs.full S.length = Bs.full g.length from by rw [hlen]] at q3
  have C3 := Lib.hid q3
  have q4 := fun W (hb : Below w.heap.size w W) => bgRunning_any (Bs.giZ S) (Bs.full g.length) A c g now lo hi W (h.below hb hh) (Nat.le_trans hh hb.size) hF (Bs.full_lt h8) hfb
  rw [Bs.runB_full] at q4
  have C4 := Lib.hid q4
  clear q1 q3 q4 hF hfb h hm hs hv hk hl hml hsl hcan hlen
  go_enter Try.func22, Try.ntmps22
  go_wp2_with fail
  with_reducible refine (C1.out).mono ?_
  rintro e w1 ⟨rfl, hb⟩
  have HB := Lib.hid hb
  have s1 := hb.size
  clear hb
  go_wp2_with fail
  with_reducible refine (C3.out _ HB.out).mono ?_
  rintro e w3 ⟨rfl, hb3⟩
  have HB3 := Lib.hid (HB.out.trans (hb3.mono HB.out.size))
  have s3 := HB3.out.size
  clear hb3 C1 C3
  go_wp2_with fail
  with_reducible refine (C4.out _ HB3.out).mono ?_
  rintro e w5 ⟨⟨A5, c5, rfl, ho5⟩, hb5⟩
  have HO5 := Lib.hid (ho5.base s3)
  have HB5 := Lib.hid (HB3.out.trans (hb5.mono s3))
  clear ho5 hb5
  go_wp2
  go_ret
  rw [HV.out]
  exact ⟨⟨A5, c5, rfl, HO5.out⟩, HB5.out⟩
end Go.Proofs.Ytihgakbopkaemaa
