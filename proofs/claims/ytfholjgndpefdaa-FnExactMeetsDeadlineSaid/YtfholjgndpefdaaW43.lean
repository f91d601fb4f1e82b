/-
  WALKS: the heap of ready tasks, of the program: a whole heap out of and into memory.
-/
import Derived.Test.YtfholjgndpefdaaW42
namespace Go.Proofs.Ytfholjgndpefdaa
open Go.RowKit
theorem OnlyB.hb {b g : Nat} {f : Nat → Int × Int} {n : Int} {w w' : World} (h : OnlyB b w w') (hb : HB w g f n) (hne : g ≠ b) : HB w' g f n := (h.far g hne).trans hb
theorem hpSize : (Try.prog.info? 109).map (·.size) = some 17 := by kernel_rfl
theorem hp_load {ops : Array Oper} {rest : List Oper} {o : Oper} {a : Act} {w : World} {Q : Exit → Act → World → Prop} (hgd : o.guard = none) (x : Operand) (ho : o.op = .load 109 x)
    (b : Nat) (f : Nat → Int × Int) (n : Int) (hx : a.eval x = .pointer (some ⟨b, 0, none⟩)) (hb : HB w b f n) (h : wpList Try.prog ops Q rest (a.put o.dst (.agg (hpA f n))) w) : wpList Try.prog ops Q (o :: rest) a w :=
  wpList_load_row hgd 109 x ho b hx 109 (hpA f n) (0, 0) _ hb Try.underlying109 rfl hpSize h
theorem setRow_only (w : World) (b : Nat) (f f' : Nat → Int × Int) (n n' : Int) (hb : HB w b f n) : HB (w.setRow b (hpA f' n')) b f' n' ∧ OnlyB b w (w.setRow b (hpA f' n')) := by
  refine ⟨setRow_heap w b _ _ _ _ hb, rfl, rfl, rfl, by simp, fun k hk => setRow_other w b k _ hk⟩
theorem hpOne (f : Nat → Int × Int) (n : Int) : (hpA f n).all (·.oneCell') = true := by simp [hpA, Value.oneCell']
theorem hp_store {ops : Array Oper} {rest : List Oper} {o : Oper} {a : Act} {w : World} {Q : Exit → Act → World → Prop} (hgd : o.guard = none) (x y : Operand) (ho : o.op = .store 109 x y)
    (b : Nat) (f f' : Nat → Int × Int) (n n' : Int) (hx : a.eval x = .pointer (some ⟨b, 0, none⟩)) (hy : a.eval y = .agg (hpA f' n')) (hb : HB w b f n)
    (h : ∀ w', HB w' b f' n' → OnlyB b w w' → wpList Try.prog ops Q rest (a.put o.dst undef) w') : wpList Try.prog ops Q (o :: rest) a w :=
  wpList_store_row hgd 109 x y ho b (hpA f' n') hx hy 109 (hpA f n) hb hpSize rfl (hpOne _ _) (h _ (setRow_only w b f f' n n' hb).1 (setRow_only w b f f' n n' hb).2)
theorem hp_ret {fn : Func} {p : Tmp} (h : fn.results = #[.cell p 109]) (tmps : Array Value) (w : World) (g : Nat) (f : Nat → Int × Int) (n : Int) (hp : tmps.getD p undef = .pointer (some ⟨g, 0, none⟩)) (hg : HB w g f n) :
    (results fn tmps).run Try.prog w = .ok (.agg (hpA f n)) w :=
  results_cell_row h tmps w g 109 _ (0, 0) _ hp hg Try.underlying109 rfl hpSize
theorem HB.fst0 {w : World} {b : Nat} {f : Nat → Int × Int} {n : Int} (h : HB w b f n) : w.cell? ⟨b, 0, none⟩ = some (.int .i64 (f 0).1) := h.fst (i := 0) (by omega)
theorem HB.snd0 {w : World} {b : Nat} {f : Nat → Int × Int} {n : Int} (h : HB w b f n) : w.cell? ⟨b, 1, none⟩ = some (.int .i64 (f 0).2) := h.snd (i := 0) (by omega)
theorem HB.setP0 {w : World} {b : Nat} {f : Nat → Int × Int} {n : Int} (h : HB w b f n) (x : Int × Int) : HB ((w.setCell ⟨b, 0, none⟩ (.int .i64 x.1)).setCell ⟨b, 1, none⟩ (.int .i64 x.2)) b (Bs.upd f 0 x) n := h.setP (i := 0) (by omega) x
theorem upd_in {f : Nat → Int × Int} {p : Nat} {x : Int × Int} (hf : ∀ i, i < 8 → 0 ≤ (f i).1 ∧ (f i).1 < 8) (hx : 0 ≤ x.1 ∧ x.1 < 8) : ∀ i, i < 8 → 0 ≤ (Bs.upd f p x i).1 ∧ (Bs.upd f p x i).1 < 8 := by
  intro i hi
  unfold Bs.upd
  split
  · exact hx
  · exact hf i hi
def zp : Nat → Int × Int := fun _ => (0, 0)
set_option maxHeartbeats 1600000 in
theorem with_any (f : Nat → Int × Int) (n : Nat) (t : Int × Int) (hf : ∀ i, i < 8 → 0 ≤ (f i).1 ∧ (f i).1 < 8) (ht : 0 ≤ t.1 ∧ t.1 < 8) (hH : Bs.Heap f n) (hn : n < 8) (w : World) :
    Calls Try.prog 119 #[.agg (hpA f n), .agg #[.int .i64 t.1, .int .i64 t.2]] w fun e w' => (∃ M, e = .returned (.agg (hpA M ((n : Int) + 1))) ∧ Bs.Heap M (n + 1) ∧ Bs.Rel (n + 1) (Bs.upd f n t) M ∧ ∀ i, i < 8 → 0 ≤ (M i).1 ∧ (M i).1 < 8) ∧ Below w.heap.size w w' := by
  have b2 := HB.new w f ((n : Int) + 1)
  have b3 := Blk.new (w.alloc (.cells (hpA f ((n : Int) + 1)) 109)) 106 #[.int .i64 t.1, .int .i64 t.2]
  rw [show (w.alloc (.cells (hpA f ((n : Int) + 1)) 109)).heap.size = w.heap.size + 1 from by simp] at b3
  have b4 := HB.new ((w.alloc (.cells (hpA f ((n : Int) + 1)) 109)).alloc (.cells #[.int .i64 t.1, .int .i64 t.2] 106)) zp 0
  rw [show ((w.alloc (.cells (hpA f ((n : Int) + 1)) 109)).alloc (.cells #[.int .i64 t.1, .int .i64 t.2] 106)).heap.size = w.heap.size + 1 + 1 from by simp] at b4
  replace b2 := (b2.alloc (.cells #[.int .i64 t.1, .int .i64 t.2] 106)).alloc (.cells (hpA zp 0) 109)
  replace b3 := b3.alloc (.cells (hpA zp 0) 109)
  have hbl : Below w.heap.size w (((w.alloc (.cells (hpA f ((n : Int) + 1)) 109)).alloc (.cells #[.int .i64 t.1, .int .i64 t.2] 106)).alloc (.cells (hpA zp 0) 109)) := (((Below.refl _ _).alloc (Nat.le_refl _) _).alloc (by simp) _).alloc (by simp; omega) _
  have HB2 := Lib.hid b2
  have HB3 := Lib.hid b3
  have HB4 := Lib.hid b4
  have HBL := Lib.hid hbl
  have kB := ((HB.new w f n).alloc (.cells #[.int .i64 t.1, .int .i64 t.2] 106)).alloc (.cells (hpA zp 0) 109)
  have kA := kB.n
  have fA := kB.frozen 16
  have hz : hpA zp 0 = #[.int .i64 0, .int .i64 0, .int .i64 0, .int .i64 0, .int .i64 0, .int .i64 0, .int .i64 0, .int .i64 0, .int .i64 0, .int .i64 0, .int .i64 0, .int .i64 0, .int .i64 0, .int .i64 0, .int .i64 0, .int .i64 0, .int .i64 0] := rfl
  rw [hz] at kA fA
  clear kB
  clear b2 b3 b4 hbl
  go_enter Try.func119, Try.ntmps119
  go_wp2_with fail
  rw [hpA_size_set]
  go_loopw [5] (fun i wr => ∃ (p : Nat) (f' : Nat → Int × Int), i = .int .i64 p ∧ HB wr w.heap.size f' ((n : Int) + 1) ∧ Blk wr (w.heap.size + 1) 106 #[.int .i64 t.1, .int .i64 t.2] ∧ HB wr (w.heap.size + 1 + 1) zp 0 ∧ Below w.heap.size w wr ∧ Bs.Up f' (n + 1) p t ∧ Bs.Rel (n + 1) (Bs.upd f n t) (Bs.upd f' p t) ∧ ∀ i, i < 8 → 0 ≤ (f' i).1 ∧ (f' i).1 < 8) (fun i _ => (intOf i).toNat)
  case atStart => exact ⟨n, f, rfl, HB2.out, HB3.out, HB4.out, HBL.out, Bs.Up.start hH t, Bs.Rel.refl _ _, hf⟩
  case round =>
    clear kA fA hz
    obtain ⟨p, f', rfl, h2, h3, h4, hb, hup, hrel, hf'⟩ := hrel
    have hpn := hup.lt
    have HU := Lib.hid hup
    have HR := Lib.hid hrel
    have HF := Lib.hid hf'
    have H2 := Lib.hid h2
    have H3 := Lib.hid h3
    have H4 := Lib.hid h4
    have HB := Lib.hid hb
    have j0 : wr.cell? ⟨w.heap.size + 1, 0, none⟩ = some (.int .i64 t.1) := h3.cell 0
    have j1 : wr.cell? ⟨w.heap.size + 1, 1, none⟩ = some (.int .i64 t.2) := h3.cell 1
    have sb3 := h3.lt
    have sb2 := h2.lt
    by_cases hp : 0 < p
    · obtain ⟨q, hq⟩ : ∃ q, q = Bs.par p := ⟨_, rfl⟩
      have hqp : q < p := by rw [hq]; exact Bs.par_lt hp
      have hq8 : q < 8 := by omega
      have kq0 := h2.fst hq8
      have kq1 := h2.snd hq8
      have c1 := fun W => takenBefore_any t (f' q) ht (hf' q hq8) W
      have e1 : ((p : Int) - 1) / 2 = (q : Int) := by rw [hq]; unfold Bs.par; omega
      have e2 : Int.tdiv ((p : Int) - 1) 2 = (q : Int) := by rw [Int.tdiv_eq_ediv_of_nonneg (by omega)]; exact e1
      have p0 : (0 : Int) < (p : Int) := by omega
      have p8 : (p : Int) < 8 := by omega
      have i0 : (0 : Int) ≤ (q : Int) := by omega
      have i1 : (q : Int) < 8 := by omega
      have hp8 : p < 8 := by omega
      have sb4 := h4.lt
      have sr := hb.size
      have HW := Lib.hid (show IntKind.i64.wrap ((IntKind.i64.wrap ((p : Int) - 1)).tdiv 2) = (q : Int) from by rw [IntWalk.i64_in ((p : Int) - 1) (by omega), e2]; exact IntWalk.i64_in _ (by omega))
      have hqe := Lib.hid hq
      clear h2 h3 h4 hb hup hrel hf' hq
      cases hk : decide (Bs.keyP t < Bs.keyP (f' q))
      · rw [hk] at c1
        have C1 := Lib.hid c1
        have HK := Lib.hid hk
        clear c1 hk
        go_wp2_with fail
        have hw := HW.out
        go_region_held3 (fun w' => w'.cell? ⟨w.heap.size + 1, 0, none⟩ = some (.int .i64 t.1) ∧ w'.cell? ⟨w.heap.size + 1, 1, none⟩ = some (.int .i64 t.2) ∧ w'.cell? ⟨w.heap.size, q * 2, none⟩ = some (.int .i64 (f' q).1) ∧ w'.cell? ⟨w.heap.size, q * 2 + 1, none⟩ = some (.int .i64 (f' q).2))
          (first | go_keep | (go_split_ands; refine ⟨?_, ?_, ?_, ?_⟩; (exact (hb5.cell (p := ⟨w.heap.size + 1, 0, none⟩) sb3).trans j0); (exact (hb5.cell (p := ⟨w.heap.size + 1, 1, none⟩) sb3).trans j1); (exact (hb5.cell (p := ⟨w.heap.size, q * 2, none⟩) sb2).trans kq0); (exact (hb5.cell (p := ⟨w.heap.size, q * 2 + 1, none⟩) sb2).trans kq1)))
          (first | (go_at_call 125; (with_reducible refine (C1.out _).mono ?_); rintro e w5 ⟨rfl, hb5⟩))
        clear hw
        have HB5 := Lib.hid (((Below.refl _ wr).drewN 1).trans hb5)
        clear hb5 kq0 kq1
        have h2' := H2.out.below HB5.out sb2
        have m0 := h2'.fst hp8
        have m1 := h2'.snd hp8
        have g0 := h2'.frozen (p * 2)
        have g1 := h2'.frozen (p * 2 + 1)
        have j0 := (HB5.out.cell (p := ⟨w.heap.size + 1, 0, none⟩) sb3).trans j0
        have j1 := (HB5.out.cell (p := ⟨w.heap.size + 1, 1, none⟩) sb3).trans j1
        have HP := Lib.hid (h2'.setP hp8 t)
        have HZ := Lib.hid (((H4.out.below HB5.out sb4).far (p := ⟨w.heap.size, p * 2, none⟩) (by show _ ≠ w.heap.size; omega) (.int .i64 t.1)).far (p := ⟨w.heap.size, p * 2 + 1, none⟩) (by show _ ≠ w.heap.size; omega) (.int .i64 t.2))
        have HS := Lib.hid (((HB.out.trans (HB5.out.mono sr)).setCell (p := ⟨w.heap.size, p * 2, none⟩) (Nat.le_refl _) (.int .i64 t.1)).setCell (p := ⟨w.heap.size, p * 2 + 1, none⟩) (Nat.le_refl _) (.int .i64 t.2))
        clear h2' H2 H3 H4
        go_wp2_with (first | (refine hp_load rfl _ rfl w.heap.size (Bs.upd f' p t) ((n : Int) + 1) rfl HP.out ?_) | (refine hp_store rfl _ _ rfl (w.heap.size + 1 + 1) zp (Bs.upd f' p t) 0 ((n : Int) + 1) rfl rfl HZ.out ?_; intro w9 h9 o9))
        refine bodyPost_ret (hp_ret rfl _ _ (w.heap.size + 1 + 1) (Bs.upd f' p t) ((n : Int) + 1) rfl h9) rfl ⟨⟨_, rfl, HU.out.stop ?_, HR.out, upd_in HF.out ht⟩, HS.out.trans (o9.below (by omega))⟩
        intro _
        rw [← hqe.out]
        have := HK.out
        simpa using this
      · rw [hk] at c1
        have C1 := Lib.hid c1
        have HK := Lib.hid hk
        clear c1 hk
        go_wp2_with fail
        have hw := HW.out
        go_region_held3 (fun w' => w'.cell? ⟨w.heap.size + 1, 0, none⟩ = some (.int .i64 t.1) ∧ w'.cell? ⟨w.heap.size + 1, 1, none⟩ = some (.int .i64 t.2) ∧ w'.cell? ⟨w.heap.size, q * 2, none⟩ = some (.int .i64 (f' q).1) ∧ w'.cell? ⟨w.heap.size, q * 2 + 1, none⟩ = some (.int .i64 (f' q).2))
          (first | go_keep | (go_split_ands; refine ⟨?_, ?_, ?_, ?_⟩; (exact (hb5.cell (p := ⟨w.heap.size + 1, 0, none⟩) sb3).trans j0); (exact (hb5.cell (p := ⟨w.heap.size + 1, 1, none⟩) sb3).trans j1); (exact (hb5.cell (p := ⟨w.heap.size, q * 2, none⟩) sb2).trans kq0); (exact (hb5.cell (p := ⟨w.heap.size, q * 2 + 1, none⟩) sb2).trans kq1)))
          (first | (go_at_call 125; (with_reducible refine (C1.out _).mono ?_); rintro e w5 ⟨rfl, hb5⟩))
        clear hw
        have HB5 := Lib.hid (((Below.refl _ wr).drewN 1).trans hb5)
        have h2' := H2.out.below HB5.out sb2
        have kq0 := h2'.fst hq8
        have kq1 := h2'.snd hq8
        have m0 := h2'.fst hp8
        have m1 := h2'.snd hp8
        have g0 := h2'.frozen (p * 2)
        have g1 := h2'.frozen (p * 2 + 1)
        have HP := Lib.hid (h2'.setP hp8 (f' q))
        have HQ := Lib.hid ((((H3.out.below HB5.out sb3).far (p := ⟨w.heap.size, p * 2, none⟩) (by show _ ≠ w.heap.size; omega) (.int .i64 (f' q).1)).far (p := ⟨w.heap.size, p * 2 + 1, none⟩) (by show _ ≠ w.heap.size; omega) (.int .i64 (f' q).2)))
        have HZ := Lib.hid (((H4.out.below HB5.out sb4).far (p := ⟨w.heap.size, p * 2, none⟩) (by show _ ≠ w.heap.size; omega) (.int .i64 (f' q).1)).far (p := ⟨w.heap.size, p * 2 + 1, none⟩) (by show _ ≠ w.heap.size; omega) (.int .i64 (f' q).2))
        have HS := Lib.hid (((HB.out.trans (HB5.out.mono sr)).setCell (p := ⟨w.heap.size, p * 2, none⟩) (Nat.le_refl _) (.int .i64 (f' q).1)).setCell (p := ⟨w.heap.size, p * 2 + 1, none⟩) (Nat.le_refl _) (.int .i64 (f' q).2))
        clear h2' H2 H3 H4 hb5
        go_wp2
        go_roundw
        case rel =>
          refine ⟨q, Bs.upd f' p (f' q), rfl, HP.out, HQ.out, HZ.out, HS.out, ?_, ?_, upd_in HF.out (HF.out q hq8)⟩
          · rw [hqe.out]
            exact HU.out.step hp (by have := HK.out; rw [hqe.out] at this; simpa using this)
          · have := HR.out.swap (HU.out.swap hp)
            rw [← hqe.out] at this
            exact this
        case measure => simp [intOf]; omega
    · obtain rfl : p = 0 := by omega
      have hp8 : 0 < 8 := by omega
      have sb4 := h4.lt
      have sr := hb.size
      clear h2 h3 h4 hb hup hrel hf'
      go_wp2_with fail
      go_quiet (fail)
      have HB5 := Lib.hid ((Below.refl wr.heap.size wr).drewN nq)
      have h2' := H2.out.below HB5.out sb2
      have m0 := h2'.fst0
      have m1 := h2'.snd0
      have g0 := h2'.frozen 0
      have g1 := h2'.frozen 1
      have j0 := (HB5.out.cell (p := ⟨w.heap.size + 1, 0, none⟩) sb3).trans j0
      have j1 := (HB5.out.cell (p := ⟨w.heap.size + 1, 1, none⟩) sb3).trans j1
      have HP := Lib.hid (h2'.setP0 t)
      have HZ := Lib.hid (((H4.out.below HB5.out sb4).far (p := ⟨w.heap.size, 0, none⟩) (by show _ ≠ w.heap.size; omega) (.int .i64 t.1)).far (p := ⟨w.heap.size, 1, none⟩) (by show _ ≠ w.heap.size; omega) (.int .i64 t.2))
      have HS := Lib.hid (((HB.out.trans (HB5.out.mono sr)).setCell (p := ⟨w.heap.size, 0, none⟩) (Nat.le_refl _) (.int .i64 t.1)).setCell (p := ⟨w.heap.size, 1, none⟩) (Nat.le_refl _) (.int .i64 t.2))
      clear h2' H2 H3 H4
      go_wp2_with (first | (refine hp_load rfl _ rfl w.heap.size (Bs.upd f' 0 t) ((n : Int) + 1) rfl HP.out ?_) | (refine hp_store rfl _ _ rfl (w.heap.size + 1 + 1) zp (Bs.upd f' 0 t) 0 ((n : Int) + 1) rfl rfl HZ.out ?_; intro w9 h9 o9))
      refine bodyPost_ret (hp_ret rfl _ _ (w.heap.size + 1 + 1) (Bs.upd f' 0 t) ((n : Int) + 1) rfl h9) rfl ⟨⟨_, rfl, HU.out.stop ?_, HR.out, upd_in HF.out ht⟩, HS.out.trans (o9.below (by omega))⟩
      intro h
      exact absurd h (Nat.lt_irrefl 0)
end Go.Proofs.Ytfholjgndpefdaa
