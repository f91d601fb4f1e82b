/-
  WALKS: plans of the program: who is admitted now.
-/
import Derived.Test.YtfholjgndpefdaaW82
import Derived.Test.YtfholjgndpefdaaW45
import Derived.Test.YtfholjgndpefdaaW41
import Derived.Test.YtfholjgndpefdaaK14
import Derived.Test.YtfholjgndpefdaaK1
namespace Go.Proofs.Ytfholjgndpefdaa
open Go.RowKit
theorem psZero : psA 0 z8 0 0 zP 0 = #[.int .i64 0, .int .i64 0, .int .i64 0, .int .i64 0, .int .i64 0, .int .i64 0, .int .i64 0, .int .i64 0, .int .i64 0, .int .u64 0, .int .u64 0, .int .i64 0, .int .i64 0, .int .i64 0, .int .i64 0, .int .i64 0, .int .i64 0, .int .i64 0, .int .i64 0, .int .i64 0, .int .i64 0, .int .i64 0, .int .i64 0, .int .i64 0, .int .i64 0, .int .i64 0, .int .i64 0, .int .i64 0] := rfl
theorem onlyB_cell (w : World) (b o : Nat) (v : Value) : OnlyB b w (w.setCell ⟨b, o, none⟩ v) := ⟨rfl, rfl, rfl, by simp, fun k hk => heap_setCell_other w ⟨b, o, none⟩ k v hk⟩
theorem onlyB_trans {b : Nat} {w w' w'' : World} (h : OnlyB b w w') (k : OnlyB b w' w'') : OnlyB b w w'' := ⟨k.os.trans h.os, k.tape.trans h.tape, k.output.trans h.output, k.size.trans h.size, fun x hx => (k.far x hx).trans (h.far x hx)⟩
theorem onlyB_cells {a : Nat} : ∀ (vs : List Value) (k : Nat) (w : World), OnlyB a w (w.setCells a k vs) := by
  intro vs
  induction vs with
  | nil => intro k w; exact ⟨rfl, rfl, rfl, rfl, fun _ _ => rfl⟩
  | cons v r ih => intro k w; exact onlyB_trans (onlyB_cell w a k v) (ih (k + 1) _)
theorem ps_setPlan2 {w : World} {ops : Array Oper} {rest : List Oper} {op : Oper} {c : Act} {Q : Exit → Act → World → Prop} (hgd : op.guard = none) (x y : Operand) (ho : op.op = .store 73 x y) (a : Nat) (t : Int) (f f' : Nat → Int) (b b' o : Nat) (h : Nat → Int × Int) (n : Int) (hx : c.eval x = .pointer (some ⟨a, 1, none⟩)) (hy : c.eval y = .agg (bgA f' b')) (hb : PS w a t f b o h n)
    (hk : ∀ w', PS w' a t f' b' o h n → OnlyB a w w' → wpList Try.prog ops Q rest (c.put op.dst undef) w') : wpList Try.prog ops Q (op :: rest) c w :=
  ps_setPlan hgd x y ho a t f f' b b' o h n hx hy hb (hk _ (hb.setPlan f' b') (onlyB_cells _ _ _))
theorem ps_setEnds2 {w : World} {ops : Array Oper} {rest : List Oper} {op : Oper} {c : Act} {Q : Exit → Act → World → Prop} (hgd : op.guard = none) (x y : Operand) (ho : op.op = .store 78 x y) (a : Nat) (t : Int) (f : Nat → Int) (b o : Nat) (h h' : Nat → Int × Int) (n n' : Int) (hx : c.eval x = .pointer (some ⟨a, 11, none⟩)) (hy : c.eval y = .agg (hpA h' n')) (hb : PS w a t f b o h n)
    (hk : ∀ w', PS w' a t f b o h' n' → OnlyB a w w' → wpList Try.prog ops Q rest (c.put op.dst undef) w') : wpList Try.prog ops Q (op :: rest) c w :=
  ps_setEnds hgd x y ho a t f b o h h' n n' hx hy hb (hk _ (hb.setEnds h' n') (onlyB_cells _ _ _))
theorem filter_takeN {q : Int → Bool} {l : List Int} {k : Nat} (hk : k < l.length) : (l.take (k + 1)).filter q = (l.take k).filter q ++ (if q l[k] then [l[k]] else []) := by
  rw [List.take_succ_eq_append_getElem hk, List.filter_append]
  by_cases h : q l[k] <;> simp [h]
theorem ordL_in {g : List Bs.T} {d : List Int} {x : Int} (hF : Bs.fine g = true) (h : x ∈ Bs.ordL g d) : 0 ≤ x ∧ x < g.length := by
  unfold Bs.ordL at h
  split at h
  · exact Bs.ready_in (((Bs.ord_ok hF).2 x).1 h)
  · cases h
theorem ordL_len {g : List Bs.T} {d : List Int} (hF : Bs.fine g = true) : (Bs.ordL g d).length ≤ g.length := by
  unfold Bs.ordL
  split
  · rw [Bs.ord_len hF]; exact Bs.readyC_len _ _
  · simp
set_option maxRecDepth 20000 in
set_option maxHeartbeats 1600000 in
theorem admitted_any (t : Int) (f : Nat → Int) (b o : Nat) (h : Nat → Int × Int) (n : Int) (A : Option Addr) (c : Nat) (g : List Bs.T) (A1 : Option Addr) (c1 : Nat) (m : List Int) (wk : Int) (lo hi l1 h1 : Nat) (w : World) (hg : RG w lo hi A g) (hh : hi ≤ w.heap.size) (hm : RI w l1 h1 A1 m) (hh1 : h1 ≤ w.heap.size) (hF : Bs.fine g = true) (hb8 : b < 256) (ho8 : o < 256) (hf : ∀ i, i < 8 → 0 ≤ f i ∧ f i ≤ 100000) (hml : m.length ≤ 9223372036854775807) :
    Calls Try.prog 68 #[.agg (psA t f b o h n), .slice A g.length c, .slice A1 m.length c1, .int .i64 wk] w (RetI w (Bs.admL g m (Bs.runB g f b t) ((Bs.ordL g (Bs.pick 8 fun i => o.testBit i)).filter fun x => !b.testBit x.toNat) wk)) := by
  have hgl := Bs.fine_len hF
  obtain ⟨PA, hPA⟩ : ∃ PA, PA = psA t f b o h n := ⟨_, rfl⟩
  have p0 := PS.new w t f b o h n
  have hbl := (Below.refl w.heap.size w).alloc (Nat.le_refl _) (.cells PA 80)
  rw [← hPA] at p0
  have HP := Lib.hid (p0.alloc (.cells #[] 3))
  have HB := Lib.hid (hbl.alloc (by simp) (.cells #[] 3))
  have HZ := Lib.hid (OI.new (w.alloc (.cells PA 80)) (w.heap.size + 1) (by simp))
  have hsz : (w.alloc (.cells PA 80)).heap.size = w.heap.size + 1 := by simp
  have CL := Lib.hid (fun W => listOf_any o W ho8)
  have CO := Lib.hid (fun (A' : Option Addr) (c' : Nat) (l2 h2 : Nat) W (hb : Below w.heap.size w W) (hd : RI W l2 h2 A' (Bs.pick 8 fun i => o.testBit i)) (hh2 : h2 ≤ W.heap.size) (hdl : (Bs.pick 8 fun i => o.testBit i).length ≤ 8) => ReadyOrder_any A c g A' c' (Bs.pick 8 fun i => o.testBit i) lo hi l2 h2 W (hg.below hb hh) (Nat.le_trans hh hb.size) hd hh2 (by omega) (by omega))
  have CR := Lib.hid (fun W (hb : Below w.heap.size w W) => bgRunning_any f b A c g t lo hi W (hg.below hb hh) (Nat.le_trans hh hb.size) hF hb8 hf)
  have CA := Lib.hid (fun (r l : List Int) (A2 : Option Addr) (c2 : Nat) (l2 h2 : Nat) (A3 : Option Addr) (c3 : Nat) (l3 h3 : Nat) W (hb : Below w.heap.size w W) (hr : RI W l2 h2 A2 r) (hh2 : h2 ≤ W.heap.size) (hl : RI W l3 h3 A3 l) (hh3 : h3 ≤ W.heap.size) (hrl : r.length ≤ 8) (hll : l.length ≤ 8) => AdmitTasks_any A c g A1 c1 m A2 c2 r A3 c3 l wk lo hi l1 h1 l2 h2 l3 h3 W (hg.below hb hh) (Nat.le_trans hh hb.size) (hm.below hb hh1) (Nat.le_trans hh1 hb.size) hr hh2 hl hh3 (by omega) hml (by omega) (by omega))
  have HINR := Lib.hid (fun (x : Int) (hx : x ∈ Bs.ordL g (Bs.pick 8 fun i => o.testBit i)) => ordL_in hF hx)
  have HOL := Lib.hid (ordL_len (d := Bs.pick 8 fun i => o.testBit i) hF)
  have HRL := Lib.hid (Bs.runB_len g f b t)
  have HPL := Lib.hid (Bs.pick_len 8 fun i => o.testBit i)
  have HT := Lib.hid (fun (x : Nat) (hx : x < 8) W => hasTask_any b x W hb8 hx)
  rw [← hPA]
  clear p0 hbl hg hm hF hPA
  generalize Bs.pick 8 (fun i => o.testBit i) = D at *
  generalize Bs.ordL g D = R at *
  generalize Bs.runB g f b t = RU at *
  go_enter Try.func68, Try.ntmps68
  have k10 := HP.out.over
  go_wp2_with fail
  with_reducible refine (CL.out _).mono ?_
  rintro e w2 ⟨⟨A2, c2, rfl, ho2⟩, hb2⟩
  have HP2 := Lib.hid (HP.out.below hb2 HP.out.lt)
  have HB2 := Lib.hid (HB.out.trans (hb2.mono HB.out.size))
  have HZ2 := Lib.hid (HZ.out.below hb2 (Nat.le_refl _))
  have HR2 := Lib.hid ho2.ri
  have s2 := hb2.size
  rw [World.size_alloc, hsz] at s2
  clear ho2 hb2 HP HB HZ CL k10
  have C3 := Lib.hid (CO.out A2 c2 _ _ w2 HB2.out HR2.out (Nat.le_refl _) HPL.out)
  clear CO HR2
  go_wp2_with fail
  with_reducible refine (C3.out).mono ?_
  rintro e w3 ⟨⟨A3, c3, rfl, ho3⟩, hb3⟩
  have HP3 := Lib.hid (HP2.out.below hb3 HP2.out.lt)
  have HB3 := Lib.hid (HB2.out.trans (hb3.mono HB2.out.size))
  have HZ3 := Lib.hid (HZ2.out.below hb3 (Nat.le_refl _))
  have HR3 := Lib.hid ho3.ri
  have s3 := hb3.size
  have hol := HOL.out
  clear ho3 hb3 HP2 HB2 HZ2 C3
  rw [hsz] at HZ3
  go_wp2
  go_loopw [9, 19] (fun vo i wr => ∃ (k : Nat) (A' : Option Addr) (c' : Nat) (q : List Int), k ≤ R.length ∧ vo = .slice A' q.length c' ∧ i = .int .i64 k ∧ q = (R.take k).filter (fun x => !b.testBit x.toNat) ∧ OZ wr w3.heap.size A' c' q ∧ RI wr w2.heap.size w3.heap.size A3 R ∧ PS wr w.heap.size t f b o h n ∧ Below w.heap.size w wr ∧ w3.heap.size ≤ wr.heap.size) (fun _ i _ => R.length - (intOf i).toNat)
  case atStart => exact ⟨0, _, _, [], Nat.zero_le _, rfl, rfl, by simp, .inl ⟨rfl, rfl⟩, HR3.out, HP3.out, HB3.out, Nat.le_refl _⟩
  case round =>
    clear HR3 HP3 HB3 HZ3
    obtain ⟨k, A5, c5, q, hk, rfl, rfl, hq, hO, hRI, hP, hb, hs5⟩ := hrel
    by_cases hklt : k < R.length
    · obtain ⟨br, or_, rfl, _, hbr, hcr⟩ := hRI.at_ hklt
      have hx := HINR.out _ (List.getElem_mem hklt)
      have hft := filter_takeN (q := fun x => !b.testBit x.toNat) hklt
      rw [← hq] at hft
      have hql : q.length ≤ k := by rw [hq]; have := List.length_filter_le (fun x => !b.testBit x.toNat) (R.take k); rw [List.length_take] at this; omega
      obtain ⟨x, hxv⟩ : ∃ x : Nat, R[k] = (x : Int) := ⟨R[k].toNat, by omega⟩
      rw [hxv] at hx hcr hft
      rw [Int.toNat_natCast] at hft
      have c6 := fun W => HT.out x (by omega) W
      have k9 := hP.begun
      have HO := Lib.hid hO
      have HRr := Lib.hid hRI
      have HPr := Lib.hid hP
      have HBb := Lib.hid hb
      have HQL := Lib.hid hql
      have sr := hb.size
      have i0 : (0 : Int) ≤ (k : Int) := by omega
      have i1 : (k : Int) < (R.length : Int) := by omega
      clear hq hO hRI hP hb hql hxv HT CR CA
      cases hbt : b.testBit x
      · rw [hbt] at hft c6
        simp only [Bool.not_false, if_true] at hft
        have HFT := Lib.hid hft.symm
        have C6 := Lib.hid c6
        clear hft c6 hbt
        have HO2 := Lib.hid (HO.out.alloc (.cells #[.int .i64 (x : Int)] 3))
        have HP2 := Lib.hid (HPr.out.alloc (.cells #[.int .i64 (x : Int)] 3))
        have HBb2 := Lib.hid (HBb.out.alloc HBb.out.size (.cells #[.int .i64 (x : Int)] 3))
        have slt := HPr.out.lt
        go_wp2_with fail
        with_reducible refine (C6.out _).mono ?_
        rintro e _ ⟨rfl, rfl⟩
        go_wp2_with (first
          | (at_builtin; refine push_z rfl _ _ rfl w3.heap.size A5 c5 q (x : Int) rfl HO2.out wr.heap.size 1 rfl (by simp [go_sem]) (by have := HQL.out; omega) (by simp; omega) ?_; intro A6 c6 w6 ho6 hb6; have HO6 := Lib.hid ho6; have HP6 := Lib.hid (HP2.out.below hb6 (by omega)); have HBb6 := Lib.hid (HBb2.out.trans (hb6.mono (by omega))); have HR6 := Lib.hid ((HRr.out.below ((Below.refl w3.heap.size wr).alloc hs5 (.cells #[.int .i64 (x : Int)] 3)) (Nat.le_refl _)).below hb6 (Nat.le_refl _)); have s6 := hb6.size; rw [World.size_alloc] at s6; clear ho6 hb6))
        go_roundw
        case rel => exact ⟨k + 1, A6, c6, q ++ [(x : Int)], by omega, by rw [List.length_append]; rfl, by go_num, HFT.out, .inr HO6.out, HR6.out, HP6.out, HBb6.out, by omega⟩
        case measure => simp [intOf]; omega
      · rw [hbt] at hft c6
        simp only [Bool.not_true, Bool.false_eq_true, if_false, List.append_nil] at hft
        have HFT := Lib.hid hft.symm
        have C6 := Lib.hid c6
        clear hft c6 hbt
        go_wp2_with fail
        with_reducible refine (C6.out _).mono ?_
        rintro e _ ⟨rfl, rfl⟩
        go_wp2
        go_roundw
        case rel => exact ⟨k + 1, A5, c5, q, by omega, rfl, by go_num, HFT.out, HO.out, HRr.out, HPr.out, HBb.out, hs5⟩
        case measure => simp [intOf]; omega
    · obtain rfl : k = R.length := by omega
      rw [List.take_length] at hq
      have hql : q.length ≤ 8 := by rw [hq]; have := List.length_filter_le (fun x => !b.testBit x.toNat) R; omega
      have HQL := Lib.hid hql
      have HQE := Lib.hid hq.symm
      have HQ := Lib.hid hO.ri
      have HPr := Lib.hid hP
      have HBb := Lib.hid hb
      have C5 := Lib.hid (CR.out wr hb)
      have k0 := hP.now
      have s5 := hb.size
      clear hO hRI hP hb hq hql HT HINR CR
      go_wp2_with (first | (refine ps_plan rfl _ rfl w.heap.size t f b o h n rfl HPr.out ?_))
      with_reducible refine (C5.out).mono ?_
      rintro e w6 ⟨⟨A6, c6, rfl, ho6⟩, hb6⟩
      have s6 := hb6.size
      have C7 := Lib.hid (CA.out RU q A6 c6 _ _ A5 c5 _ _ w6 (HBb.out.trans (hb6.mono s5)) ho6.ri (Nat.le_refl _) (HQ.out.below hb6 (Nat.le_refl _)) s6 (by have := HRL.out; omega) HQL.out)
      have HB6 := Lib.hid (HBb.out.trans (hb6.mono s5))
      clear ho6 hb6 C5 CA HQ HPr HBb k0
      go_wp2_with fail
      with_reducible refine (C7.out).mono ?_
      rintro e w8 ⟨⟨A8, c8, rfl, ho8⟩, hb8⟩
      have HO8 := Lib.hid (ho8.base (B' := w.heap.size) (by have := HB6.out.size; omega))
      have HB8 := Lib.hid (HB6.out.trans (hb8.mono HB6.out.size))
      clear ho8 hb8 C7
      go_wp2
      go_ret
      rw [HQE.out]
      exact ⟨⟨A8, c8, rfl, HO8.out⟩, HB8.out⟩
end Go.Proofs.Ytfholjgndpefdaa
