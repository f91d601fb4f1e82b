/-
  MERGED TEXTS: W83 W84 W85.
-/
import Derived.Test.YtihgakbopkaemaaK33
import Derived.Test.YtihgakbopkaemaaK35
import Derived.Test.YtihgakbopkaemaaW41
import Derived.Test.YtihgakbopkaemaaK14
import Derived.Test.YtihgakbopkaemaaK1
import Derived.Test.YtihgakbopkaemaaMath112
import Derived.Deep.RegionHeld
import Derived.Deep.CutRange
namespace Go.Proofs.Ytihgakbopkaemaa
open Go.RowKit
theorem psZero : psA 0 z8 0 0 zP 0 = #[.int .i64 0, .int .i64 0, .int .i64 0, .int .i64 0, .int .i64 0, .int .i64 0, .int .i64 0, .int .i64 0, .int .i64 0, .int .u64 0, .int .u64 0, .int .i64 0, .int .i64 0, .int .i64 0, .int .i64 0, .int .i64 0, .int .i64 0, .int .i64 0, .int .i64 0, .int .i64 0, .int .i64 0, .int .i64 0, .int .i64 0, .int .i64 0, .int .i64 0, .int .i64 0, .int .i64 0, .int .i64 0] := rfl
theorem onlyB_cell (w : World) (b o : Nat) (v : Value) : OnlyB b w (w.setCell ⟨b, o, none⟩ v) := ⟨rfl, rfl, rfl, by simp, fun k hk => heap_setCell_other w ⟨b, o, none⟩ k v hk⟩
theorem onlyB_trans {b : Nat} {w w' w'' : World} (h : OnlyB b w w') (k : OnlyB b w' w'') : OnlyB b w w'' := ⟨k.os.trans h.os, k.tape.trans h.tape, k.output.trans h.output, k.size.trans h.size, fun x hx => (k.far x hx).trans (h.far x hx)⟩
theorem onlyB_cells {a : Nat} : ∀ (vs : List Value) (k : Nat) (w : World), OnlyB a w (w.setCells a k vs) := by
  intro vs
  induction vs with
  | nil => intro k w; exact ⟨rfl, rfl, rfl, rfl, fun _ _ => rfl⟩
  | cons v r ih => intro k w; exact onlyB_trans (onlyB_cell w a k v) (ih (k + 1) _)
theorem ps_setPlan2 {w : World} {ops : Array Oper} {rest : List Oper} {op : Oper} {c : Act} {Q : Exit → Act → World → Prop} (hgd : op.guard = none) (x y : Operand) (ho : op.op = .store 57 x y) (a : Nat) (t : Int) (f f' : Nat → Int) (b b' o : Nat) (h : Nat → Int × Int) (n : Int) (hx : c.eval x = .pointer (some ⟨a, 1, none⟩)) (hy : c.eval y = .agg (bgA f' b')) (hb : PS w a t f b o h n)
    (hk : ∀ w', PS w' a t f' b' o h n → OnlyB a w w' → wpList Try.prog ops Q rest (c.put op.dst undef) w') : wpList Try.prog ops Q (op :: rest) c w :=
  ps_setPlan hgd x y ho a t f f' b b' o h n hx hy hb (hk _ (hb.setPlan f' b') (onlyB_cells _ _ _))
theorem ps_setEnds2 {w : World} {ops : Array Oper} {rest : List Oper} {op : Oper} {c : Act} {Q : Exit → Act → World → Prop} (hgd : op.guard = none) (x y : Operand) (ho : op.op = .store 86 x y) (a : Nat) (t : Int) (f : Nat → Int) (b o : Nat) (h h' : Nat → Int × Int) (n n' : Int) (hx : c.eval x = .pointer (some ⟨a, 11, none⟩)) (hy : c.eval y = .agg (hpA h' n')) (hb : PS w a t f b o h n)
    (hk : ∀ w', PS w' a t f b o h' n' → OnlyB a w w' → wpList Try.prog ops Q rest (c.put op.dst undef) w') : wpList Try.prog ops Q (op :: rest) c w :=
  ps_setEnds hgd x y ho a t f b o h h' n n' hx hy hb (hk _ (hb.setEnds h' n') (onlyB_cells _ _ _))
theorem filter_takeN {q : Int → Bool} {l : List Int} {k : Nat} (hk : k < l.length) : (l.take (k + 1)).filter q = (l.take k).filter q ++ (if q l[k] then [l[k]] else []) := by
  rw [List.take_succ_eq_append_getElem hk, List.filter_append]
  by_cases h : q l[k] <;> simp [h]
theorem ordL_in {g : List Bs.T} {d : List Int} {x : Int} (hF : Bs.fine g = true) (h : x ∈ Bs.ordL g d) : 0 ≤ x ∧ x < g.length := by
  unfold Bs.ordL at h
  split at h
  · exact Bs.ready_in (((Bs.ord_ok hF).2 x).1 h)
  · cases h
theorem ordL_len {g : List Bs.T} {d : List Int} (hF : Bs.fine g = true) : (Bs.ordL g d).length ≤ g.length := by
  unfold Bs.ordL
  split
  · rw [Bs.ord_len hF]; exact Bs.readyC_len _ _
  · simp
set_option maxRecDepth 20000 in
set_option maxHeartbeats 1600000 in
theorem admitted_any (t : Int) (f : Nat → Int) (b o : Nat) (h : Nat → Int × Int) (n : Int) (A : Option Addr) (c : Nat) (g : List Bs.T) (A1 : Option Addr) (c1 : Nat) (m : List Int) (wk : Int) (lo hi l1 h1 : Nat) (w : World) (hg : RG w lo hi A g) (hh : hi ≤ w.heap.size) (hm : RI w l1 h1 A1 m) (hh1 : h1 ≤ w.heap.size) (hF : Bs.fine g = true) (hb8 : b < 256) (ho8 : o < 256) (hf : ∀ i, i < 8 → 0 ≤ f i ∧ f i ≤ 100000) (hml : m.length ≤ 9223372036854775807) :
    Calls Try.prog 65 #[.agg (psA t f b o h n), .slice A g.length c, .slice A1 m.length c1, .int .i64 wk] w (RetI w (Bs.admL g m (Bs.runB g f b t) ((Bs.ordL g (Bs.pick 8 fun i => o.testBit i)).filter fun x => !b.testBit x.toNat) wk)) := by
  have hgl := Bs.fine_len hF
  obtain ⟨PA, hPA⟩ : ∃ PA, PA = psA t f b o h n := ⟨_, rfl⟩
  have p0 := PS.new w t f b o h n
  have hbl := (Below.refl w.heap.size w).alloc (Nat.le_refl _) (.cells PA 88)
  rw [← hPA] at p0
  have HP := Lib.hid (p0.alloc (.cells #[] 3))
  have HB := Lib.hid (hbl.alloc (by simp) (.cells #[] 3))
  have HZ := Lib.hid (OI.new (w.alloc (.cells PA 88)) (w.heap.size + 1) (by simp))
  have hsz : (w.alloc (.cells PA 88)).heap.size = w.heap.size + 1 := by simp
  have CL := Lib.hid (fun W => listOf_any o W ho8)
  have CO := Lib.hid (fun (A' : Option Addr) (c' : Nat) (l2 h2 : Nat) W (hb : Below w.heap.size w W) (hd : RI W l2 h2 A' (Bs.pick 8 fun i => o.testBit i)) (hh2 : h2 ≤ W.heap.size) (hdl : (Bs.pick 8 fun i => o.testBit i).length ≤ 8) => ReadyOrder_any A c g A' c' (Bs.pick 8 fun i => o.testBit i) lo hi l2 h2 W (hg.below hb hh) (Nat.le_trans hh hb.size) hd hh2 (by omega) (by omega))
  have CR := Lib.hid (fun W (hb : Below w.heap.size w W) => bgRunning_any f b A c g t lo hi W (hg.below hb hh) (Nat.le_trans hh hb.size) hF hb8 hf)
  have CA := Lib.hid (fun (r l : List Int) (A2 : Option Addr) (c2 : Nat) (l2 h2 : Nat) (A3 : Option Addr) (c3 : Nat) (l3 h3 : Nat) W (hb : Below w.heap.size w W) (hr : RI W l2 h2 A2 r) (hh2 : h2 ≤ W.heap.size) (hl : RI W l3 h3 A3 l) (hh3 : h3 ≤ W.heap.size) (hrl : r.length ≤ 8) (hll : l.length ≤ 8) => AdmitTasks_any A c g A1 c1 m A2 c2 r A3 c3 l wk lo hi l1 h1 l2 h2 l3 h3 W (hg.below hb hh) (Nat.le_trans hh hb.size) (hm.below hb hh1) (Nat.le_trans hh1 hb.size) hr hh2 hl hh3 (by omega) hml (by omega) (by omega))
  have HINR := Lib.hid (fun (x : Int) (hx : x ∈ Bs.ordL g (Bs.pick 8 fun i => o.testBit i)) => ordL_in hF hx)
  have HOL := Lib.hid (ordL_len (d := Bs.pick 8 fun i => o.testBit i) hF)
  have HRL := Lib.hid (Bs.runB_len g f b t)
  have HPL := Lib.hid (Bs.pick_len 8 fun i => o.testBit i)
  have HT := Lib.hid (fun (x : Nat) (hx : x < 8) W => hasTask_any b x W hb8 hx)
  rw [← hPA]
  clear p0 hbl hg hm hF hPA
  generalize Bs.pick 8 (fun i => o.testBit i) = D at *
  generalize Bs.ordL g D = R at *
  generalize Bs.runB g f b t = RU at *
  go_enter Try.func65, Try.ntmps65
  have k10 := HP.out.over
  go_wp2_with fail
  with_reducible refine (CL.out _).mono ?_
  rintro e w2 ⟨⟨A2, c2, rfl, ho2⟩, hb2⟩
  have HP2 := Lib.hid (HP.out.below hb2 HP.out.lt)
  have HB2 := Lib.hid (HB.out.trans (hb2.mono HB.out.size))
  have HZ2 := Lib.hid (HZ.out.below hb2 (Nat.le_refl _))
  have HR2 := Lib.hid ho2.ri
  have s2 := hb2.size
  rw [World.size_alloc, hsz] at s2
  clear ho2 hb2 HP HB HZ CL k10
  have C3 := Lib.hid (CO.out A2 c2 _ _ w2 HB2.out HR2.out (Nat.le_refl _) HPL.out)
  clear CO HR2
  go_wp2_with fail
  with_reducible refine (C3.out).mono ?_
  rintro e w3 ⟨⟨A3, c3, rfl, ho3⟩, hb3⟩
  have HP3 := Lib.hid (HP2.out.below hb3 HP2.out.lt)
  have HB3 := Lib.hid (HB2.out.trans (hb3.mono HB2.out.size))
  have HZ3 := Lib.hid (HZ2.out.below hb3 (Nat.le_refl _))
  have HR3 := Lib.hid ho3.ri
  have s3 := hb3.size
  have hol := HOL.out
  clear ho3 hb3 HP2 HB2 HZ2 C3
  rw [hsz] at HZ3
  go_wp2
  go_loopw [9, 19] (fun vo i wr => ∃ (k : Nat) (A' : Option Addr) (c' : Nat) (q : List Int), k ≤ R.length ∧ vo = .slice A' q.length c' ∧ i = .int .i64 k ∧ q = (R.take k).filter (fun x => !b.testBit x.toNat) ∧ OZ wr w3.heap.size A' c' q ∧ RI wr w2.heap.size w3.heap.size A3 R ∧ PS wr w.heap.size t f b o h n ∧ Below w.heap.size w wr ∧ w3.heap.size ≤ wr.heap.size) (fun _ i _ => R.length - (intOf i).toNat)
  case atStart => exact ⟨0, _, _, [], Nat.zero_le _, rfl, rfl, by simp, .inl ⟨rfl, rfl⟩, HR3.out, HP3.out, HB3.out, Nat.le_refl _⟩
  case round =>
    clear HR3 HP3 HB3 HZ3
    obtain ⟨k, A5, c5, q, hk, rfl, rfl, hq, hO, hRI, hP, hb, hs5⟩ := hrel
    by_cases hklt : k < R.length
    · obtain ⟨br, or_, rfl, _, hbr, hcr⟩ := hRI.at_ hklt
      have hx := HINR.out _ (List.getElem_mem hklt)
      have hft := filter_takeN (q := fun x => !b.testBit x.toNat) hklt
      rw [← hq] at hft
      have hql : q.length ≤ k := by rw [hq]; have := List.length_filter_le (fun x => !b.testBit x.toNat) (R.take k); rw [List.length_take] at this; omega
      obtain ⟨x, hxv⟩ : ∃ x : Nat, R[k] = (x : Int) := ⟨R[k].toNat, by omega⟩
      rw [hxv] at hx hcr hft
      rw [Int.toNat_natCast] at hft
      have c6 := fun W => HT.out x (by omega) W
      have k9 := hP.begun
      have HO := Lib.hid hO
      have HRr := Lib.hid hRI
      have HPr := Lib.hid hP
      have HBb := Lib.hid hb
      have HQL := Lib.hid hql
      have sr := hb.size
      have i0 : (0 : Int) ≤ (k : Int) := by omega
      have i1 : (k : Int) < (R.length : Int) := by omega
      clear hq hO hRI hP hb hql hxv HT CR CA
      cases hbt : b.testBit x
      · rw [hbt] at hft c6
        simp only [Bool.not_false, if_true] at hft
        have HFT := Lib.hid hft.symm
        have C6 := Lib.hid c6
        clear hft c6 hbt
        have HO2 := Lib.hid (HO.out.alloc (.cells #[.int .i64 (x : Int)] 3))
        have HP2 := Lib.hid (HPr.out.alloc (.cells #[.int .i64 (x : Int)] 3))
        have HBb2 := Lib.hid (HBb.out.alloc HBb.out.size (.cells #[.int .i64 (x : Int)] 3))
        have slt := HPr.out.lt
        go_wp2_with fail
        with_reducible refine (C6.out _).mono ?_
        rintro e _ ⟨rfl, rfl⟩
        go_wp2_with (first
          | (at_builtin; refine push_z rfl _ _ rfl w3.heap.size A5 c5 q (x : Int) rfl HO2.out wr.heap.size 1 rfl (by simp [go_sem]) (by have := HQL.out; omega) (by simp; omega) ?_; intro A6 c6 w6 ho6 hb6; have HO6 := Lib.hid ho6; have HP6 := Lib.hid (HP2.out.below hb6 (by omega)); have HBb6 := Lib.hid (HBb2.out.trans (hb6.mono (by omega))); have HR6 := Lib.hid ((HRr.out.below ((Below.refl w3.heap.size wr).alloc hs5 (.cells #[.int .i64 (x : Int)] 3)) (Nat.le_refl _)).below hb6 (Nat.le_refl _)); have s6 := hb6.size; rw [World.size_alloc] at s6; clear ho6 hb6))
        go_roundw
        case rel => exact ⟨k + 1, A6, c6, q ++ [(x : Int)], by omega, by rw [List.length_append]; rfl, by go_num, HFT.out, .inr HO6.out, HR6.out, HP6.out, HBb6.out, by omega⟩
        case measure => simp [intOf]; omega
      · rw [hbt] at hft c6
        simp only [Bool.not_true, Bool.false_eq_true, if_false, List.append_nil] at hft
        have HFT := Lib.hid hft.symm
        have C6 := Lib.hid c6
        clear hft c6 hbt
        go_wp2_with fail
        with_reducible refine (C6.out _).mono ?_
        rintro e _ ⟨rfl, rfl⟩
        go_wp2
        go_roundw
        case rel => exact ⟨k + 1, A5, c5, q, by omega, rfl, by go_num, HFT.out, HO.out, HRr.out, HPr.out, HBb.out, hs5⟩
        case measure => simp [intOf]; omega
    · obtain rfl : k = R.length := by omega
      rw [List.take_length] at hq
      have hql : q.length ≤ 8 := by rw [hq]; have := List.length_filter_le (fun x => !b.testBit x.toNat) R; omega
      have HQL := Lib.hid hql
      have HQE := Lib.hid hq.symm
      have HQ := Lib.hid hO.ri
      have HPr := Lib.hid hP
      have HBb := Lib.hid hb
      have C5 := Lib.hid (CR.out wr hb)
      have k0 := hP.now
      have s5 := hb.size
      clear hO hRI hP hb hq hql HT HINR CR
      go_wp2_with (first | (refine ps_plan rfl _ rfl w.heap.size t f b o h n rfl HPr.out ?_))
      with_reducible refine (C5.out).mono ?_
      rintro e w6 ⟨⟨A6, c6, rfl, ho6⟩, hb6⟩
      have s6 := hb6.size
      have C7 := Lib.hid (CA.out RU q A6 c6 _ _ A5 c5 _ _ w6 (HBb.out.trans (hb6.mono s5)) ho6.ri (Nat.le_refl _) (HQ.out.below hb6 (Nat.le_refl _)) s6 (by have := HRL.out; omega) HQL.out)
      have HB6 := Lib.hid (HBb.out.trans (hb6.mono s5))
      clear ho6 hb6 C5 CA HQ HPr HBb k0
      go_wp2_with fail
      with_reducible refine (C7.out).mono ?_
      rintro e w8 ⟨⟨A8, c8, rfl, ho8⟩, hb8⟩
      have HO8 := Lib.hid (ho8.base (B' := w.heap.size) (by have := HB6.out.size; omega))
      have HB8 := Lib.hid (HB6.out.trans (hb8.mono HB6.out.size))
      clear ho8 hb8 C7
      go_wp2
      go_ret
      rw [HQE.out]
      exact ⟨⟨A8, c8, rfl, HO8.out⟩, HB8.out⟩
end Go.Proofs.Ytihgakbopkaemaa
namespace Go.Proofs.Ytihgakbopkaemaa
open Go.RowKit
theorem run_ps_plan {op : Oper} {a : Act} {W : World} (x : Operand) (ho : op.op = .load 57 x) (p : Nat) (hx : a.eval x = .pointer (some ⟨p, 1, none⟩)) {t : Int} {f : Nat → Int} {b o : Nat} {h : Nat → Int × Int} {n : Int} (hb : PS W p t f b o h n) :
    (execOp a.eval op).run Try.prog W = .ok (.value (.agg (bgA f b))) W := by
  unfold execOp
  simp only [ho, hx, Instr.loadAt, Instr.sureAddr, Sem.run_bind, Sem.run_pure, Result.andThen_ok, run_loadVar_mid W p 1 57 (bgA f b).toList _ hb.planRange Try.underlying57 rfl bgSize]
theorem wp_ps_ends {op : Oper} {a : Act} {w : World} {K : Act → World → Prop} {Q : Exit → Act → World → Prop} (x : Operand) (ho : op.op = .load 86 x) (p : Nat) (t : Int) (f : Nat → Int) (b o : Nat) (h : Nat → Int × Int) (n : Int) (hx : a.eval x = .pointer (some ⟨p, 11, none⟩)) (hb : PS w p t f b o h n)
    (hk : K (a.put op.dst (.agg (hpA h n))) w) : op.wp Try.prog a w K Q :=
  wp_load_mid 86 x ho p 11 hx (hpA h n).toList _ hb.endsRange Try.underlying86 rfl qSize hk
theorem wp_ps_setEnds {op : Oper} {a : Act} {w : World} {K : Act → World → Prop} {Q : Exit → Act → World → Prop} (x y : Operand) (ho : op.op = .store 86 x y) (p : Nat) (t : Int) (f : Nat → Int) (b o : Nat) (h h' : Nat → Int × Int) (n n' : Int) (hx : a.eval x = .pointer (some ⟨p, 11, none⟩)) (hy : a.eval y = .agg (hpA h' n')) (hb : PS w p t f b o h n)
    (hk : ∀ w', PS w' p t f b o h' n' → OnlyB p w w' → K (a.put op.dst undef) w') : op.wp Try.prog a w K Q :=
  wp_store_mid 86 x y ho p 11 (hpA h' n') hx hy hb.endsThere qSize (qOne _ _) (hk _ (hb.setEnds h' n') (onlyB_cells _ _ _))
/-- what stays as it was while an end is put into the queue -/
def PH (p : Nat) (t : Int) (f : Nat → Int) (b o : Nat) (W : World) : Prop := ∃ h n, PS W p t f b o h n
theorem setAll_at {g : List Bs.T} {S L : List Int} {t : Int} (hl : S.length = g.length) (hn : L.Nodup) (hin : ∀ x ∈ L, 0 ≤ x ∧ x < g.length) (hS : ∀ x ∈ L, Bs.giZ S x.toNat = 200) {k : Nat} (hk : k < L.length) :
    Bs.giZ (Bs.setAll S t (L.take k)) L[k].toNat = 200 ∧ Bs.setAll S t (L.take (k + 1)) = (Bs.setAll S t (L.take k)).set L[k].toNat t := by
  have hx := hin _ (List.getElem_mem hk)
  constructor
  · rw [Bs.giZ_setAll t (n := g.length) (L.take k) S hl (fun x hx => hin x (List.mem_of_mem_take hx)), if_neg, hS _ (List.getElem_mem hk)]
    intro hm
    rw [show ((L[k].toNat : Nat) : Int) = L[k] from by omega] at hm
    obtain ⟨i, hi, e⟩ := List.mem_iff_getElem.1 hm
    rw [List.length_take] at hi
    rw [List.getElem_take] at e
    exact (List.pairwise_iff_getElem.1 (List.nodup_iff_pairwise_ne.1 hn)) i k (by omega) hk (by omega) e
  · rw [List.take_succ_eq_append_getElem hk]
    exact Bs.setAll_snoc _ _ _ _
set_option linter.unusedSimpArgs false in
set_option maxRecDepth 20000 in
set_option maxHeartbeats 3200000 in
theorem begin_any (t : Nat) (S : List Int) (f : Nat → Int) (b o : Nat) (h : Nat → Int × Int) (n : Nat) (L : List Int) (A : Option Addr) (c : Nat) (g : List Bs.T) (A1 : Option Addr) (c1 : Nat) (lo hi l1 h1 : Nat) (w : World) (hg : RG w lo hi A g) (hh : hi ≤ w.heap.size) (hm : RI w l1 h1 A1 L) (hh1 : h1 ≤ w.heap.size) (hF : Bs.fine g = true)
    (ht : t < 200) (hq : Bs.QV g S (t : Int) f b o h n) (ha : Bs.Aft (t : Int) h n) (hn : L.Nodup) (hin : ∀ x ∈ L, 0 ≤ x ∧ x < g.length) (hS : ∀ x ∈ L, Bs.giZ S x.toNat = 200) :
    Calls Try.prog 64 #[.agg (psA (t : Int) f b o h (n : Int)), .slice A g.length c, .slice A1 L.length c1] w fun e w' => (∃ (f' : Nat → Int) (b' : Nat) (h' : Nat → Int × Int) (n' : Nat), e = .returned (.agg (psA (t : Int) f' b' o h' (n' : Int))) ∧ Bs.QV g (Bs.setAll S t L) (t : Int) f' b' o h' n' ∧ Bs.Aft (t : Int) h' n') ∧ Below w.heap.size w w' := by
  have hgl := Bs.fine_len hF
  have hll : L.length ≤ 8 := by have := (show Bs.Dist g.length L from ⟨hn, hin⟩).le; omega
  obtain ⟨PA, hPA⟩ : ∃ PA, PA = psA (t : Int) f b o h (n : Int) := ⟨_, rfl⟩
  have p0 := (PS.new w (t : Int) f b o h (n : Int)).alloc (.cells (psA 0 z8 0 0 zP 0) 88)
  have p1 := PS.new (w.alloc (.cells (psA (t : Int) f b o h (n : Int)) 88)) 0 z8 0 0 zP 0
  rw [World.size_alloc] at p1
  have hbl := ((Below.refl w.heap.size w).alloc (Nat.le_refl _) (.cells (psA (t : Int) f b o h (n : Int)) 88)).alloc (by simp) (.cells (psA 0 z8 0 0 zP 0) 88)
  rw [← hPA, psZero] at p0 p1 hbl
  rw [← hPA]
  have HP := Lib.hid p0
  have HZ := Lib.hid p1
  have HB := Lib.hid hbl
  have HLen := Lib.hid hq.len
  have HQ := Lib.hid (show Bs.QV g (Bs.setAll S t (L.take 0)) (t : Int) f b o h n from hq)
  have HA := Lib.hid ha
  have HR := Lib.hid hm
  have HAT := Lib.hid (fun k (hk : k < L.length) => setAll_at (t := (t : Int)) hq.len hn hin hS hk)
  have HIN := Lib.hid hin
  have CW := Lib.hid (fun (f : Nat → Int) (b v : Nat) W (hb8 : b < 256) (hv : v < 8) => bgWith_any f b v (t : Int) W hb8 hv)
  have CO := Lib.hid (fun (f : Nat → Int) (b v : Nat) W (hb : Below w.heap.size w W) (hv : v < g.length) (hf : ∀ i, i < 8 → 0 ≤ f i ∧ f i ≤ 100000) => over_any f b A c g v lo hi W (hg.below hb hh) (Nat.le_trans hh hb.size) hF hv hf)
  have HF := Lib.hid hF
  clear p0 p1 hbl hq ha hm hn hin hS hg hF hPA
  go_enter Try.func64, Try.ntmps64
  go_wp2
  go_loopw [11] (fun i wr => ∃ (k : Nat) (f' : Nat → Int) (b' : Nat) (h' : Nat → Int × Int) (n' : Nat), k ≤ L.length ∧ i = .int .i64 k ∧ Bs.QV g (Bs.setAll S t (L.take k)) (t : Int) f' b' o h' n' ∧ Bs.Aft (t : Int) h' n' ∧ PS wr w.heap.size (t : Int) f' b' o h' (n' : Int) ∧ PS wr (w.heap.size + 1) 0 z8 0 0 zP 0 ∧ Below w.heap.size w wr) (fun i _ => L.length - (intOf i).toNat)
  case atStart => exact ⟨0, f, b, h, n, Nat.zero_le _, rfl, HQ.out, HA.out, HP.out, HZ.out, HB.out⟩
  case round =>
    clear HP HZ HB HQ HA
    obtain ⟨k, f', b', h', n', hk, rfl, hq, ha, hP, hZ, hb⟩ := hrel
    by_cases hlt : k < L.length
    · obtain ⟨br, or_, rfl, _, _, hc⟩ := (HR.out.below hb hh1).at_ hlt
      have hx := HIN.out _ (List.getElem_mem hlt)
      obtain ⟨e200, est⟩ := HAT.out k hlt
      obtain ⟨x, hxv⟩ : ∃ x : Nat, L[k] = (x : Int) := ⟨L[k].toNat, by omega⟩
      rw [hxv] at hx hc e200 est
      rw [Int.toNat_natCast] at e200 est
      have hn8 := hq.nlt (x := x) (by omega) e200
      have hqn := hq.begin_ HF.out (x := x) (by omega) e200 (by omega) (by omega)
      have han := hq.aft_begin ha HF.out (x := x) (by omega)
      rw [← est] at hqn
      have C1 := Lib.hid (fun W => CW.out f' b' x W (hq.blt hgl) (by omega))
      have C2 := Lib.hid (fun W hb => CO.out (Bs.upd f' x (t : Int)) (b' ||| 1 <<< x) x W hb (by omega) (fun i _ => by have := hqn.fb i; omega))
      have hut : Bs.upd f' x (t : Int) x = (t : Int) := Bs.upd_at _ _ _
      rw [hut] at C2
      have C3 := Lib.hid (fun W => qWith_any h' n' (x : Int) ((t : Int) + Bs.timeOf g x) (by omega) W)
      have HQ := Lib.hid hqn
      have HA := Lib.hid (show Bs.Aft (t : Int) (Bs.insF h' n' ((x : Int), (t : Int) + Bs.timeOf g x)) (n' + 1) from han)
      have HP := Lib.hid hP
      have HZ := Lib.hid hZ
      have HB := Lib.hid hb
      have sr := hb.size
      have sz := hZ.lt
      have k0 := hP.now
      have i0 : (0 : Int) ≤ (k : Int) := by omega
      have i1 : (k : Int) < (L.length : Int) := by omega
      clear hq ha hP hZ hb hqn han hxv e200 est hut hn8 HAT HIN CW CO HF HR
      obtain ⟨f1, hf1⟩ : ∃ f1, f1 = Bs.upd f' x (t : Int) := ⟨_, rfl⟩
      obtain ⟨b1, hb1⟩ : ∃ b1, b1 = b' ||| 1 <<< x := ⟨_, rfl⟩
      obtain ⟨te, hte⟩ : ∃ te, te = (t : Int) + Bs.timeOf g x := ⟨_, rfl⟩
      rw [← hf1, ← hb1] at C1 C2 HQ
      rw [← hte] at C2 C3 HQ HA
      obtain ⟨hn, hhn⟩ : ∃ hn, hn = Bs.insF h' n' ((x : Int), te) := ⟨_, rfl⟩
      rw [← hhn] at C3 HQ HA
      clear hf1 hb1 hte hhn
      go_wp2_with (first | (refine ps_plan rfl _ rfl w.heap.size (t : Int) f' b' o h' (n' : Int) rfl HP.out ?_))
      with_reducible refine (C1.out _).mono ?_
      rintro e w2 ⟨rfl, hb2⟩
      have HP2 := Lib.hid (HP.out.below hb2 HP.out.lt)
      have HZ2 := Lib.hid (HZ.out.below hb2 HZ.out.lt)
      have HB2 := Lib.hid (HB.out.trans (hb2.mono sr))
      have s2 := hb2.size
      clear hb2 HP HZ HB C1 k0
      go_wp2_with (first | (refine ps_setPlan2 rfl _ _ rfl w.heap.size (t : Int) f' f1 b' b1 o h' (n' : Int) rfl rfl HP2.out ?_; intro w3 h3 o3; have H3 := Lib.hid h3; have Z3 := Lib.hid (show PS w3 (w.heap.size + 1) 0 z8 0 0 zP 0 from o3.blk HZ2.out (by omega)); have B3 := Lib.hid (HB2.out.trans (o3.below (Nat.le_refl _))); have s3 := o3.size; clear h3 o3))
      clear HP2 HZ2 HB2
      have H4 := Lib.hid (show PS w3.drew w.heap.size (t : Int) f1 b1 o h' (n' : Int) from H3.out)
      have Z4 := Lib.hid (show PS w3.drew (w.heap.size + 1) 0 z8 0 0 zP 0 from Z3.out)
      have B4 := Lib.hid (show Below w.heap.size w w3.drew from B3.out.drewN 1)
      refine wp_region_held_drew (S := PH w.heap.size (t : Int) f1 b1 o) (by kernel_rfl) ⟨_, _, H4.out⟩ (fun hHeld => ?_)
      clear H3 Z3 B3
      have s4 : w3.drew.heap.size = w3.heap.size := rfl
      rw [s3] at s4
      clear s3
      generalize w3.drew = w4 at *
      refine wpAnyH_take (i := 0) (v := .pointer (some ⟨w.heap.size, 11, none⟩)) rfl (by kernel_rfl) (by kernel_rfl) (by kernel_rfl) (fun _ _ _ h => h) (Or.inl ⟨by rfl, fun W hS => by first | rfl | (go_simp; done) | (go_simp; rfl)⟩) hHeld ?_
      try simp only [Act.put, List.getElem_toArray, List.getElem_cons_zero, List.getElem_cons_succ, List.setIfInBounds_toArray, List.set_cons_zero, List.set_cons_succ]
      refine wpAnyH_take (i := 2) (v := .int .i64 (x : Int)) rfl (by kernel_rfl) (by kernel_rfl) (by kernel_rfl) (fun _ _ _ h => h) (Or.inl ⟨by rfl, fun W hS => by first | rfl | (go_simp; done) | (go_simp; rfl)⟩) hHeld ?_
      try simp only [Act.put, List.getElem_toArray, List.getElem_cons_zero, List.getElem_cons_succ, List.setIfInBounds_toArray, List.set_cons_zero, List.set_cons_succ]
      refine wpAnyH_take (i := 3) (v := .pointer (some ⟨w.heap.size, 1, none⟩)) rfl (by kernel_rfl) (by kernel_rfl) (by kernel_rfl) (fun _ _ _ h => h) (Or.inl ⟨by rfl, fun W hS => by first | rfl | (go_simp; done) | (go_simp; rfl)⟩) hHeld ?_
      try simp only [Act.put, List.getElem_toArray, List.getElem_cons_zero, List.getElem_cons_succ, List.setIfInBounds_toArray, List.set_cons_zero, List.set_cons_succ]
      refine wpAnyH_take (i := 4) (v := .agg (bgA f1 b1)) rfl (by kernel_rfl) (by kernel_rfl) (by kernel_rfl) (fun _ _ _ h => h) (Or.inl ⟨by rfl, fun W hS => by obtain ⟨_, _, hS⟩ := hS; exact run_ps_plan _ rfl w.heap.size rfl hS⟩) hHeld ?_
      try simp only [Act.put, List.getElem_toArray, List.getElem_cons_zero, List.getElem_cons_succ, List.setIfInBounds_toArray, List.set_cons_zero, List.set_cons_succ]
      refine wpAnyH_take (i := 5) (v := .slice A g.length c) rfl (by kernel_rfl) (by kernel_rfl) (by kernel_rfl) (fun _ _ _ h => h) (Or.inl ⟨by rfl, fun W hS => by first | rfl | (go_simp; done) | (go_simp; rfl)⟩) hHeld ?_
      try simp only [Act.put, List.getElem_toArray, List.getElem_cons_zero, List.getElem_cons_succ, List.setIfInBounds_toArray, List.set_cons_zero, List.set_cons_succ]
      refine wpAnyH_take (i := 6) (v := .int .i64 (x : Int)) rfl (by kernel_rfl) (by kernel_rfl) (by kernel_rfl) (fun _ _ _ h => h) (Or.inl ⟨by rfl, fun W hS => by first | rfl | (go_simp; done) | (go_simp; rfl)⟩) hHeld ?_
      try simp only [Act.put, List.getElem_toArray, List.getElem_cons_zero, List.getElem_cons_succ, List.setIfInBounds_toArray, List.set_cons_zero, List.set_cons_succ]
      refine wpAnyH_ready (rs := [1, 7]) (by kernel_rfl) (by simp) ?_
      refine AllReadyH.cons rfl (fun K hK => ?_) ?_
      · rw [if_pos (by rfl)]
        refine wp_ps_ends _ rfl w.heap.size (t : Int) f1 b1 o h' (n' : Int) rfl H4.out ?_
        refine hK.out _ _ ⟨_, _, H4.out⟩ (fun hHeld => ?_)
        clear hK K
        try simp only [Act.put, List.getElem_toArray, List.getElem_cons_zero, List.getElem_cons_succ, List.setIfInBounds_toArray, List.set_cons_zero, List.set_cons_succ]
        refine wpAnyH_ready (rs := [7]) (by kernel_rfl) (by simp) ?_
        refine AllReadyH.cons rfl (fun K hK => ?_) AllReadyH.nil
        rw [if_pos (by rfl)]
        go_simp
        go_at_call 58
        with_reducible refine (C2.out _ B4.out).mono ?_
        rintro e w5 ⟨rfl, hb5⟩
        have H5 := Lib.hid (H4.out.below hb5 H4.out.lt)
        have Z5 := Lib.hid (Z4.out.below hb5 Z4.out.lt)
        have B5 := Lib.hid (B4.out.trans (hb5.mono B4.out.size))
        clear hb5
        go_wp2_with fail
        refine hK.out _ _ ⟨_, _, H5.out⟩ (fun hHeld => ?_)
        clear hK K
        try simp only [Act.put, List.getElem_toArray, List.getElem_cons_zero, List.getElem_cons_succ, List.setIfInBounds_toArray, List.set_cons_zero, List.set_cons_succ]
        refine wpAnyH_take (i := 8) (v := .agg #[.int .i64 (x : Int), .int .i64 te]) rfl (by kernel_rfl) (by kernel_rfl) (by kernel_rfl) (fun _ _ _ h => h) (Or.inl ⟨by rfl, fun W hS => by first | rfl | (go_simp; done) | (go_simp; rfl)⟩) hHeld ?_
        try simp only [Act.put, List.getElem_toArray, List.getElem_cons_zero, List.getElem_cons_succ, List.setIfInBounds_toArray, List.set_cons_zero, List.set_cons_succ]
        try simp only [Act.put, List.getElem_toArray, List.getElem_cons_zero, List.getElem_cons_succ, List.setIfInBounds_toArray, List.set_cons_zero, List.set_cons_succ]
        refine wpAnyH_ready (rs := [9]) (by kernel_rfl) (by simp) ?_
        refine AllReadyH.cons rfl (fun K hK => ?_) AllReadyH.nil
        rw [if_pos (by rfl)]
        go_simp
        go_at_call 88
        with_reducible refine (C3.out _).mono ?_
        rintro e w6 ⟨rfl, hb6⟩
        have H6 := Lib.hid (H5.out.below hb6 H5.out.lt)
        have Z6 := Lib.hid (Z5.out.below hb6 Z5.out.lt)
        have B6 := Lib.hid (B5.out.trans (hb6.mono B5.out.size))
        clear hb6
        go_wp2_with fail
        refine hK.out _ _ ⟨_, _, H6.out⟩ (fun hHeld => ?_)
        clear hK K
        try simp only [Act.put, List.getElem_toArray, List.getElem_cons_zero, List.getElem_cons_succ, List.setIfInBounds_toArray, List.set_cons_zero, List.set_cons_succ]
        refine wpAnyH_take (i := 10) (v := .pointer (some ⟨w.heap.size, 11, none⟩)) rfl (by kernel_rfl) (by kernel_rfl) (by kernel_rfl) (fun _ _ _ h => h) (Or.inl ⟨by rfl, fun W hS => by first | rfl | (go_simp; done) | (go_simp; rfl)⟩) hHeld ?_
        try simp only [Act.put, List.getElem_toArray, List.getElem_cons_zero, List.getElem_cons_succ, List.setIfInBounds_toArray, List.set_cons_zero, List.set_cons_succ]
        refine wpAnyH_ready (rs := [11]) (by kernel_rfl) (by simp) ?_
        refine AllReadyH.cons rfl (fun K hK => ?_) AllReadyH.nil
        rw [if_pos (by rfl)]
        refine wp_ps_setEnds _ _ rfl w.heap.size (t : Int) f1 b1 o h' hn (n' : Int) ((n' : Int) + 1) rfl rfl H6.out ?_
        intro w7 h7 o7
        have H7 := Lib.hid h7
        have Z7 := Lib.hid (show PS w7 (w.heap.size + 1) 0 z8 0 0 zP 0 from o7.blk Z6.out (by omega))
        have B7 := Lib.hid (B6.out.trans (o7.below (Nat.le_refl _)))
        clear h7 o7
        refine hK.out _ _ ⟨_, _, H7.out⟩ (fun hHeld => ?_)
        clear hK K hHeld
        try simp only [Act.put, List.getElem_toArray, List.getElem_cons_zero, List.getElem_cons_succ, List.setIfInBounds_toArray, List.set_cons_zero, List.set_cons_succ]
        refine wpAnyH_done (by kernel_rfl) ?_ _
        clear H6 Z6 B6 H5 Z5 B5 H4 Z4 B4 C2 C3
        go_wp2
        go_roundw
        case rel => exact ⟨k + 1, f1, b1, hn, n' + 1, by omega, by go_num, HQ.out, HA.out, H7.out, Z7.out, B7.out⟩
        case measure => simp [intOf]; omega
      refine AllReadyH.cons rfl (fun K hK => ?_) AllReadyH.nil
      rw [if_pos (by rfl)]
      go_simp
      go_at_call 58
      with_reducible refine (C2.out _ B4.out).mono ?_
      rintro e w5 ⟨rfl, hb5⟩
      have H5 := Lib.hid (H4.out.below hb5 H4.out.lt)
      have Z5 := Lib.hid (Z4.out.below hb5 Z4.out.lt)
      have B5 := Lib.hid (B4.out.trans (hb5.mono B4.out.size))
      clear hb5
      go_wp2_with fail
      refine hK.out _ _ ⟨_, _, H5.out⟩ (fun hHeld => ?_)
      clear hK K
      try simp only [Act.put, List.getElem_toArray, List.getElem_cons_zero, List.getElem_cons_succ, List.setIfInBounds_toArray, List.set_cons_zero, List.set_cons_succ]
      refine wpAnyH_take (i := 8) (v := .agg #[.int .i64 (x : Int), .int .i64 te]) rfl (by kernel_rfl) (by kernel_rfl) (by kernel_rfl) (fun _ _ _ h => h) (Or.inl ⟨by rfl, fun W hS => by first | rfl | (go_simp; done) | (go_simp; rfl)⟩) hHeld ?_
      try simp only [Act.put, List.getElem_toArray, List.getElem_cons_zero, List.getElem_cons_succ, List.setIfInBounds_toArray, List.set_cons_zero, List.set_cons_succ]
      refine wpAnyH_ready (rs := [1]) (by kernel_rfl) (by simp) ?_
      refine AllReadyH.cons rfl (fun K hK => ?_) AllReadyH.nil
      rw [if_pos (by rfl)]
      refine wp_ps_ends _ rfl w.heap.size (t : Int) f1 b1 o h' (n' : Int) rfl H5.out ?_
      refine hK.out _ _ ⟨_, _, H5.out⟩ (fun hHeld => ?_)
      clear hK K
      try simp only [Act.put, List.getElem_toArray, List.getElem_cons_zero, List.getElem_cons_succ, List.setIfInBounds_toArray, List.set_cons_zero, List.set_cons_succ]
      refine wpAnyH_ready (rs := [9]) (by kernel_rfl) (by simp) ?_
      refine AllReadyH.cons rfl (fun K hK => ?_) AllReadyH.nil
      rw [if_pos (by rfl)]
      go_simp
      go_at_call 88
      with_reducible refine (C3.out _).mono ?_
      rintro e w6 ⟨rfl, hb6⟩
      have H6 := Lib.hid (H5.out.below hb6 H5.out.lt)
      have Z6 := Lib.hid (Z5.out.below hb6 Z5.out.lt)
      have B6 := Lib.hid (B5.out.trans (hb6.mono B5.out.size))
      clear hb6
      go_wp2_with fail
      refine hK.out _ _ ⟨_, _, H6.out⟩ (fun hHeld => ?_)
      clear hK K
      try simp only [Act.put, List.getElem_toArray, List.getElem_cons_zero, List.getElem_cons_succ, List.setIfInBounds_toArray, List.set_cons_zero, List.set_cons_succ]
      refine wpAnyH_take (i := 10) (v := .pointer (some ⟨w.heap.size, 11, none⟩)) rfl (by kernel_rfl) (by kernel_rfl) (by kernel_rfl) (fun _ _ _ h => h) (Or.inl ⟨by rfl, fun W hS => by first | rfl | (go_simp; done) | (go_simp; rfl)⟩) hHeld ?_
      try simp only [Act.put, List.getElem_toArray, List.getElem_cons_zero, List.getElem_cons_succ, List.setIfInBounds_toArray, List.set_cons_zero, List.set_cons_succ]
      refine wpAnyH_ready (rs := [11]) (by kernel_rfl) (by simp) ?_
      refine AllReadyH.cons rfl (fun K hK => ?_) AllReadyH.nil
      rw [if_pos (by rfl)]
      refine wp_ps_setEnds _ _ rfl w.heap.size (t : Int) f1 b1 o h' hn (n' : Int) ((n' : Int) + 1) rfl rfl H6.out ?_
      intro w7 h7 o7
      have H7 := Lib.hid h7
      have Z7 := Lib.hid (show PS w7 (w.heap.size + 1) 0 z8 0 0 zP 0 from o7.blk Z6.out (by omega))
      have B7 := Lib.hid (B6.out.trans (o7.below (Nat.le_refl _)))
      clear h7 o7
      refine hK.out _ _ ⟨_, _, H7.out⟩ (fun hHeld => ?_)
      clear hK K hHeld
      try simp only [Act.put, List.getElem_toArray, List.getElem_cons_zero, List.getElem_cons_succ, List.setIfInBounds_toArray, List.set_cons_zero, List.set_cons_succ]
      refine wpAnyH_done (by kernel_rfl) ?_ _
      clear H6 Z6 B6 H5 Z5 B5 H4 Z4 B4 C2 C3
      go_wp2
      go_roundw
      case rel => exact ⟨k + 1, f1, b1, hn, n' + 1, by omega, by go_num, HQ.out, HA.out, H7.out, Z7.out, B7.out⟩
      case measure => simp [intOf]; omega
    · obtain rfl : k = L.length := by omega
      rw [List.take_length] at hq
      have HQ := Lib.hid hq
      have HA := Lib.hid ha
      have HP := Lib.hid hP
      have HZ := Lib.hid hZ
      have HB := Lib.hid hb
      clear hq ha hP hZ hb HAT HIN CW CO HF HR
      go_wp2_with (first
        | (refine ps_load rfl _ rfl w.heap.size (t : Int) f' b' o h' (n' : Int) rfl HP.out ?_)
        | (refine ps_store rfl _ _ rfl (w.heap.size + 1) 0 (t : Int) z8 f' 0 b' 0 o zP h' 0 (n' : Int) rfl rfl HZ.out ?_; intro w9 h9 o9))
      exact bodyPost_ret (ps_ret rfl _ _ (w.heap.size + 1) (t : Int) f' b' o h' (n' : Int) rfl h9) rfl ⟨⟨f', b', h', n', rfl, HQ.out, HA.out⟩, HB.out.trans (o9.below (by omega))⟩
end Go.Proofs.Ytihgakbopkaemaa
namespace Go.Proofs.Ytihgakbopkaemaa
open Go.RowKit
/-- how many ends are to come, in memory -/
def psN (w : World) (a : Nat) : Nat := match w.cell? ⟨a, 27, none⟩ with | some (.int _ n) => n.toNat | _ => 0
theorem PS.num {w : World} {a : Nat} {t : Int} {f : Nat → Int} {b o : Nat} {h : Nat → Int × Int} {n : Int} (p : PS w a t f b o h n) : psN w a = n.toNat := by
  unfold psN
  rw [p.size_]
theorem PS.drewN {w : World} {a : Nat} {t : Int} {f : Nat → Int} {b o : Nat} {h : Nat → Int × Int} {n : Int} (p : PS w a t f b o h n) (k : Nat) : PS (w.drewN k) a t f b o h n := p
theorem run_cellI' {op : Oper} {a : Act} {W : World} (x : Operand) (ho : op.op = .load 3 x) (b o : Nat) (hx : a.eval x = .pointer (some ⟨b, o, none⟩)) {v : Int} (h : W.cell? ⟨b, o, none⟩ = some (.int .i64 v)) :
    (execOp a.eval op).run Try.prog W = .ok (.value (.int .i64 v)) W := by
  unfold execOp
  simp only [ho, hx]
  go_simp
theorem run_cellU {op : Oper} {a : Act} {W : World} (x : Operand) (ho : op.op = .load 55 x) (b o : Nat) (hx : a.eval x = .pointer (some ⟨b, o, none⟩)) {v : Int} (h : W.cell? ⟨b, o, none⟩ = some (.int .u64 v)) :
    (execOp a.eval op).run Try.prog W = .ok (.value (.int .u64 v)) W := by
  unfold execOp
  simp only [ho, hx]
  go_simp
theorem wp_of_run {op : Oper} {a : Act} {w : World} {K : Act → World → Prop} {Q : Exit → Act → World → Prop} {v : Value} (h : (execOp a.eval op).run Try.prog w = .ok (.value v) w) (hk : K (a.put op.dst v) w) : op.wp Try.prog a w K Q := by
  unfold Oper.wp
  rw [h]
  exact hk
theorem wp_ps_over {op : Oper} {a : Act} {w : World} {K : Act → World → Prop} {Q : Exit → Act → World → Prop} (x y : Operand) (ho : op.op = .store 55 x y) (p : Nat) (t : Int) (f : Nat → Int) (b o o' : Nat) (h : Nat → Int × Int) (n : Int) (hx : a.eval x = .pointer (some ⟨p, 10, none⟩)) (hy : a.eval y = .int .u64 (o' : Int)) (hb : PS w p t f b o h n)
    (hk : ∀ w', PS w' p t f b o' h n → OnlyB p w w' → K (a.put op.dst undef) w') : op.wp Try.prog a w K Q := by
  have k := hb.over
  have fz := hb.frozen 10
  have := hk _ (hb.setOver o') (onlyB_cell _ _ _ _)
  unfold Oper.wp execOp
  simp only [ho, hx, hy]
  go_simp
  exact this
set_option linter.unusedSimpArgs false in
set_option maxRecDepth 20000 in
set_option maxHeartbeats 3200000 in
theorem goOn_any (t : Int) (S : List Int) (f : Nat → Int) (b o : Nat) (h : Nat → Int × Int) (n : Nat) (g : List Bs.T) (w : World) (hg : g.length ≤ 8) (hq : Bs.QV g S t f b o h n) (hn : 0 < n) :
    Calls Try.prog 66 #[.agg (psA t f b o h (n : Int))] w fun e w' => (∃ (o' : Nat) (h' : Nat → Int × Int) (n' : Nat), e = .returned (.agg (psA (h 0).2 f b o' h' (n' : Int))) ∧ Bs.QV g S (h 0).2 f b o' h' n' ∧ Bs.Aft (h 0).2 h' n') ∧ Below w.heap.size w w' := by
  have hqn := hq.next hn
  obtain ⟨te, hte⟩ : ∃ te, te = (h 0).2 := ⟨_, rfl⟩
  rw [← hte] at hqn ⊢
  obtain ⟨PA, hPA⟩ : ∃ PA, PA = psA t f b o h (n : Int) := ⟨_, rfl⟩
  obtain ⟨PB, hPB⟩ : ∃ PB, PB = psA te f b o h (n : Int) := ⟨_, rfl⟩
  have hset : PA.setIfInBounds 0 (.int .i64 te) = PB := by rw [hPA, hPB]; rfl
  have p0 := (PS.new w t f b o h (n : Int)).alloc (.cells (psA 0 z8 0 0 zP 0) 88)
  have pb := (PS.new w te f b o h (n : Int)).alloc (.cells (psA 0 z8 0 0 zP 0) 88)
  have zb := PS.new (w.alloc (.cells (psA te f b o h (n : Int)) 88)) 0 z8 0 0 zP 0
  rw [World.size_alloc] at zb
  have hbl := ((Below.refl w.heap.size w).alloc (Nat.le_refl _) (.cells (psA te f b o h (n : Int)) 88)).alloc (by simp) (.cells (psA 0 z8 0 0 zP 0) 88)
  rw [← hPA, psZero] at p0
  rw [← hPB, psZero] at pb zb hbl
  rw [← hPA]
  have k12 := p0.first.2
  rw [← hte] at k12
  have g0 := p0.frozen 0
  have k0 := p0.now
  have HP := Lib.hid pb
  have HZ := Lib.hid zb
  have HB := Lib.hid hbl
  have HQ := Lib.hid hqn
  clear p0 pb zb hbl hq hPA hPB hqn hte
  go_enter Try.func66, Try.ntmps66
  go_wp2
  go_loopw [] (fun wr => ∃ (o' : Nat) (h' : Nat → Int × Int) (n' : Nat), Bs.QV g S te f b o' h' n' ∧ PS wr w.heap.size te f b o' h' (n' : Int) ∧ PS wr (w.heap.size + 1) 0 z8 0 0 zP 0 ∧ Below w.heap.size w wr) (fun wr => psN wr w.heap.size)
  case atStart => exact ⟨o, h, n, HQ.out, HP.out, HZ.out, HB.out⟩
  case round =>
    clear HP HZ HB HQ k12 g0 k0
    obtain ⟨o', h', n', hq, hP, hZ, hb⟩ := hrel
    have k0 := hP.now
    by_cases hn0 : n' = 0
    · subst hn0
      rw [show ((0 : Nat) : Int) = 0 from rfl] at hP
      have k27 := hP.size_
      have HA := Lib.hid (hq.stop (.inl rfl))
      have HQ := Lib.hid hq
      have HP := Lib.hid hP
      have HZ := Lib.hid hZ
      have HB := Lib.hid hb
      have d1 : decide ((0 : Int) > 0) = false := by decide
      have d2 : decide ((0 : Int) < 0) = false := by decide
      clear hq hP hZ hb
      go_upto_region 5 with fail
      go_wp2_with (first
        | (refine ps_load rfl _ rfl w.heap.size te f b o' h' 0 rfl HP.out ?_)
        | (refine ps_store rfl _ _ rfl (w.heap.size + 1) 0 te z8 f 0 b 0 o' zP h' 0 0 rfl rfl HZ.out ?_; intro w9 h9 o9))
      exact bodyPost_ret (ps_ret rfl _ _ (w.heap.size + 1) te f b o' h' 0 rfl h9) rfl ⟨⟨o', h', 0, rfl, HQ.out, HA.out⟩, HB.out.trans (o9.below (by omega))⟩
    · obtain ⟨m, rfl⟩ : ∃ m, n' = m + 1 := ⟨n' - 1, by omega⟩
      rw [show ((m + 1 : Nat) : Int) = (m : Int) + 1 from by omega] at hP
      have k27 := hP.size_
      obtain ⟨k11, k12⟩ := hP.first
      have d1 : decide ((m : Int) + 1 > 0) = true := decide_eq_true (by omega)
      have d2 : decide ((0 : Int) < (m : Int) + 1) = true := decide_eq_true (by omega)
      have hm8 := hq.nle
      by_cases he : (h' 0).2 = te
      · have d3 : ((h' 0).2 == te) = true := by rw [he]; simp
        obtain ⟨x, hx, e0, _⟩ := hq.q1 0 (by omega)
        have ex : (h' 0).1 = (x : Int) := by rw [e0]
        have hqp := hq.pop he x ex
        have ho8 := hq.olt hg
        have HO := Lib.hid (or_pow o' x ho8 (by omega))
        have HE1 := Lib.hid ex
        have HQ := Lib.hid hqp
        have C1 := Lib.hid (fun W => qWithoutFirst_any h' m (by omega) W)
        have HP := Lib.hid hP
        have HZ := Lib.hid hZ
        have HB := Lib.hid hb
        have M1 := Lib.hid hP.num
        have sr := hb.size
        have sz := hZ.lt
        have k10 := hP.over
        have f10 := hP.frozen 10
        have i0 : (0 : Int) ≤ (x : Int) := by omega
        have i1 : (x : Int) < 64 := by omega
        rw [ex] at k11
        rw [he] at k12 d3
        clear hq hP hZ hb hqp e0 ex ho8 hm8 he
        have H1 := Lib.hid (show PS wr.drew w.heap.size te f b o' h' ((m : Int) + 1) from HP.out)
        have Z1 := Lib.hid (show PS wr.drew (w.heap.size + 1) 0 z8 0 0 zP 0 from HZ.out)
        have B1 := Lib.hid (HB.out.drewN 1)
        have K11 := Lib.hid k11
        go_wp2
        clear HP HZ HB k0 k10 k12 k27 f10
        refine wp_region_held_drew (S := fun W => W.cell? ⟨w.heap.size, 11, none⟩ = some (.int .i64 (x : Int))) (by kernel_rfl) K11.out (fun hHeld => ?_)
        clear k11
        refine wpAnyH_take (i := 0) (v := .pointer (some ⟨w.heap.size, 10, none⟩)) rfl (by kernel_rfl) (by kernel_rfl) (by kernel_rfl) (fun _ _ _ h => h) (Or.inl ⟨by rfl, fun W hS => by first | rfl | (go_simp; done) | (go_simp; rfl)⟩) hHeld ?_
        try simp only [Act.put, List.getElem_toArray, List.getElem_cons_zero, List.getElem_cons_succ, List.setIfInBounds_toArray, List.set_cons_zero, List.set_cons_succ]
        refine wpAnyH_take (i := 2) (v := .pointer (some ⟨w.heap.size, 11, none⟩)) rfl (by kernel_rfl) (by kernel_rfl) (by kernel_rfl) (fun _ _ _ h => h) (Or.inl ⟨by rfl, fun W hS => by first | rfl | (go_simp; done) | (go_simp; rfl)⟩) hHeld ?_
        try simp only [Act.put, List.getElem_toArray, List.getElem_cons_zero, List.getElem_cons_succ, List.setIfInBounds_toArray, List.set_cons_zero, List.set_cons_succ]
        refine wpAnyH_take (i := 3) (v := .pointer (some ⟨w.heap.size, 11, none⟩)) rfl (by kernel_rfl) (by kernel_rfl) (by kernel_rfl) (fun _ _ _ h => h) (Or.inl ⟨by rfl, fun W hS => by first | rfl | (go_simp; done) | (go_simp; rfl)⟩) hHeld ?_
        try simp only [Act.put, List.getElem_toArray, List.getElem_cons_zero, List.getElem_cons_succ, List.setIfInBounds_toArray, List.set_cons_zero, List.set_cons_succ]
        refine wpAnyH_take (i := 4) (v := .pointer (some ⟨w.heap.size, 11, none⟩)) rfl (by kernel_rfl) (by kernel_rfl) (by kernel_rfl) (fun _ _ _ h => h) (Or.inl ⟨by rfl, fun W hS => by first | rfl | (go_simp; done) | (go_simp; rfl)⟩) hHeld ?_
        try simp only [Act.put, List.getElem_toArray, List.getElem_cons_zero, List.getElem_cons_succ, List.setIfInBounds_toArray, List.set_cons_zero, List.set_cons_succ]
        refine wpAnyH_take (i := 5) (v := .pointer (some ⟨w.heap.size, 11, none⟩)) rfl (by kernel_rfl) (by kernel_rfl) (by kernel_rfl) (fun _ _ _ h => h) (Or.inl ⟨by rfl, fun W hS => by first | rfl | (go_simp; done) | (go_simp; rfl)⟩) hHeld ?_
        try simp only [Act.put, List.getElem_toArray, List.getElem_cons_zero, List.getElem_cons_succ, List.setIfInBounds_toArray, List.set_cons_zero, List.set_cons_succ]
        refine wpAnyH_take (i := 6) (v := .int .i64 (x : Int)) rfl (by kernel_rfl) (by kernel_rfl) (by kernel_rfl) (fun _ _ _ h => h) (Or.inl ⟨by rfl, fun W hS => run_cellI' _ rfl _ _ rfl hS⟩) hHeld ?_
        try simp only [Act.put, List.getElem_toArray, List.getElem_cons_zero, List.getElem_cons_succ, List.setIfInBounds_toArray, List.set_cons_zero, List.set_cons_succ]
        refine wpAnyH_take (i := 7) (v := .int .u64 (IntKind.u64.wrap (2 ^ x))) rfl (by kernel_rfl) (by kernel_rfl) (by kernel_rfl) (fun _ _ _ h => h) (Or.inl ⟨by rfl, fun W hS => by first | rfl | (go_simp; done) | (go_simp; rfl)⟩) hHeld ?_
        try simp only [Act.put, List.getElem_toArray, List.getElem_cons_zero, List.getElem_cons_succ, List.setIfInBounds_toArray, List.set_cons_zero, List.set_cons_succ]
        refine wpAnyH_ready (rs := [1]) (by kernel_rfl) (by simp) ?_
        refine AllReadyH.cons rfl (fun K hK => ?_) AllReadyH.nil
        rw [if_pos (by rfl)]
        have k10 := H1.out.over
        refine wp_of_run (v := .int .u64 (o' : Int)) (run_cellU _ rfl _ _ rfl k10) ?_
        clear k10
        refine hK.out _ _ (by rw [← HE1.out]; exact H1.out.first.1) (fun hHeld => ?_)
        clear hK K
        try simp only [Act.put, List.getElem_toArray, List.getElem_cons_zero, List.getElem_cons_succ, List.setIfInBounds_toArray, List.set_cons_zero, List.set_cons_succ]
        refine wpAnyH_take (i := 8) (v := .int .u64 (bits .or .u64 (o' : Int) (IntKind.u64.wrap (2 ^ x)))) rfl (by kernel_rfl) (by kernel_rfl) (by kernel_rfl) (fun _ _ _ h => h) (Or.inl ⟨by rfl, fun W hS => by first | rfl | (go_simp; done) | (go_simp; rfl)⟩) hHeld ?_
        try simp only [Act.put, List.getElem_toArray, List.getElem_cons_zero, List.getElem_cons_succ, List.setIfInBounds_toArray, List.set_cons_zero, List.set_cons_succ]
        refine wpAnyH_take (i := 9) (v := .pointer (some ⟨w.heap.size, 10, none⟩)) rfl (by kernel_rfl) (by kernel_rfl) (by kernel_rfl) (fun _ _ _ h => h) (Or.inl ⟨by rfl, fun W hS => by first | rfl | (go_simp; done) | (go_simp; rfl)⟩) hHeld ?_
        try simp only [Act.put, List.getElem_toArray, List.getElem_cons_zero, List.getElem_cons_succ, List.setIfInBounds_toArray, List.set_cons_zero, List.set_cons_succ]
        refine wpAnyH_ready (rs := [10]) (by kernel_rfl) (by simp) ?_
        refine AllReadyH.cons rfl (fun K hK => ?_) AllReadyH.nil
        rw [if_pos (by rfl)]
        rw [HO.out]
        refine wp_ps_over _ _ rfl w.heap.size te f b o' (o' ||| 1 <<< x) h' ((m : Int) + 1) rfl rfl H1.out ?_
        intro W2 h2 o2
        have H2 := Lib.hid h2
        have Z2 := Lib.hid (show PS W2 (w.heap.size + 1) 0 z8 0 0 zP 0 from o2.blk Z1.out (by omega))
        have B2 := Lib.hid (B1.out.trans (o2.below (Nat.le_refl _)))
        clear h2 o2
        refine hK.out _ _ (by rw [← HE1.out]; exact H2.out.first.1) (fun hHeld => ?_)
        clear hK K hHeld H1 Z1 B1 K11
        try simp only [Act.put, List.getElem_toArray, List.getElem_cons_zero, List.getElem_cons_succ, List.setIfInBounds_toArray, List.set_cons_zero, List.set_cons_succ]
        refine wpAnyH_done (by kernel_rfl) ?_ _
        go_wp2_with (first | (refine ps_ends rfl _ rfl w.heap.size te f b (o' ||| 1 <<< x) h' ((m : Int) + 1) rfl H2.out ?_))
        with_reducible refine (C1.out _).mono ?_
        rintro e w5 ⟨rfl, hb5⟩
        have H5 := Lib.hid (H2.out.below hb5 H2.out.lt)
        have Z5 := Lib.hid (Z2.out.below hb5 Z2.out.lt)
        have B5 := Lib.hid (B2.out.trans (hb5.mono B2.out.size))
        clear hb5 H2 Z2 B2 C1
        go_wp2_with (first | (refine ps_setEnds2 rfl _ _ rfl w.heap.size te f b (o' ||| 1 <<< x) h' (Bs.shF h' m) ((m : Int) + 1) (m : Int) rfl rfl H5.out ?_; intro w7 h7 o7; have H7 := Lib.hid h7; have Z7 := Lib.hid (show PS w7 (w.heap.size + 1) 0 z8 0 0 zP 0 from o7.blk Z5.out (by omega)); have B7 := Lib.hid (B5.out.trans (o7.below (Nat.le_refl _))); have M7 := Lib.hid h7.num; clear h7 o7))
        simp only [Act.put]
        go_roundw
        case rel => exact ⟨_, _, m, HQ.out, H7.out, Z7.out, B7.out⟩
        case measure => rw [M1.out, M7.out]; omega
      · have d3 : ((h' 0).2 == te) = false := by rw [beq_eq_false_iff_ne]; exact he
        have HA := Lib.hid (hq.stop (.inr he))
        have HQ := Lib.hid hq
        have HP := Lib.hid hP
        have HZ := Lib.hid hZ
        have HB := Lib.hid hb
        clear hq hP hZ hb he hm8
        generalize hy : (h' 0).2 = y at *
        clear hy
        go_wp2_with (first
          | (refine ps_load rfl _ rfl w.heap.size te f b o' h' ((m : Int) + 1) rfl HP.out ?_)
          | (refine ps_store rfl _ _ rfl (w.heap.size + 1) 0 te z8 f 0 b 0 o' zP h' 0 ((m : Int) + 1) rfl rfl HZ.out ?_; intro w9 h9 o9))
        exact bodyPost_ret (ps_ret rfl _ _ (w.heap.size + 1) te f b o' h' ((m : Int) + 1) rfl h9) rfl ⟨⟨o', h', m + 1, rfl, HQ.out, HA.out⟩, HB.out.trans (o9.below (by omega))⟩
end Go.Proofs.Ytihgakbopkaemaa
