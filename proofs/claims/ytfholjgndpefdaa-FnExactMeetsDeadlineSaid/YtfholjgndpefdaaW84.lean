/-
  WALKS: plans of the program: those that are admitted begin.
-/
import Derived.Test.YtfholjgndpefdaaW83
import Derived.Test.YtfholjgndpefdaaMath112
import Derived.Deep.RegionHeld
namespace Go.Proofs.Ytfholjgndpefdaa
open Go.RowKit
theorem run_ps_plan {op : Oper} {a : Act} {W : World} (x : Operand) (ho : op.op = .load 73 x) (p : Nat) (hx : a.eval x = .pointer (some ⟨p, 1, none⟩)) {t : Int} {f : Nat → Int} {b o : Nat} {h : Nat → Int × Int} {n : Int} (hb : PS W p t f b o h n) :
    (execOp a.eval op).run Try.prog W = .ok (.value (.agg (bgA f b))) W := by
  unfold execOp
  simp only [ho, hx, Instr.loadAt, Instr.sureAddr, Sem.run_bind, Sem.run_pure, Result.andThen_ok, run_loadVar_mid W p 1 73 (bgA f b).toList _ hb.planRange Try.underlying73 rfl bgSize]
theorem wp_ps_ends {op : Oper} {a : Act} {w : World} {K : Act → World → Prop} {Q : Exit → Act → World → Prop} (x : Operand) (ho : op.op = .load 78 x) (p : Nat) (t : Int) (f : Nat → Int) (b o : Nat) (h : Nat → Int × Int) (n : Int) (hx : a.eval x = .pointer (some ⟨p, 11, none⟩)) (hb : PS w p t f b o h n)
    (hk : K (a.put op.dst (.agg (hpA h n))) w) : op.wp Try.prog a w K Q :=
  wp_load_mid 78 x ho p 11 hx (hpA h n).toList _ hb.endsRange Try.underlying78 rfl qSize hk
theorem wp_ps_setEnds {op : Oper} {a : Act} {w : World} {K : Act → World → Prop} {Q : Exit → Act → World → Prop} (x y : Operand) (ho : op.op = .store 78 x y) (p : Nat) (t : Int) (f : Nat → Int) (b o : Nat) (h h' : Nat → Int × Int) (n n' : Int) (hx : a.eval x = .pointer (some ⟨p, 11, none⟩)) (hy : a.eval y = .agg (hpA h' n')) (hb : PS w p t f b o h n)
    (hk : ∀ w', PS w' p t f b o h' n' → OnlyB p w w' → K (a.put op.dst undef) w') : op.wp Try.prog a w K Q :=
  wp_store_mid 78 x y ho p 11 (hpA h' n') hx hy hb.endsThere qSize (qOne _ _) (hk _ (hb.setEnds h' n') (onlyB_cells _ _ _))
/-- what stays as it was while an end is put into the queue -/
def PH (p : Nat) (t : Int) (f : Nat → Int) (b o : Nat) (W : World) : Prop := ∃ h n, PS W p t f b o h n
theorem setAll_at {g : List Bs.T} {S L : List Int} {t : Int} (hl : S.length = g.length) (hn : L.Nodup) (hin : ∀ x ∈ L, 0 ≤ x ∧ x < g.length) (hS : ∀ x ∈ L, Bs.giZ S x.toNat = 200) {k : Nat} (hk : k < L.length) :
    Bs.giZ (Bs.setAll S t (L.take k)) L[k].toNat = 200 ∧ Bs.setAll S t (L.take (k + 1)) = (Bs.setAll S t (L.take k)).set L[k].toNat t := by
  have hx := hin _ (List.getElem_mem hk)
  constructor
  · rw [Bs.giZ_setAll t (n := g.length) (L.take k) S hl (fun x hx => hin x (List.mem_of_mem_take hx)), if_neg, hS _ (List.getElem_mem hk)]
    intro hm
    rw [show ((L[k].toNat : Nat) : Int) = L[k] from by omega] at hm
    obtain ⟨i, hi, e⟩ := List.mem_iff_getElem.1 hm
    rw [List.length_take] at hi
    rw [List.getElem_take] at e
    exact (List.pairwise_iff_getElem.1 (List.nodup_iff_pairwise_ne.1 hn)) i k (by omega) hk (by omega) e
  · rw [List.take_succ_eq_append_getElem hk]
    exact Bs.setAll_snoc _ _ _ _
set_option linter.unusedSimpArgs false in
set_option maxRecDepth 20000 in
set_option maxHeartbeats 3200000 in
theorem begin_any (t : Nat) (S : List Int) (f : Nat → Int) (b o : Nat) (h : Nat → Int × Int) (n : Nat) (L : List Int) (A : Option Addr) (c : Nat) (g : List Bs.T) (A1 : Option Addr) (c1 : Nat) (lo hi l1 h1 : Nat) (w : World) (hg : RG w lo hi A g) (hh : hi ≤ w.heap.size) (hm : RI w l1 h1 A1 L) (hh1 : h1 ≤ w.heap.size) (hF : Bs.fine g = true)
    (ht : t < 200) (hq : Bs.QV g S (t : Int) f b o h n) (ha : Bs.Aft (t : Int) h n) (hn : L.Nodup) (hin : ∀ x ∈ L, 0 ≤ x ∧ x < g.length) (hS : ∀ x ∈ L, Bs.giZ S x.toNat = 200) :
    Calls Try.prog 67 #[.agg (psA (t : Int) f b o h (n : Int)), .slice A g.length c, .slice A1 L.length c1] w fun e w' => (∃ (f' : Nat → Int) (b' : Nat) (h' : Nat → Int × Int) (n' : Nat), e = .returned (.agg (psA (t : Int) f' b' o h' (n' : Int))) ∧ Bs.QV g (Bs.setAll S t L) (t : Int) f' b' o h' n' ∧ Bs.Aft (t : Int) h' n') ∧ Below w.heap.size w w' := by
  have hgl := Bs.fine_len hF
  have hll : L.length ≤ 8 := by have := (show Bs.Dist g.length L from ⟨hn, hin⟩).le; omega
  obtain ⟨PA, hPA⟩ : ∃ PA, PA = psA (t : Int) f b o h (n : Int) := ⟨_, rfl⟩
  have p0 := (PS.new w (t : Int) f b o h (n : Int)).alloc (.cells (psA 0 z8 0 0 zP 0) 80)
  have p1 := PS.new (w.alloc (.cells (psA (t : Int) f b o h (n : Int)) 80)) 0 z8 0 0 zP 0
  rw [World.size_alloc] at p1
  have hbl := ((Below.refl w.heap.size w).alloc (Nat.le_refl _) (.cells (psA (t : Int) f b o h (n : Int)) 80)).alloc (by simp) (.cells (psA 0 z8 0 0 zP 0) 80)
  rw [← hPA, psZero] at p0 p1 hbl
  rw [← hPA]
  have HP := Lib.hid p0
  have HZ := Lib.hid p1
  have HB := Lib.hid hbl
  have HLen := Lib.hid hq.len
  have HQ := Lib.hid (show Bs.QV g (Bs.setAll S t (L.take 0)) (t : Int) f b o h n from hq)
  have HA := Lib.hid ha
  have HR := Lib.hid hm
  have HAT := Lib.hid (fun k (hk : k < L.length) => setAll_at (t := (t : Int)) hq.len hn hin hS hk)
  have HIN := Lib.hid hin
  have CW := Lib.hid (fun (f : Nat → Int) (b v : Nat) W (hb8 : b < 256) (hv : v < 8) => bgWith_any f b v (t : Int) W hb8 hv)
  have CO := Lib.hid (fun (f : Nat → Int) (b v : Nat) W (hb : Below w.heap.size w W) (hv : v < g.length) (hf : ∀ i, i < 8 → 0 ≤ f i ∧ f i ≤ 100000) => over_any f b A c g v lo hi W (hg.below hb hh) (Nat.le_trans hh hb.size) hF hv hf)
  have HF := Lib.hid hF
  clear p0 p1 hbl hq ha hm hn hin hS hg hF hPA
  go_enter Try.func67, Try.ntmps67
  go_wp2
  go_loopw [11] (fun i wr => ∃ (k : Nat) (f' : Nat → Int) (b' : Nat) (h' : Nat → Int × Int) (n' : Nat), k ≤ L.length ∧ i = .int .i64 k ∧ Bs.QV g (Bs.setAll S t (L.take k)) (t : Int) f' b' o h' n' ∧ Bs.Aft (t : Int) h' n' ∧ PS wr w.heap.size (t : Int) f' b' o h' (n' : Int) ∧ PS wr (w.heap.size + 1) 0 z8 0 0 zP 0 ∧ Below w.heap.size w wr) (fun i _ => L.length - (intOf i).toNat)
  case atStart => exact ⟨0, f, b, h, n, Nat.zero_le _, rfl, HQ.out, HA.out, HP.out, HZ.out, HB.out⟩
  case round =>
    clear HP HZ HB HQ HA
    obtain ⟨k, f', b', h', n', hk, rfl, hq, ha, hP, hZ, hb⟩ := hrel
    by_cases hlt : k < L.length
    · obtain ⟨br, or_, rfl, _, _, hc⟩ := (HR.out.below hb hh1).at_ hlt
      have hx := HIN.out _ (List.getElem_mem hlt)
      obtain ⟨e200, est⟩ := HAT.out k hlt
      obtain ⟨x, hxv⟩ : ∃ x : Nat, L[k] = (x : Int) := ⟨L[k].toNat, by omega⟩
      rw [hxv] at hx hc e200 est
      rw [Int.toNat_natCast] at e200 est
      have hn8 := hq.nlt (x := x) (by omega) e200
      have hqn := hq.begin_ HF.out (x := x) (by omega) e200 (by omega) (by omega)
      have han := hq.aft_begin ha HF.out (x := x) (by omega)
      rw [← est] at hqn
      have C1 := Lib.hid (fun W => CW.out f' b' x W (hq.blt hgl) (by omega))
      have C2 := Lib.hid (fun W hb => CO.out (Bs.upd f' x (t : Int)) (b' ||| 1 <<< x) x W hb (by omega) (fun i _ => by have := hqn.fb i; omega))
      have hut : Bs.upd f' x (t : Int) x = (t : Int) := Bs.upd_at _ _ _
      rw [hut] at C2
      have C3 := Lib.hid (fun W => qWith_any h' n' (x : Int) ((t : Int) + Bs.timeOf g x) (by omega) W)
      have HQ := Lib.hid hqn
      have HA := Lib.hid (show Bs.Aft (t : Int) (Bs.insF h' n' ((x : Int), (t : Int) + Bs.timeOf g x)) (n' + 1) from han)
      have HP := Lib.hid hP
      have HZ := Lib.hid hZ
      have HB := Lib.hid hb
      have sr := hb.size
      have sz := hZ.lt
      have k0 := hP.now
      have i0 : (0 : Int) ≤ (k : Int) := by omega
      have i1 : (k : Int) < (L.length : Int) := by omega
      clear hq ha hP hZ hb hqn han hxv e200 est hut hn8 HAT HIN CW CO HF HR
      obtain ⟨f1, hf1⟩ : ∃ f1, f1 = Bs.upd f' x (t : Int) := ⟨_, rfl⟩
      obtain ⟨b1, hb1⟩ : ∃ b1, b1 = b' ||| 1 <<< x := ⟨_, rfl⟩
      obtain ⟨te, hte⟩ : ∃ te, te = (t : Int) + Bs.timeOf g x := ⟨_, rfl⟩
      rw [← hf1, ← hb1] at C1 C2 HQ
      rw [← hte] at C2 C3 HQ HA
      obtain ⟨hn, hhn⟩ : ∃ hn, hn = Bs.insF h' n' ((x : Int), te) := ⟨_, rfl⟩
      rw [← hhn] at C3 HQ HA
      clear hf1 hb1 hte hhn
      go_wp2_with (first | (refine ps_plan rfl _ rfl w.heap.size (t : Int) f' b' o h' (n' : Int) rfl HP.out ?_))
      with_reducible refine (C1.out _).mono ?_
      rintro e w2 ⟨rfl, hb2⟩
      have HP2 := Lib.hid (HP.out.below hb2 HP.out.lt)
      have HZ2 := Lib.hid (HZ.out.below hb2 HZ.out.lt)
      have HB2 := Lib.hid (HB.out.trans (hb2.mono sr))
      have s2 := hb2.size
      clear hb2 HP HZ HB C1 k0
      go_wp2_with (first | (refine ps_setPlan2 rfl _ _ rfl w.heap.size (t : Int) f' f1 b' b1 o h' (n' : Int) rfl rfl HP2.out ?_; intro w3 h3 o3; have H3 := Lib.hid h3; have Z3 := Lib.hid (show PS w3 (w.heap.size + 1) 0 z8 0 0 zP 0 from o3.blk HZ2.out (by omega)); have B3 := Lib.hid (HB2.out.trans (o3.below (Nat.le_refl _))); have s3 := o3.size; clear h3 o3))
      clear HP2 HZ2 HB2
      have H4 := Lib.hid (show PS w3.drew w.heap.size (t : Int) f1 b1 o h' (n' : Int) from H3.out)
      have Z4 := Lib.hid (show PS w3.drew (w.heap.size + 1) 0 z8 0 0 zP 0 from Z3.out)
      have B4 := Lib.hid (show Below w.heap.size w w3.drew from B3.out.drewN 1)
      refine wp_region_held_drew (S := PH w.heap.size (t : Int) f1 b1 o) (by kernel_rfl) ⟨_, _, H4.out⟩ (fun hHeld => ?_)
      clear H3 Z3 B3
      have s4 : w3.drew.heap.size = w3.heap.size := rfl
      rw [s3] at s4
      clear s3
      generalize w3.drew = w4 at *
      refine wpAnyH_take (i := 0) (v := .pointer (some ⟨w.heap.size, 11, none⟩)) rfl (by kernel_rfl) (by kernel_rfl) (by kernel_rfl) (fun _ _ _ h => h) (Or.inl ⟨by rfl, fun W hS => by first | rfl | (go_simp; done) | (go_simp; rfl)⟩) hHeld ?_
      try simp only [Act.put, List.getElem_toArray, List.getElem_cons_zero, List.getElem_cons_succ, List.setIfInBounds_toArray, List.set_cons_zero, List.set_cons_succ]
      refine wpAnyH_take (i := 2) (v := .int .i64 (x : Int)) rfl (by kernel_rfl) (by kernel_rfl) (by kernel_rfl) (fun _ _ _ h => h) (Or.inl ⟨by rfl, fun W hS => by first | rfl | (go_simp; done) | (go_simp; rfl)⟩) hHeld ?_
      try simp only [Act.put, List.getElem_toArray, List.getElem_cons_zero, List.getElem_cons_succ, List.setIfInBounds_toArray, List.set_cons_zero, List.set_cons_succ]
      refine wpAnyH_take (i := 3) (v := .pointer (some ⟨w.heap.size, 1, none⟩)) rfl (by kernel_rfl) (by kernel_rfl) (by kernel_rfl) (fun _ _ _ h => h) (Or.inl ⟨by rfl, fun W hS => by first | rfl | (go_simp; done) | (go_simp; rfl)⟩) hHeld ?_
      try simp only [Act.put, List.getElem_toArray, List.getElem_cons_zero, List.getElem_cons_succ, List.setIfInBounds_toArray, List.set_cons_zero, List.set_cons_succ]
      refine wpAnyH_take (i := 4) (v := .agg (bgA f1 b1)) rfl (by kernel_rfl) (by kernel_rfl) (by kernel_rfl) (fun _ _ _ h => h) (Or.inl ⟨by rfl, fun W hS => by obtain ⟨_, _, hS⟩ := hS; exact run_ps_plan _ rfl w.heap.size rfl hS⟩) hHeld ?_
      try simp only [Act.put, List.getElem_toArray, List.getElem_cons_zero, List.getElem_cons_succ, List.setIfInBounds_toArray, List.set_cons_zero, List.set_cons_succ]
      refine wpAnyH_take (i := 5) (v := .slice A g.length c) rfl (by kernel_rfl) (by kernel_rfl) (by kernel_rfl) (fun _ _ _ h => h) (Or.inl ⟨by rfl, fun W hS => by first | rfl | (go_simp; done) | (go_simp; rfl)⟩) hHeld ?_
      try simp only [Act.put, List.getElem_toArray, List.getElem_cons_zero, List.getElem_cons_succ, List.setIfInBounds_toArray, List.set_cons_zero, List.set_cons_succ]
      refine wpAnyH_take (i := 6) (v := .int .i64 (x : Int)) rfl (by kernel_rfl) (by kernel_rfl) (by kernel_rfl) (fun _ _ _ h => h) (Or.inl ⟨by rfl, fun W hS => by first | rfl | (go_simp; done) | (go_simp; rfl)⟩) hHeld ?_
      try simp only [Act.put, List.getElem_toArray, List.getElem_cons_zero, List.getElem_cons_succ, List.setIfInBounds_toArray, List.set_cons_zero, List.set_cons_succ]
      refine wpAnyH_ready (rs := [1, 7]) (by kernel_rfl) (by simp) ?_
      refine AllReadyH.cons rfl (fun K hK => ?_) ?_
      · rw [if_pos (by rfl)]
        refine wp_ps_ends _ rfl w.heap.size (t : Int) f1 b1 o h' (n' : Int) rfl H4.out ?_
        refine hK.out _ _ ⟨_, _, H4.out⟩ (fun hHeld => ?_)
        clear hK K
        try simp only [Act.put, List.getElem_toArray, List.getElem_cons_zero, List.getElem_cons_succ, List.setIfInBounds_toArray, List.set_cons_zero, List.set_cons_succ]
        refine wpAnyH_ready (rs := [7]) (by kernel_rfl) (by simp) ?_
        refine AllReadyH.cons rfl (fun K hK => ?_) AllReadyH.nil
        rw [if_pos (by rfl)]
        go_simp
        go_at_call 90
        with_reducible refine (C2.out _ B4.out).mono ?_
        rintro e w5 ⟨rfl, hb5⟩
        have H5 := Lib.hid (H4.out.below hb5 H4.out.lt)
        have Z5 := Lib.hid (Z4.out.below hb5 Z4.out.lt)
        have B5 := Lib.hid (B4.out.trans (hb5.mono B4.out.size))
        clear hb5
        go_wp2_with fail
        refine hK.out _ _ ⟨_, _, H5.out⟩ (fun hHeld => ?_)
        clear hK K
        try simp only [Act.put, List.getElem_toArray, List.getElem_cons_zero, List.getElem_cons_succ, List.setIfInBounds_toArray, List.set_cons_zero, List.set_cons_succ]
        refine wpAnyH_take (i := 8) (v := .agg #[.int .i64 (x : Int), .int .i64 te]) rfl (by kernel_rfl) (by kernel_rfl) (by kernel_rfl) (fun _ _ _ h => h) (Or.inl ⟨by rfl, fun W hS => by first | rfl | (go_simp; done) | (go_simp; rfl)⟩) hHeld ?_
        try simp only [Act.put, List.getElem_toArray, List.getElem_cons_zero, List.getElem_cons_succ, List.setIfInBounds_toArray, List.set_cons_zero, List.set_cons_succ]
        try simp only [Act.put, List.getElem_toArray, List.getElem_cons_zero, List.getElem_cons_succ, List.setIfInBounds_toArray, List.set_cons_zero, List.set_cons_succ]
        refine wpAnyH_ready (rs := [9]) (by kernel_rfl) (by simp) ?_
        refine AllReadyH.cons rfl (fun K hK => ?_) AllReadyH.nil
        rw [if_pos (by rfl)]
        go_simp
        go_at_call 98
        with_reducible refine (C3.out _).mono ?_
        rintro e w6 ⟨rfl, hb6⟩
        have H6 := Lib.hid (H5.out.below hb6 H5.out.lt)
        have Z6 := Lib.hid (Z5.out.below hb6 Z5.out.lt)
        have B6 := Lib.hid (B5.out.trans (hb6.mono B5.out.size))
        clear hb6
        go_wp2_with fail
        refine hK.out _ _ ⟨_, _, H6.out⟩ (fun hHeld => ?_)
        clear hK K
        try simp only [Act.put, List.getElem_toArray, List.getElem_cons_zero, List.getElem_cons_succ, List.setIfInBounds_toArray, List.set_cons_zero, List.set_cons_succ]
        refine wpAnyH_take (i := 10) (v := .pointer (some ⟨w.heap.size, 11, none⟩)) rfl (by kernel_rfl) (by kernel_rfl) (by kernel_rfl) (fun _ _ _ h => h) (Or.inl ⟨by rfl, fun W hS => by first | rfl | (go_simp; done) | (go_simp; rfl)⟩) hHeld ?_
        try simp only [Act.put, List.getElem_toArray, List.getElem_cons_zero, List.getElem_cons_succ, List.setIfInBounds_toArray, List.set_cons_zero, List.set_cons_succ]
        refine wpAnyH_ready (rs := [11]) (by kernel_rfl) (by simp) ?_
        refine AllReadyH.cons rfl (fun K hK => ?_) AllReadyH.nil
        rw [if_pos (by rfl)]
        refine wp_ps_setEnds _ _ rfl w.heap.size (t : Int) f1 b1 o h' hn (n' : Int) ((n' : Int) + 1) rfl rfl H6.out ?_
        intro w7 h7 o7
        have H7 := Lib.hid h7
        have Z7 := Lib.hid (show PS w7 (w.heap.size + 1) 0 z8 0 0 zP 0 from o7.blk Z6.out (by omega))
        have B7 := Lib.hid (B6.out.trans (o7.below (Nat.le_refl _)))
        clear h7 o7
        refine hK.out _ _ ⟨_, _, H7.out⟩ (fun hHeld => ?_)
        clear hK K hHeld
        try simp only [Act.put, List.getElem_toArray, List.getElem_cons_zero, List.getElem_cons_succ, List.setIfInBounds_toArray, List.set_cons_zero, List.set_cons_succ]
        refine wpAnyH_done (by kernel_rfl) ?_ _
        clear H6 Z6 B6 H5 Z5 B5 H4 Z4 B4 C2 C3
        go_wp2
        go_roundw
        case rel => exact ⟨k + 1, f1, b1, hn, n' + 1, by omega, by go_num, HQ.out, HA.out, H7.out, Z7.out, B7.out⟩
        case measure => simp [intOf]; omega
      refine AllReadyH.cons rfl (fun K hK => ?_) AllReadyH.nil
      rw [if_pos (by rfl)]
      go_simp
      go_at_call 90
      with_reducible refine (C2.out _ B4.out).mono ?_
      rintro e w5 ⟨rfl, hb5⟩
      have H5 := Lib.hid (H4.out.below hb5 H4.out.lt)
      have Z5 := Lib.hid (Z4.out.below hb5 Z4.out.lt)
      have B5 := Lib.hid (B4.out.trans (hb5.mono B4.out.size))
      clear hb5
      go_wp2_with fail
      refine hK.out _ _ ⟨_, _, H5.out⟩ (fun hHeld => ?_)
      clear hK K
      try simp only [Act.put, List.getElem_toArray, List.getElem_cons_zero, List.getElem_cons_succ, List.setIfInBounds_toArray, List.set_cons_zero, List.set_cons_succ]
      refine wpAnyH_take (i := 8) (v := .agg #[.int .i64 (x : Int), .int .i64 te]) rfl (by kernel_rfl) (by kernel_rfl) (by kernel_rfl) (fun _ _ _ h => h) (Or.inl ⟨by rfl, fun W hS => by first | rfl | (go_simp; done) | (go_simp; rfl)⟩) hHeld ?_
      try simp only [Act.put, List.getElem_toArray, List.getElem_cons_zero, List.getElem_cons_succ, List.setIfInBounds_toArray, List.set_cons_zero, List.set_cons_succ]
      refine wpAnyH_ready (rs := [1]) (by kernel_rfl) (by simp) ?_
      refine AllReadyH.cons rfl (fun K hK => ?_) AllReadyH.nil
      rw [if_pos (by rfl)]
      refine wp_ps_ends _ rfl w.heap.size (t : Int) f1 b1 o h' (n' : Int) rfl H5.out ?_
      refine hK.out _ _ ⟨_, _, H5.out⟩ (fun hHeld => ?_)
      clear hK K
      try simp only [Act.put, List.getElem_toArray, List.getElem_cons_zero, List.getElem_cons_succ, List.setIfInBounds_toArray, List.set_cons_zero, List.set_cons_succ]
      refine wpAnyH_ready (rs := [9]) (by kernel_rfl) (by simp) ?_
      refine AllReadyH.cons rfl (fun K hK => ?_) AllReadyH.nil
      rw [if_pos (by rfl)]
      go_simp
      go_at_call 98
      with_reducible refine (C3.out _).mono ?_
      rintro e w6 ⟨rfl, hb6⟩
      have H6 := Lib.hid (H5.out.below hb6 H5.out.lt)
      have Z6 := Lib.hid (Z5.out.below hb6 Z5.out.lt)
      have B6 := Lib.hid (B5.out.trans (hb6.mono B5.out.size))
      clear hb6
      go_wp2_with fail
      refine hK.out _ _ ⟨_, _, H6.out⟩ (fun hHeld => ?_)
      clear hK K
      try simp only [Act.put, List.getElem_toArray, List.getElem_cons_zero, List.getElem_cons_succ, List.setIfInBounds_toArray, List.set_cons_zero, List.set_cons_succ]
      refine wpAnyH_take (i := 10) (v := .pointer (some ⟨w.heap.size, 11, none⟩)) rfl (by kernel_rfl) (by kernel_rfl) (by kernel_rfl) (fun _ _ _ h => h) (Or.inl ⟨by rfl, fun W hS => by first | rfl | (go_simp; done) | (go_simp; rfl)⟩) hHeld ?_
      try simp only [Act.put, List.getElem_toArray, List.getElem_cons_zero, List.getElem_cons_succ, List.setIfInBounds_toArray, List.set_cons_zero, List.set_cons_succ]
      refine wpAnyH_ready (rs := [11]) (by kernel_rfl) (by simp) ?_
      refine AllReadyH.cons rfl (fun K hK => ?_) AllReadyH.nil
      rw [if_pos (by rfl)]
      refine wp_ps_setEnds _ _ rfl w.heap.size (t : Int) f1 b1 o h' hn (n' : Int) ((n' : Int) + 1) rfl rfl H6.out ?_
      intro w7 h7 o7
      have H7 := Lib.hid h7
      have Z7 := Lib.hid (show PS w7 (w.heap.size + 1) 0 z8 0 0 zP 0 from o7.blk Z6.out (by omega))
      have B7 := Lib.hid (B6.out.trans (o7.below (Nat.le_refl _)))
      clear h7 o7
      refine hK.out _ _ ⟨_, _, H7.out⟩ (fun hHeld => ?_)
      clear hK K hHeld
      try simp only [Act.put, List.getElem_toArray, List.getElem_cons_zero, List.getElem_cons_succ, List.setIfInBounds_toArray, List.set_cons_zero, List.set_cons_succ]
      refine wpAnyH_done (by kernel_rfl) ?_ _
      clear H6 Z6 B6 H5 Z5 B5 H4 Z4 B4 C2 C3
      go_wp2
      go_roundw
      case rel => exact ⟨k + 1, f1, b1, hn, n' + 1, by omega, by go_num, HQ.out, HA.out, H7.out, Z7.out, B7.out⟩
      case measure => simp [intOf]; omega
    · obtain rfl : k = L.length := by omega
      rw [List.take_length] at hq
      have HQ := Lib.hid hq
      have HA := Lib.hid ha
      have HP := Lib.hid hP
      have HZ := Lib.hid hZ
      have HB := Lib.hid hb
      clear hq ha hP hZ hb HAT HIN CW CO HF HR
      go_wp2_with (first
        | (refine ps_load rfl _ rfl w.heap.size (t : Int) f' b' o h' (n' : Int) rfl HP.out ?_)
        | (refine ps_store rfl _ _ rfl (w.heap.size + 1) 0 (t : Int) z8 f' 0 b' 0 o zP h' 0 (n' : Int) rfl rfl HZ.out ?_; intro w9 h9 o9))
      exact bodyPost_ret (ps_ret rfl _ _ (w.heap.size + 1) (t : Int) f' b' o h' (n' : Int) rfl h9) rfl ⟨⟨f', b', h', n', rfl, HQ.out, HA.out⟩, HB.out.trans (o9.below (by omega))⟩
end Go.Proofs.Ytfholjgndpefdaa
