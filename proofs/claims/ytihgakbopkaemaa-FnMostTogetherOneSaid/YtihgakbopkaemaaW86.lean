/-
  WALKS: plans of the program: the whole function.
-/
import Derived.Test.YtihgakbopkaemaaK34
import Derived.Test.YtihgakbopkaemaaK18
namespace Go.Proofs.Ytihgakbopkaemaa
open Go.RowKit
/-- the time of a plan, in memory -/
def psT (w : World) (a : Nat) : Nat := match w.cell? ⟨a, 0, none⟩ with | some (.int _ n) => n.toNat | _ => 0
theorem PS.time {w : World} {a : Nat} {t : Int} {f : Nat → Int} {b o : Nat} {h : Nat → Int × Int} {n : Int} (p : PS w a t f b o h n) : psT w a = t.toNat := by
  unfold psT
  rw [p.now]
theorem wp_ps_store {op : Oper} {c : Act} {w : World} {K : Act → World → Prop} {Q : Exit → Act → World → Prop} (x y : Operand) (ho : op.op = .store 88 x y) (a : Nat) (t t' : Int) (f f' : Nat → Int) (b b' o o' : Nat) (h h' : Nat → Int × Int) (n n' : Int) (hx : c.eval x = .pointer (some ⟨a, 0, none⟩)) (hy : c.eval y = .agg (psA t' f' b' o' h' n')) (hb : PS w a t f b o h n)
    (hk : ∀ w', PS w' a t' f' b' o' h' n' → OnlyB a w w' → K (c.put op.dst undef) w') : op.wp Try.prog c w K Q :=
  wp_store_row 88 x y ho a (psA t' f' b' o' h' n') hx hy 88 (psA t f b o h n) hb psSize rfl (psOne _ _ _ _ _ _) (hk _ (psRow_only w a t t' f f' b b' o o' h h' n n' hb).1 (psRow_only w a t t' f f' b b' o o' h h' n n' hb).2)
set_option linter.unusedSimpArgs false in
set_option maxRecDepth 20000 in
set_option maxHeartbeats 6400000 in
theorem PlanStarts_any (A : Option Addr) (c : Nat) (g : List Bs.T) (A1 : Option Addr) (c1 : Nat) (m : List Int) (wk : Int) (lo hi l1 h1 : Nat) (w : World) (hg : RG w lo hi A g) (hh : hi ≤ w.heap.size) (hm : RI w l1 h1 A1 m) (hh1 : h1 ≤ w.heap.size) (hl : g.length ≤ 9223372036854775807) (hml : m.length ≤ 9223372036854775807) :
    Calls Try.prog 32 #[.slice A g.length c, .slice A1 m.length c1, .int .i64 wk] w (RetI w (Bs.planL g m wk)) := by
  have q1 := canPlan_any A c g A1 c1 m wk lo hi l1 h1 w hg hh hm hh1 hl hml
  cases hv : Bs.canV g m wk
  · rw [hv] at q1
    have C1 := Lib.hid q1
    have HV := Lib.hid (Bs.planL_no hv)
    clear q1 hv hg hm
    go_enter Try.func32, Try.ntmps32
    go_wp2_with fail
    with_reducible refine (C1.out).mono ?_
    rintro e w1 ⟨rfl, hb⟩
    have HB := Lib.hid hb
    clear hb
    go_wp2
    go_ret
    exact RetI.nil HB.out HV.out
  rw [hv] at q1
  have C1 := Lib.hid q1
  obtain ⟨hval, hroom, hw1, hw4⟩ := Bs.canV_iff.1 hv
  have hF := valid_fine hval
  have h8 := Bs.fine_len hF
  have CA := Lib.hid (fun (k : Nat) (f : Nat → Int) (b o : Nat) (h : Nat → Int × Int) (n : Nat) (hq : Bs.QV g (Bs.planK g m wk k) (k : Int) f b o h n) (ha : Bs.Aft (k : Int) h n) (hk : k < 200) W (hb : Below w.heap.size w W) => show Calls Try.prog 65 #[.agg (psA (k : Int) f b o h (n : Int)), .slice A g.length c, .slice A1 m.length c1, .int .i64 wk] W (RetI W (Bs.planNext g m wk (Bs.planK g m wk k) k)) from by
    have q := admitted_any (k : Int) f b o h (n : Int) A c g A1 c1 m wk lo hi l1 h1 W (hg.below hb hh) (Nat.le_trans hh hb.size) (hm.below hb hh1) (Nat.le_trans hh1 hb.size) hF (hq.blt h8) (hq.olt h8) (fun i _ => by have := hq.fb i; omega) hml
    rw [hq.adm ha hk (Bs.PJ.all hv k (by omega)) hv] at q
    exact q)
  have CB := Lib.hid (fun (k : Nat) (f : Nat → Int) (b o : Nat) (h : Nat → Int × Int) (n : Nat) (hq : Bs.QV g (Bs.planK g m wk k) (k : Int) f b o h n) (ha : Bs.Aft (k : Int) h n) (hk : k < 200) (A3 : Option Addr) (c3 l3 h3 : Nat) W (hb : Below w.heap.size w W) (hR : RI W l3 h3 A3 (Bs.planNext g m wk (Bs.planK g m wk k) k)) (hh3 : h3 ≤ W.heap.size) => show Calls Try.prog 64 #[.agg (psA (k : Int) f b o h (n : Int)), .slice A g.length c, .slice A3 (Bs.planNext g m wk (Bs.planK g m wk k) k).length c3] W fun e w' => (∃ (f' : Nat → Int) (b' : Nat) (h' : Nat → Int × Int) (n' : Nat), e = .returned (.agg (psA (k : Int) f' b' o h' (n' : Int))) ∧ Bs.QV g (Bs.planK g m wk (k + 1)) (k : Int) f' b' o h' n' ∧ Bs.Aft (k : Int) h' n') ∧ Below W.heap.size W w' from
    begin_any k (Bs.planK g m wk k) f b o h n (Bs.planNext g m wk (Bs.planK g m wk k) k) A c g A3 c3 lo hi l3 h3 W (hg.below hb hh) (Nat.le_trans hh hb.size) hR hh3 hF hk hq ha (Bs.next_nodup (Bs.PJ.all hv k (by omega)).pi hk hF) (Bs.next_in hF) (fun x hx => by
      have hxb := Bs.next_in hF x hx
      obtain ⟨z, rfl⟩ : ∃ z : Nat, x = z := ⟨x.toNat, by omega⟩
      rw [Int.toNat_natCast]
      exact Bs.next_free hF hx))
  have CG := Lib.hid (fun (t : Int) (S : List Int) (f : Nat → Int) (b o : Nat) (h : Nat → Int × Int) (n : Nat) W (hq : Bs.QV g S t f b o h n) (hn : 0 < n) => goOn_any t S f b o h n g W h8 hq hn)
  have CL := Lib.hid (fun (k : Nat) (f : Nat → Int) (b o : Nat) (h : Nat → Int × Int) (hq : Bs.QV g (Bs.planK g m wk (k + 1)) (k : Int) f b o h 0) (hk : k < 200) W => show Calls Try.prog 67 #[.agg (bgA f b), .slice A g.length c] W (RetI W (Bs.planL g m wk)) from by
    have q := bgList_any f b A c g W h8
    rw [hq.finish hv hk] at q
    exact q)
  have HJ := Lib.hid (fun (k : Nat) (f : Nat → Int) (b o : Nat) (h : Nat → Int × Int) (n : Nat) (hk : k < 200) (hq : Bs.QV g (Bs.planK g m wk (k + 1)) (k : Int) f b o h n) (ha : Bs.Aft (k : Int) h n) (hn : 0 < n) => hq.jump hv hk ha hn)
  have HS := Lib.hid (show Bs.QV g (Bs.planK g m wk 0) ((0 : Nat) : Int) z8 0 0 zP 0 from Bs.QV.start g)
  have HA0 := Lib.hid (show Bs.Aft ((0 : Nat) : Int) zP 0 from fun j hj => by omega)
  clear q1 hv hg hm hval hroom hF h8 hw1 hw4
  go_enter Try.func32, Try.ntmps32
  go_wp2_with fail
  with_reducible refine (C1.out).mono ?_
  rintro e w2 ⟨rfl, hb⟩
  have p0 := PS.new w2 0 z8 0 0 zP 0
  have hbl := hb.alloc hb.size (.cells (psA 0 z8 0 0 zP 0) 88)
  rw [psZero] at p0 hbl
  have HP0 := Lib.hid p0
  have HB0 := Lib.hid hbl
  have s2 := hb.size
  clear hb C1 p0 hbl
  go_upto_region 3 with fail
  go_wp2_with (first | (refine ps_store rfl _ _ rfl w2.heap.size 0 0 z8 z8 0 0 0 0 zP zP 0 0 rfl rfl HP0.out ?_; intro wz h9 o9; have HP := Lib.hid (show PS wz w2.heap.size 0 z8 0 0 zP 0 from h9); have HB := Lib.hid (HB0.out.trans (o9.below s2)); clear h9 o9))
  clear HP0 HB0
  have CA1 := Lib.hid (fun W hb => CA.out 0 z8 0 0 zP 0 HS.out HA0.out (by omega) W hb)
  have CB1 := Lib.hid (fun A3 c3 l3 h3 W hb hR hh3 => CB.out 0 z8 0 0 zP 0 HS.out HA0.out (by omega) A3 c3 l3 h3 W hb hR hh3)
  rw [show ((0 : Nat) : Int) = 0 from rfl] at CA1 CB1
  simp only [Act.put]
  go_cut [] from 14 to 21 (fun wx => ∃ (f' : Nat → Int) (b' : Nat) (h' : Nat → Int × Int) (n' : Nat), Bs.QV g (Bs.planK g m wk (0 + 1)) 0 f' b' 0 h' n' ∧ Bs.Aft 0 h' n' ∧ PS wx w2.heap.size 0 f' b' 0 h' (n' : Int) ∧ Below w.heap.size w wx)
  case first =>
    refine wp_region_held_drew (S := fun _ => True) (by kernel_rfl) trivial (fun hHeld => ?_)
    have H4 := Lib.hid (show PS wz.drew w2.heap.size 0 z8 0 0 zP 0 from HP.out)
    have B4 := Lib.hid (show Below w.heap.size w wz.drew from HB.out.drewN 1)
    clear HP HB
    generalize wz.drew = w4 at *
    refine wpAnyH_take (i := 1) (v := .slice A g.length c) rfl (by kernel_rfl) (by kernel_rfl) (by kernel_rfl) (fun _ _ _ h => h) (Or.inl ⟨by rfl, fun W hS => by first | rfl | (go_simp; done) | (go_simp; rfl)⟩) hHeld ?_
    try simp only [Act.put, List.getElem_toArray, List.getElem_cons_zero, List.getElem_cons_succ, List.setIfInBounds_toArray, List.set_cons_zero, List.set_cons_succ]
    refine wpAnyH_take (i := 3) (v := .slice A g.length c) rfl (by kernel_rfl) (by kernel_rfl) (by kernel_rfl) (fun _ _ _ h => h) (Or.inl ⟨by rfl, fun W hS => by first | rfl | (go_simp; done) | (go_simp; rfl)⟩) hHeld ?_
    try simp only [Act.put, List.getElem_toArray, List.getElem_cons_zero, List.getElem_cons_succ, List.setIfInBounds_toArray, List.set_cons_zero, List.set_cons_succ]
    refine wpAnyH_take (i := 4) (v := .slice A1 m.length c1) rfl (by kernel_rfl) (by kernel_rfl) (by kernel_rfl) (fun _ _ _ h => h) (Or.inl ⟨by rfl, fun W hS => by first | rfl | (go_simp; done) | (go_simp; rfl)⟩) hHeld ?_
    try simp only [Act.put, List.getElem_toArray, List.getElem_cons_zero, List.getElem_cons_succ, List.setIfInBounds_toArray, List.set_cons_zero, List.set_cons_succ]
    refine wpAnyH_take (i := 5) (v := .int .i64 wk) rfl (by kernel_rfl) (by kernel_rfl) (by kernel_rfl) (fun _ _ _ h => h) (Or.inl ⟨by rfl, fun W hS => by first | rfl | (go_simp; done) | (go_simp; rfl)⟩) hHeld ?_
    try simp only [Act.put, List.getElem_toArray, List.getElem_cons_zero, List.getElem_cons_succ, List.setIfInBounds_toArray, List.set_cons_zero, List.set_cons_succ]
    refine wpAnyH_ready (rs := [0, 2]) (by kernel_rfl) (by simp) ?_
    refine AllReadyH.cons rfl (fun K hK => ?_) ?_
    · rw [if_pos (by rfl)]
      refine wp_load_row 88 _ rfl w2.heap.size rfl 88 (psA 0 z8 0 0 zP 0) (0, 0) _ H4.out Try.underlying88 rfl psSize ?_
      refine hK.out _ _ trivial (fun hHeld => ?_)
      clear hK K
      try simp only [Act.put, List.getElem_toArray, List.getElem_cons_zero, List.getElem_cons_succ, List.setIfInBounds_toArray, List.set_cons_zero, List.set_cons_succ]
      refine wpAnyH_ready (rs := [2]) (by kernel_rfl) (by simp) ?_
      refine AllReadyH.cons rfl (fun K hK => ?_) AllReadyH.nil
      rw [if_pos (by rfl)]
      refine wp_load_row 88 _ rfl w2.heap.size rfl 88 (psA 0 z8 0 0 zP 0) (0, 0) _ H4.out Try.underlying88 rfl psSize ?_
      refine hK.out _ _ trivial (fun hHeld => ?_)
      clear hK K
      try simp only [Act.put, List.getElem_toArray, List.getElem_cons_zero, List.getElem_cons_succ, List.setIfInBounds_toArray, List.set_cons_zero, List.set_cons_succ]
      refine wpAnyH_ready (rs := [6]) (by kernel_rfl) (by simp) ?_
      refine AllReadyH.cons rfl (fun K hK => ?_) AllReadyH.nil
      rw [if_pos (by rfl)]
      go_simp
      go_at_call 65
      with_reducible refine (CA1.out _ B4.out).mono ?_
      rintro e w5 ⟨⟨A5, c5, rfl, ho5⟩, hb5⟩
      have H5 := Lib.hid (H4.out.below hb5 H4.out.lt)
      have B5 := Lib.hid (B4.out.trans (hb5.mono B4.out.size))
      have C5 := Lib.hid (CB1.out A5 c5 _ _ w5 B5.out ho5.ri (Nat.le_refl _))
      clear ho5 hb5
      go_wp2_with fail
      refine hK.out _ _ trivial (fun hHeld => ?_)
      clear hK K
      try simp only [Act.put, List.getElem_toArray, List.getElem_cons_zero, List.getElem_cons_succ, List.setIfInBounds_toArray, List.set_cons_zero, List.set_cons_succ]
      refine wpAnyH_ready (rs := [7]) (by kernel_rfl) (by simp) ?_
      refine AllReadyH.cons rfl (fun K hK => ?_) AllReadyH.nil
      rw [if_pos (by rfl)]
      go_simp
      go_at_call 64
      with_reducible refine (C5.out).mono ?_
      rintro e w6 ⟨⟨f6, b6, h6, n6, rfl, hq6, ha6⟩, hb6⟩
      have H6 := Lib.hid (H5.out.below hb6 H5.out.lt)
      have B6 := Lib.hid (B5.out.trans (hb6.mono B5.out.size))
      have Q6 := Lib.hid hq6
      have A6 := Lib.hid ha6
      clear hb6 hq6 ha6
      go_wp2_with fail
      refine hK.out _ _ trivial (fun hHeld => ?_)
      clear hK K
      try simp only [Act.put, List.getElem_toArray, List.getElem_cons_zero, List.getElem_cons_succ, List.setIfInBounds_toArray, List.set_cons_zero, List.set_cons_succ]
      refine wpAnyH_ready (rs := [8]) (by kernel_rfl) (by simp) ?_
      refine AllReadyH.cons rfl (fun K hK => ?_) AllReadyH.nil
      rw [if_pos (by rfl)]
      refine wp_ps_store _ _ rfl w2.heap.size 0 0 z8 f6 0 b6 0 0 zP h6 0 (n6 : Int) rfl rfl H6.out ?_
      intro w7 h7 o7
      have H7 := Lib.hid h7
      have B7 := Lib.hid (B6.out.trans (o7.below s2))
      have M7 := Lib.hid h7.time
      clear h7 o7
      refine hK.out _ _ trivial (fun hHeld => ?_)
      clear hK K hHeld
      try simp only [Act.put, List.getElem_toArray, List.getElem_cons_zero, List.getElem_cons_succ, List.setIfInBounds_toArray, List.set_cons_zero, List.set_cons_succ]
      refine wpAnyH_done (by kernel_rfl) ?_ _
      go_wp2_with fail
      go_meet
      exact ⟨f6, b6, h6, n6, Q6.out, A6.out, H7.out, B7.out⟩
    refine AllReadyH.cons rfl (fun K hK => ?_) AllReadyH.nil
    rw [if_pos (by rfl)]
    refine wp_load_row 88 _ rfl w2.heap.size rfl 88 (psA 0 z8 0 0 zP 0) (0, 0) _ H4.out Try.underlying88 rfl psSize ?_
    refine hK.out _ _ trivial (fun hHeld => ?_)
    clear hK K
    try simp only [Act.put, List.getElem_toArray, List.getElem_cons_zero, List.getElem_cons_succ, List.setIfInBounds_toArray, List.set_cons_zero, List.set_cons_succ]
    refine wpAnyH_ready (rs := [0, 6]) (by kernel_rfl) (by simp) ?_
    refine AllReadyH.cons rfl (fun K hK => ?_) ?_
    · rw [if_pos (by rfl)]
      refine wp_load_row 88 _ rfl w2.heap.size rfl 88 (psA 0 z8 0 0 zP 0) (0, 0) _ H4.out Try.underlying88 rfl psSize ?_
      refine hK.out _ _ trivial (fun hHeld => ?_)
      clear hK K
      try simp only [Act.put, List.getElem_toArray, List.getElem_cons_zero, List.getElem_cons_succ, List.setIfInBounds_toArray, List.set_cons_zero, List.set_cons_succ]
      refine wpAnyH_ready (rs := [6]) (by kernel_rfl) (by simp) ?_
      refine AllReadyH.cons rfl (fun K hK => ?_) AllReadyH.nil
      rw [if_pos (by rfl)]
      go_simp
      go_at_call 65
      with_reducible refine (CA1.out _ B4.out).mono ?_
      rintro e w5 ⟨⟨A5, c5, rfl, ho5⟩, hb5⟩
      have H5 := Lib.hid (H4.out.below hb5 H4.out.lt)
      have B5 := Lib.hid (B4.out.trans (hb5.mono B4.out.size))
      have C5 := Lib.hid (CB1.out A5 c5 _ _ w5 B5.out ho5.ri (Nat.le_refl _))
      clear ho5 hb5
      go_wp2_with fail
      refine hK.out _ _ trivial (fun hHeld => ?_)
      clear hK K
      try simp only [Act.put, List.getElem_toArray, List.getElem_cons_zero, List.getElem_cons_succ, List.setIfInBounds_toArray, List.set_cons_zero, List.set_cons_succ]
      refine wpAnyH_ready (rs := [7]) (by kernel_rfl) (by simp) ?_
      refine AllReadyH.cons rfl (fun K hK => ?_) AllReadyH.nil
      rw [if_pos (by rfl)]
      go_simp
      go_at_call 64
      with_reducible refine (C5.out).mono ?_
      rintro e w6 ⟨⟨f6, b6, h6, n6, rfl, hq6, ha6⟩, hb6⟩
      have H6 := Lib.hid (H5.out.below hb6 H5.out.lt)
      have B6 := Lib.hid (B5.out.trans (hb6.mono B5.out.size))
      have Q6 := Lib.hid hq6
      have A6 := Lib.hid ha6
      clear hb6 hq6 ha6
      go_wp2_with fail
      refine hK.out _ _ trivial (fun hHeld => ?_)
      clear hK K
      try simp only [Act.put, List.getElem_toArray, List.getElem_cons_zero, List.getElem_cons_succ, List.setIfInBounds_toArray, List.set_cons_zero, List.set_cons_succ]
      refine wpAnyH_ready (rs := [8]) (by kernel_rfl) (by simp) ?_
      refine AllReadyH.cons rfl (fun K hK => ?_) AllReadyH.nil
      rw [if_pos (by rfl)]
      refine wp_ps_store _ _ rfl w2.heap.size 0 0 z8 f6 0 b6 0 0 zP h6 0 (n6 : Int) rfl rfl H6.out ?_
      intro w7 h7 o7
      have H7 := Lib.hid h7
      have B7 := Lib.hid (B6.out.trans (o7.below s2))
      have M7 := Lib.hid h7.time
      clear h7 o7
      refine hK.out _ _ trivial (fun hHeld => ?_)
      clear hK K hHeld
      try simp only [Act.put, List.getElem_toArray, List.getElem_cons_zero, List.getElem_cons_succ, List.setIfInBounds_toArray, List.set_cons_zero, List.set_cons_succ]
      refine wpAnyH_done (by kernel_rfl) ?_ _
      go_wp2_with fail
      go_meet
      exact ⟨f6, b6, h6, n6, Q6.out, A6.out, H7.out, B7.out⟩
    refine AllReadyH.cons rfl (fun K hK => ?_) AllReadyH.nil
    rw [if_pos (by rfl)]
    go_simp
    go_at_call 65
    with_reducible refine (CA1.out _ B4.out).mono ?_
    rintro e w5 ⟨⟨A5, c5, rfl, ho5⟩, hb5⟩
    have H5 := Lib.hid (H4.out.below hb5 H4.out.lt)
    have B5 := Lib.hid (B4.out.trans (hb5.mono B4.out.size))
    have C5 := Lib.hid (CB1.out A5 c5 _ _ w5 B5.out ho5.ri (Nat.le_refl _))
    clear ho5 hb5
    go_wp2_with fail
    refine hK.out _ _ trivial (fun hHeld => ?_)
    clear hK K
    try simp only [Act.put, List.getElem_toArray, List.getElem_cons_zero, List.getElem_cons_succ, List.setIfInBounds_toArray, List.set_cons_zero, List.set_cons_succ]
    refine wpAnyH_ready (rs := [0]) (by kernel_rfl) (by simp) ?_
    refine AllReadyH.cons rfl (fun K hK => ?_) AllReadyH.nil
    rw [if_pos (by rfl)]
    refine wp_load_row 88 _ rfl w2.heap.size rfl 88 (psA 0 z8 0 0 zP 0) (0, 0) _ H5.out Try.underlying88 rfl psSize ?_
    refine hK.out _ _ trivial (fun hHeld => ?_)
    clear hK K
    try simp only [Act.put, List.getElem_toArray, List.getElem_cons_zero, List.getElem_cons_succ, List.setIfInBounds_toArray, List.set_cons_zero, List.set_cons_succ]
    refine wpAnyH_ready (rs := [7]) (by kernel_rfl) (by simp) ?_
    refine AllReadyH.cons rfl (fun K hK => ?_) AllReadyH.nil
    rw [if_pos (by rfl)]
    go_simp
    go_at_call 64
    with_reducible refine (C5.out).mono ?_
    rintro e w6 ⟨⟨f6, b6, h6, n6, rfl, hq6, ha6⟩, hb6⟩
    have H6 := Lib.hid (H5.out.below hb6 H5.out.lt)
    have B6 := Lib.hid (B5.out.trans (hb6.mono B5.out.size))
    have Q6 := Lib.hid hq6
    have A6 := Lib.hid ha6
    clear hb6 hq6 ha6
    go_wp2_with fail
    refine hK.out _ _ trivial (fun hHeld => ?_)
    clear hK K
    try simp only [Act.put, List.getElem_toArray, List.getElem_cons_zero, List.getElem_cons_succ, List.setIfInBounds_toArray, List.set_cons_zero, List.set_cons_succ]
    refine wpAnyH_ready (rs := [8]) (by kernel_rfl) (by simp) ?_
    refine AllReadyH.cons rfl (fun K hK => ?_) AllReadyH.nil
    rw [if_pos (by rfl)]
    refine wp_ps_store _ _ rfl w2.heap.size 0 0 z8 f6 0 b6 0 0 zP h6 0 (n6 : Int) rfl rfl H6.out ?_
    intro w7 h7 o7
    have H7 := Lib.hid h7
    have B7 := Lib.hid (B6.out.trans (o7.below s2))
    have M7 := Lib.hid h7.time
    clear h7 o7
    refine hK.out _ _ trivial (fun hHeld => ?_)
    clear hK K hHeld
    try simp only [Act.put, List.getElem_toArray, List.getElem_cons_zero, List.getElem_cons_succ, List.setIfInBounds_toArray, List.set_cons_zero, List.set_cons_succ]
    refine wpAnyH_done (by kernel_rfl) ?_ _
    go_wp2_with fail
    go_meet
    exact ⟨f6, b6, h6, n6, Q6.out, A6.out, H7.out, B7.out⟩
  case rest =>
    clear CA1 CB1 HP HB HS HA0
    have HC := Lib.hid hcut
    clear hcut
    go_wp2
    go_loopw [] (fun wr => ∃ (k : Nat) (f : Nat → Int) (b o : Nat) (h : Nat → Int × Int) (n : Nat), k < 200 ∧ Bs.QV g (Bs.planK g m wk (k + 1)) (k : Int) f b o h n ∧ Bs.Aft (k : Int) h n ∧ PS wr w2.heap.size (k : Int) f b o h (n : Int) ∧ Below w.heap.size w wr) (fun wr => 200 - psT wr w2.heap.size)
    case atStart => obtain ⟨f', b', h', n', a1, a2, a3, a4⟩ := HC.out; exact ⟨0, f', b', 0, h', n', by omega, a1, a2, a3, a4⟩
    case round =>
      clear HC
      obtain ⟨j, f, b, o0, h0, n0, hj, hq, ha, hP, hb⟩ := hrel
      have k27 := hP.size_
      by_cases hn0 : n0 = 0
      · subst hn0
        rw [show ((0 : Nat) : Int) = 0 from rfl] at hP k27
        have C2 := Lib.hid (fun W => CL.out j f b o0 h0 hq hj W)
        have HP := Lib.hid hP
        have HB := Lib.hid hb
        have sr := hb.size
        clear hP hb hq ha CA CB CG CL HJ
        have d1 : decide ((0 : Int) > 0) = false := by decide
        have d2 : decide ((0 : Int) < 0) = false := by decide
        go_upto_region 8 with fail
        go_wp2_with (first | (refine ps_plan rfl _ rfl w2.heap.size (j : Int) f b o0 h0 0 rfl HP.out ?_))
        with_reducible refine (C2.out _).mono ?_
        rintro e w5 ⟨⟨A5, c5, rfl, ho5⟩, hb5⟩
        have HO5 := Lib.hid (ho5.base sr)
        have HB5 := Lib.hid (HB.out.trans (hb5.mono sr))
        clear ho5 hb5
        go_wp2
        go_ret
        exact ⟨⟨A5, c5, rfl, HO5.out⟩, HB5.out⟩
      · have hn1 : 0 < n0 := by omega
        obtain ⟨k, hk1, hk2, hk3, hk4⟩ := HJ.out j f b o0 h0 n0 hj hq ha hn1
        have C2 := Lib.hid (fun W => CG.out (j : Int) _ f b o0 h0 n0 W hq hn1)
        rw [hk1, ← hk4] at C2
        have HP1 := Lib.hid hP
        have HB1 := Lib.hid hb
        have M1 := Lib.hid hP.time
        have d1 : decide ((n0 : Int) > 0) = true := decide_eq_true (by omega)
        have d2 : decide ((0 : Int) < (n0 : Int)) = true := decide_eq_true (by omega)
        clear hq ha hP hb hk1 hk4 CG CL HJ
        go_upto_region 6 with fail
        go_wp2_with (first | (refine ps_load rfl _ rfl w2.heap.size (j : Int) f b o0 h0 (n0 : Int) rfl HP1.out ?_))
        with_reducible refine (C2.out _).mono ?_
        rintro e w5 ⟨⟨o, h, n, rfl, hq5, ha5⟩, hb5⟩
        have HP5 := Lib.hid (HP1.out.below hb5 HP1.out.lt)
        have HB5 := Lib.hid (HB1.out.trans (hb5.mono HB1.out.size))
        have CA1 := Lib.hid (fun W hb => CA.out k f b o h n hq5 ha5 (by omega) W hb)
        have CB1 := Lib.hid (fun A3 c3 l3 h3 W hb hR hh3 => CB.out k f b o h n hq5 ha5 (by omega) A3 c3 l3 h3 W hb hR hh3)
        clear hb5 hq5 ha5 C2 HP1 HB1 k27 CA CB
        go_wp2_with (first | (refine ps_store rfl _ _ rfl w2.heap.size (j : Int) (k : Int) f f b b o0 o h0 h (n0 : Int) (n : Int) rfl rfl HP5.out ?_; intro wz h9 o9; have HP := Lib.hid (show PS wz w2.heap.size (k : Int) f b o h (n : Int) from h9); have HB := Lib.hid (HB5.out.trans (o9.below s2)); clear h9 o9))
        clear HP5 HB5
        simp only [Act.put]
        refine wp_region_held_drew (S := fun _ => True) (by kernel_rfl) trivial (fun hHeld => ?_)
        have H4 := Lib.hid (show PS wz.drew w2.heap.size (k : Int) f b o h (n : Int) from HP.out)
        have B4 := Lib.hid (show Below w.heap.size w wz.drew from HB.out.drewN 1)
        clear HP HB
        generalize wz.drew = w4 at *
        refine wpAnyH_take (i := 1) (v := .slice A g.length c) rfl (by kernel_rfl) (by kernel_rfl) (by kernel_rfl) (fun _ _ _ h => h) (Or.inl ⟨by rfl, fun W hS => by first | rfl | (go_simp; done) | (go_simp; rfl)⟩) hHeld ?_
        try simp only [Act.put, List.getElem_toArray, List.getElem_cons_zero, List.getElem_cons_succ, List.setIfInBounds_toArray, List.set_cons_zero, List.set_cons_succ]
        refine wpAnyH_take (i := 3) (v := .slice A g.length c) rfl (by kernel_rfl) (by kernel_rfl) (by kernel_rfl) (fun _ _ _ h => h) (Or.inl ⟨by rfl, fun W hS => by first | rfl | (go_simp; done) | (go_simp; rfl)⟩) hHeld ?_
        try simp only [Act.put, List.getElem_toArray, List.getElem_cons_zero, List.getElem_cons_succ, List.setIfInBounds_toArray, List.set_cons_zero, List.set_cons_succ]
        refine wpAnyH_take (i := 4) (v := .slice A1 m.length c1) rfl (by kernel_rfl) (by kernel_rfl) (by kernel_rfl) (fun _ _ _ h => h) (Or.inl ⟨by rfl, fun W hS => by first | rfl | (go_simp; done) | (go_simp; rfl)⟩) hHeld ?_
        try simp only [Act.put, List.getElem_toArray, List.getElem_cons_zero, List.getElem_cons_succ, List.setIfInBounds_toArray, List.set_cons_zero, List.set_cons_succ]
        refine wpAnyH_take (i := 5) (v := .int .i64 wk) rfl (by kernel_rfl) (by kernel_rfl) (by kernel_rfl) (fun _ _ _ h => h) (Or.inl ⟨by rfl, fun W hS => by first | rfl | (go_simp; done) | (go_simp; rfl)⟩) hHeld ?_
        try simp only [Act.put, List.getElem_toArray, List.getElem_cons_zero, List.getElem_cons_succ, List.setIfInBounds_toArray, List.set_cons_zero, List.set_cons_succ]
        refine wpAnyH_ready (rs := [0, 2]) (by kernel_rfl) (by simp) ?_
        refine AllReadyH.cons rfl (fun K hK => ?_) ?_
        · rw [if_pos (by rfl)]
          refine wp_load_row 88 _ rfl w2.heap.size rfl 88 (psA (k : Int) f b o h (n : Int)) (0, 0) _ H4.out Try.underlying88 rfl psSize ?_
          refine hK.out _ _ trivial (fun hHeld => ?_)
          clear hK K
          try simp only [Act.put, List.getElem_toArray, List.getElem_cons_zero, List.getElem_cons_succ, List.setIfInBounds_toArray, List.set_cons_zero, List.set_cons_succ]
          refine wpAnyH_ready (rs := [2]) (by kernel_rfl) (by simp) ?_
          refine AllReadyH.cons rfl (fun K hK => ?_) AllReadyH.nil
          rw [if_pos (by rfl)]
          refine wp_load_row 88 _ rfl w2.heap.size rfl 88 (psA (k : Int) f b o h (n : Int)) (0, 0) _ H4.out Try.underlying88 rfl psSize ?_
          refine hK.out _ _ trivial (fun hHeld => ?_)
          clear hK K
          try simp only [Act.put, List.getElem_toArray, List.getElem_cons_zero, List.getElem_cons_succ, List.setIfInBounds_toArray, List.set_cons_zero, List.set_cons_succ]
          refine wpAnyH_ready (rs := [6]) (by kernel_rfl) (by simp) ?_
          refine AllReadyH.cons rfl (fun K hK => ?_) AllReadyH.nil
          rw [if_pos (by rfl)]
          go_simp
          go_at_call 65
          with_reducible refine (CA1.out _ B4.out).mono ?_
          rintro e w5 ⟨⟨A5, c5, rfl, ho5⟩, hb5⟩
          have H5 := Lib.hid (H4.out.below hb5 H4.out.lt)
          have B5 := Lib.hid (B4.out.trans (hb5.mono B4.out.size))
          have C5 := Lib.hid (CB1.out A5 c5 _ _ w5 B5.out ho5.ri (Nat.le_refl _))
          clear ho5 hb5
          go_wp2_with fail
          refine hK.out _ _ trivial (fun hHeld => ?_)
          clear hK K
          try simp only [Act.put, List.getElem_toArray, List.getElem_cons_zero, List.getElem_cons_succ, List.setIfInBounds_toArray, List.set_cons_zero, List.set_cons_succ]
          refine wpAnyH_ready (rs := [7]) (by kernel_rfl) (by simp) ?_
          refine AllReadyH.cons rfl (fun K hK => ?_) AllReadyH.nil
          rw [if_pos (by rfl)]
          go_simp
          go_at_call 64
          with_reducible refine (C5.out).mono ?_
          rintro e w6 ⟨⟨f6, b6, h6, n6, rfl, hq6, ha6⟩, hb6⟩
          have H6 := Lib.hid (H5.out.below hb6 H5.out.lt)
          have B6 := Lib.hid (B5.out.trans (hb6.mono B5.out.size))
          have Q6 := Lib.hid hq6
          have A6 := Lib.hid ha6
          clear hb6 hq6 ha6
          go_wp2_with fail
          refine hK.out _ _ trivial (fun hHeld => ?_)
          clear hK K
          try simp only [Act.put, List.getElem_toArray, List.getElem_cons_zero, List.getElem_cons_succ, List.setIfInBounds_toArray, List.set_cons_zero, List.set_cons_succ]
          refine wpAnyH_ready (rs := [8]) (by kernel_rfl) (by simp) ?_
          refine AllReadyH.cons rfl (fun K hK => ?_) AllReadyH.nil
          rw [if_pos (by rfl)]
          refine wp_ps_store _ _ rfl w2.heap.size (k : Int) (k : Int) f f6 b b6 o o h h6 (n : Int) (n6 : Int) rfl rfl H6.out ?_
          intro w7 h7 o7
          have H7 := Lib.hid h7
          have B7 := Lib.hid (B6.out.trans (o7.below s2))
          have M7 := Lib.hid h7.time
          clear h7 o7
          refine hK.out _ _ trivial (fun hHeld => ?_)
          clear hK K hHeld
          try simp only [Act.put, List.getElem_toArray, List.getElem_cons_zero, List.getElem_cons_succ, List.setIfInBounds_toArray, List.set_cons_zero, List.set_cons_succ]
          refine wpAnyH_done (by kernel_rfl) ?_ _
          go_wp2
          go_roundw
          case rel => exact ⟨k, f6, b6, o, h6, n6, by omega, Q6.out, A6.out, H7.out, B7.out⟩
          case measure => rw [M1.out, M7.out]; omega
        refine AllReadyH.cons rfl (fun K hK => ?_) AllReadyH.nil
        rw [if_pos (by rfl)]
        refine wp_load_row 88 _ rfl w2.heap.size rfl 88 (psA (k : Int) f b o h (n : Int)) (0, 0) _ H4.out Try.underlying88 rfl psSize ?_
        refine hK.out _ _ trivial (fun hHeld => ?_)
        clear hK K
        try simp only [Act.put, List.getElem_toArray, List.getElem_cons_zero, List.getElem_cons_succ, List.setIfInBounds_toArray, List.set_cons_zero, List.set_cons_succ]
        refine wpAnyH_ready (rs := [0, 6]) (by kernel_rfl) (by simp) ?_
        refine AllReadyH.cons rfl (fun K hK => ?_) ?_
        · rw [if_pos (by rfl)]
          refine wp_load_row 88 _ rfl w2.heap.size rfl 88 (psA (k : Int) f b o h (n : Int)) (0, 0) _ H4.out Try.underlying88 rfl psSize ?_
          refine hK.out _ _ trivial (fun hHeld => ?_)
          clear hK K
          try simp only [Act.put, List.getElem_toArray, List.getElem_cons_zero, List.getElem_cons_succ, List.setIfInBounds_toArray, List.set_cons_zero, List.set_cons_succ]
          refine wpAnyH_ready (rs := [6]) (by kernel_rfl) (by simp) ?_
          refine AllReadyH.cons rfl (fun K hK => ?_) AllReadyH.nil
          rw [if_pos (by rfl)]
          go_simp
          go_at_call 65
          with_reducible refine (CA1.out _ B4.out).mono ?_
          rintro e w5 ⟨⟨A5, c5, rfl, ho5⟩, hb5⟩
          have H5 := Lib.hid (H4.out.below hb5 H4.out.lt)
          have B5 := Lib.hid (B4.out.trans (hb5.mono B4.out.size))
          have C5 := Lib.hid (CB1.out A5 c5 _ _ w5 B5.out ho5.ri (Nat.le_refl _))
          clear ho5 hb5
          go_wp2_with fail
          refine hK.out _ _ trivial (fun hHeld => ?_)
          clear hK K
          try simp only [Act.put, List.getElem_toArray, List.getElem_cons_zero, List.getElem_cons_succ, List.setIfInBounds_toArray, List.set_cons_zero, List.set_cons_succ]
          refine wpAnyH_ready (rs := [7]) (by kernel_rfl) (by simp) ?_
          refine AllReadyH.cons rfl (fun K hK => ?_) AllReadyH.nil
          rw [if_pos (by rfl)]
          go_simp
          go_at_call 64
          with_reducible refine (C5.out).mono ?_
          rintro e w6 ⟨⟨f6, b6, h6, n6, rfl, hq6, ha6⟩, hb6⟩
          have H6 := Lib.hid (H5.out.below hb6 H5.out.lt)
          have B6 := Lib.hid (B5.out.trans (hb6.mono B5.out.size))
          have Q6 := Lib.hid hq6
          have A6 := Lib.hid ha6
          clear hb6 hq6 ha6
          go_wp2_with fail
          refine hK.out _ _ trivial (fun hHeld => ?_)
          clear hK K
          try simp only [Act.put, List.getElem_toArray, List.getElem_cons_zero, List.getElem_cons_succ, List.setIfInBounds_toArray, List.set_cons_zero, List.set_cons_succ]
          refine wpAnyH_ready (rs := [8]) (by kernel_rfl) (by simp) ?_
          refine AllReadyH.cons rfl (fun K hK => ?_) AllReadyH.nil
          rw [if_pos (by rfl)]
          refine wp_ps_store _ _ rfl w2.heap.size (k : Int) (k : Int) f f6 b b6 o o h h6 (n : Int) (n6 : Int) rfl rfl H6.out ?_
          intro w7 h7 o7
          have H7 := Lib.hid h7
          have B7 := Lib.hid (B6.out.trans (o7.below s2))
          have M7 := Lib.hid h7.time
          clear h7 o7
          refine hK.out _ _ trivial (fun hHeld => ?_)
          clear hK K hHeld
          try simp only [Act.put, List.getElem_toArray, List.getElem_cons_zero, List.getElem_cons_succ, List.setIfInBounds_toArray, List.set_cons_zero, List.set_cons_succ]
          refine wpAnyH_done (by kernel_rfl) ?_ _
          go_wp2
          go_roundw
          case rel => exact ⟨k, f6, b6, o, h6, n6, by omega, Q6.out, A6.out, H7.out, B7.out⟩
          case measure => rw [M1.out, M7.out]; omega
        refine AllReadyH.cons rfl (fun K hK => ?_) AllReadyH.nil
        rw [if_pos (by rfl)]
        go_simp
        go_at_call 65
        with_reducible refine (CA1.out _ B4.out).mono ?_
        rintro e w5 ⟨⟨A5, c5, rfl, ho5⟩, hb5⟩
        have H5 := Lib.hid (H4.out.below hb5 H4.out.lt)
        have B5 := Lib.hid (B4.out.trans (hb5.mono B4.out.size))
        have C5 := Lib.hid (CB1.out A5 c5 _ _ w5 B5.out ho5.ri (Nat.le_refl _))
        clear ho5 hb5
        go_wp2_with fail
        refine hK.out _ _ trivial (fun hHeld => ?_)
        clear hK K
        try simp only [Act.put, List.getElem_toArray, List.getElem_cons_zero, List.getElem_cons_succ, List.setIfInBounds_toArray, List.set_cons_zero, List.set_cons_succ]
        refine wpAnyH_ready (rs := [0]) (by kernel_rfl) (by simp) ?_
        refine AllReadyH.cons rfl (fun K hK => ?_) AllReadyH.nil
        rw [if_pos (by rfl)]
        refine wp_load_row 88 _ rfl w2.heap.size rfl 88 (psA (k : Int) f b o h (n : Int)) (0, 0) _ H5.out Try.underlying88 rfl psSize ?_
        refine hK.out _ _ trivial (fun hHeld => ?_)
        clear hK K
        try simp only [Act.put, List.getElem_toArray, List.getElem_cons_zero, List.getElem_cons_succ, List.setIfInBounds_toArray, List.set_cons_zero, List.set_cons_succ]
        refine wpAnyH_ready (rs := [7]) (by kernel_rfl) (by simp) ?_
        refine AllReadyH.cons rfl (fun K hK => ?_) AllReadyH.nil
        rw [if_pos (by rfl)]
        go_simp
        go_at_call 64
        with_reducible refine (C5.out).mono ?_
        rintro e w6 ⟨⟨f6, b6, h6, n6, rfl, hq6, ha6⟩, hb6⟩
        have H6 := Lib.hid (H5.out.below hb6 H5.out.lt)
        have B6 := Lib.hid (B5.out.trans (hb6.mono B5.out.size))
        have Q6 := Lib.hid hq6
        have A6 := Lib.hid ha6
        clear hb6 hq6 ha6
        go_wp2_with fail
        refine hK.out _ _ trivial (fun hHeld => ?_)
        clear hK K
        try simp only [Act.put, List.getElem_toArray, List.getElem_cons_zero, List.getElem_cons_succ, List.setIfInBounds_toArray, List.set_cons_zero, List.set_cons_succ]
        refine wpAnyH_ready (rs := [8]) (by kernel_rfl) (by simp) ?_
        refine AllReadyH.cons rfl (fun K hK => ?_) AllReadyH.nil
        rw [if_pos (by rfl)]
        refine wp_ps_store _ _ rfl w2.heap.size (k : Int) (k : Int) f f6 b b6 o o h h6 (n : Int) (n6 : Int) rfl rfl H6.out ?_
        intro w7 h7 o7
        have H7 := Lib.hid h7
        have B7 := Lib.hid (B6.out.trans (o7.below s2))
        have M7 := Lib.hid h7.time
        clear h7 o7
        refine hK.out _ _ trivial (fun hHeld => ?_)
        clear hK K hHeld
        try simp only [Act.put, List.getElem_toArray, List.getElem_cons_zero, List.getElem_cons_succ, List.setIfInBounds_toArray, List.set_cons_zero, List.set_cons_succ]
        refine wpAnyH_done (by kernel_rfl) ?_ _
        go_wp2
        go_roundw
        case rel => exact ⟨k, f6, b6, o, h6, n6, by omega, Q6.out, A6.out, H7.out, B7.out⟩
        case measure => rw [M1.out, M7.out]; omega
end Go.Proofs.Ytihgakbopkaemaa
