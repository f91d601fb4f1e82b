/-
  WALKS: plans of the program: on to the next end.
-/
import Derived.Test.YtfholjgndpefdaaW84
import Derived.Deep.CutRange
namespace Go.Proofs.Ytfholjgndpefdaa
open Go.RowKit
/-- how many ends are to come, in memory -/
def psN (w : World) (a : Nat) : Nat := match w.cell? ⟨a, 27, none⟩ with | some (.int _ n) => n.toNat | _ => 0
theorem PS.num {w : World} {a : Nat} {t : Int} {f : Nat → Int} {b o : Nat} {h : Nat → Int × Int} {n : Int} (p : PS w a t f b o h n) : psN w a = n.toNat := by
  unfold psN
  rw [p.size_]
theorem PS.drewN {w : World} {a : Nat} {t : Int} {f : Nat → Int} {b o : Nat} {h : Nat → Int × Int} {n : Int} (p : PS w a t f b o h n) (k : Nat) : PS (w.drewN k) a t f b o h n := p
theorem run_cellI' {op : Oper} {a : Act} {W : World} (x : Operand) (ho : op.op = .load 3 x) (b o : Nat) (hx : a.eval x = .pointer (some ⟨b, o, none⟩)) {v : Int} (h : W.cell? ⟨b, o, none⟩ = some (.int .i64 v)) :
    (execOp a.eval op).run Try.prog W = .ok (.value (.int .i64 v)) W := by
  unfold execOp
  simp only [ho, hx]
  go_simp
theorem run_cellU {op : Oper} {a : Act} {W : World} (x : Operand) (ho : op.op = .load 55 x) (b o : Nat) (hx : a.eval x = .pointer (some ⟨b, o, none⟩)) {v : Int} (h : W.cell? ⟨b, o, none⟩ = some (.int .u64 v)) :
    (execOp a.eval op).run Try.prog W = .ok (.value (.int .u64 v)) W := by
  unfold execOp
  simp only [ho, hx]
  go_simp
theorem wp_of_run {op : Oper} {a : Act} {w : World} {K : Act → World → Prop} {Q : Exit → Act → World → Prop} {v : Value} (h : (execOp a.eval op).run Try.prog w = .ok (.value v) w) (hk : K (a.put op.dst v) w) : op.wp Try.prog a w K Q := by
  unfold Oper.wp
  rw [h]
  exact hk
theorem wp_ps_over {op : Oper} {a : Act} {w : World} {K : Act → World → Prop} {Q : Exit → Act → World → Prop} (x y : Operand) (ho : op.op = .store 55 x y) (p : Nat) (t : Int) (f : Nat → Int) (b o o' : Nat) (h : Nat → Int × Int) (n : Int) (hx : a.eval x = .pointer (some ⟨p, 10, none⟩)) (hy : a.eval y = .int .u64 (o' : Int)) (hb : PS w p t f b o h n)
    (hk : ∀ w', PS w' p t f b o' h n → OnlyB p w w' → K (a.put op.dst undef) w') : op.wp Try.prog a w K Q := by
  have k := hb.over
  have fz := hb.frozen 10
  have := hk _ (hb.setOver o') (onlyB_cell _ _ _ _)
  unfold Oper.wp execOp
  simp only [ho, hx, hy]
  go_simp
  exact this
set_option linter.unusedSimpArgs false in
set_option maxRecDepth 20000 in
set_option maxHeartbeats 3200000 in
theorem goOn_any (t : Int) (S : List Int) (f : Nat → Int) (b o : Nat) (h : Nat → Int × Int) (n : Nat) (g : List Bs.T) (w : World) (hg : g.length ≤ 8) (hq : Bs.QV g S t f b o h n) (hn : 0 < n) :
    Calls Try.prog 69 #[.agg (psA t f b o h (n : Int))] w fun e w' => (∃ (o' : Nat) (h' : Nat → Int × Int) (n' : Nat), e = .returned (.agg (psA (h 0).2 f b o' h' (n' : Int))) ∧ Bs.QV g S (h 0).2 f b o' h' n' ∧ Bs.Aft (h 0).2 h' n') ∧ Below w.heap.size w w' := by
  have hqn := hq.next hn
  obtain ⟨te, hte⟩ : ∃ te, te = (h 0).2 := ⟨_, rfl⟩
  rw [← hte] at hqn ⊢
  obtain ⟨PA, hPA⟩ : ∃ PA, PA = psA t f b o h (n : Int) := ⟨_, rfl⟩
  obtain ⟨PB, hPB⟩ : ∃ PB, PB = psA te f b o h (n : Int) := ⟨_, rfl⟩
  have hset : PA.setIfInBounds 0 (.int .i64 te) = PB := by rw [hPA, hPB]; rfl
  have p0 := (PS.new w t f b o h (n : Int)).alloc (.cells (psA 0 z8 0 0 zP 0) 80)
  have pb := (PS.new w te f b o h (n : Int)).alloc (.cells (psA 0 z8 0 0 zP 0) 80)
  have zb := PS.new (w.alloc (.cells (psA te f b o h (n : Int)) 80)) 0 z8 0 0 zP 0
  rw [World.size_alloc] at zb
  have hbl := ((Below.refl w.heap.size w).alloc (Nat.le_refl _) (.cells (psA te f b o h (n : Int)) 80)).alloc (by simp) (.cells (psA 0 z8 0 0 zP 0) 80)
  rw [← hPA, psZero] at p0
  rw [← hPB, psZero] at pb zb hbl
  rw [← hPA]
  have k12 := p0.first.2
  rw [← hte] at k12
  have g0 := p0.frozen 0
  have k0 := p0.now
  have HP := Lib.hid pb
  have HZ := Lib.hid zb
  have HB := Lib.hid hbl
  have HQ := Lib.hid hqn
  clear p0 pb zb hbl hq hPA hPB hqn hte
  go_enter Try.func69, Try.ntmps69
  go_wp2
  go_loopw [] (fun wr => ∃ (o' : Nat) (h' : Nat → Int × Int) (n' : Nat), Bs.QV g S te f b o' h' n' ∧ PS wr w.heap.size te f b o' h' (n' : Int) ∧ PS wr (w.heap.size + 1) 0 z8 0 0 zP 0 ∧ Below w.heap.size w wr) (fun wr => psN wr w.heap.size)
  case atStart => exact ⟨o, h, n, HQ.out, HP.out, HZ.out, HB.out⟩
  case round =>
    clear HP HZ HB HQ k12 g0 k0
    obtain ⟨o', h', n', hq, hP, hZ, hb⟩ := hrel
    have k0 := hP.now
    by_cases hn0 : n' = 0
    · subst hn0
      rw [show ((0 : Nat) : Int) = 0 from rfl] at hP
      have k27 := hP.size_
      have HA := Lib.hid (hq.stop (.inl rfl))
      have HQ := Lib.hid hq
      have HP := Lib.hid hP
      have HZ := Lib.hid hZ
      have HB := Lib.hid hb
      have d1 : decide ((0 : Int) > 0) = false := by decide
      have d2 : decide ((0 : Int) < 0) = false := by decide
      clear hq hP hZ hb
      go_upto_region 5 with fail
      go_wp2_with (first
        | (refine ps_load rfl _ rfl w.heap.size te f b o' h' 0 rfl HP.out ?_)
        | (refine ps_store rfl _ _ rfl (w.heap.size + 1) 0 te z8 f 0 b 0 o' zP h' 0 0 rfl rfl HZ.out ?_; intro w9 h9 o9))
      exact bodyPost_ret (ps_ret rfl _ _ (w.heap.size + 1) te f b o' h' 0 rfl h9) rfl ⟨⟨o', h', 0, rfl, HQ.out, HA.out⟩, HB.out.trans (o9.below (by omega))⟩
    · obtain ⟨m, rfl⟩ : ∃ m, n' = m + 1 := ⟨n' - 1, by omega⟩
      rw [show ((m + 1 : Nat) : Int) = (m : Int) + 1 from by omega] at hP
      have k27 := hP.size_
      obtain ⟨k11, k12⟩ := hP.first
      have d1 : decide ((m : Int) + 1 > 0) = true := decide_eq_true (by omega)
      have d2 : decide ((0 : Int) < (m : Int) + 1) = true := decide_eq_true (by omega)
      have hm8 := hq.nle
      by_cases he : (h' 0).2 = te
      · have d3 : ((h' 0).2 == te) = true := by rw [he]; simp
        obtain ⟨x, hx, e0, _⟩ := hq.q1 0 (by omega)
        have ex : (h' 0).1 = (x : Int) := by rw [e0]
        have hqp := hq.pop he x ex
        have ho8 := hq.olt hg
        have HO := Lib.hid (or_pow o' x ho8 (by omega))
        have HE1 := Lib.hid ex
        have HQ := Lib.hid hqp
        have C1 := Lib.hid (fun W => qWithoutFirst_any h' m (by omega) W)
        have HP := Lib.hid hP
        have HZ := Lib.hid hZ
        have HB := Lib.hid hb
        have M1 := Lib.hid hP.num
        have sr := hb.size
        have sz := hZ.lt
        have k10 := hP.over
        have f10 := hP.frozen 10
        have i0 : (0 : Int) ≤ (x : Int) := by omega
        have i1 : (x : Int) < 64 := by omega
        rw [ex] at k11
        rw [he] at k12 d3
        clear hq hP hZ hb hqp e0 ex ho8 hm8 he
        have H1 := Lib.hid (show PS wr.drew w.heap.size te f b o' h' ((m : Int) + 1) from HP.out)
        have Z1 := Lib.hid (show PS wr.drew (w.heap.size + 1) 0 z8 0 0 zP 0 from HZ.out)
        have B1 := Lib.hid (HB.out.drewN 1)
        have K11 := Lib.hid k11
        go_wp2
        clear HP HZ HB k0 k10 k12 k27 f10
        refine wp_region_held_drew (S := fun W => W.cell? ⟨w.heap.size, 11, none⟩ = some (.int .i64 (x : Int))) (by kernel_rfl) K11.out (fun hHeld => ?_)
        clear k11
        refine wpAnyH_take (i := 0) (v := .pointer (some ⟨w.heap.size, 10, none⟩)) rfl (by kernel_rfl) (by kernel_rfl) (by kernel_rfl) (fun _ _ _ h => h) (Or.inl ⟨by rfl, fun W hS => by first | rfl | (go_simp; done) | (go_simp; rfl)⟩) hHeld ?_
        try simp only [Act.put, List.getElem_toArray, List.getElem_cons_zero, List.getElem_cons_succ, List.setIfInBounds_toArray, List.set_cons_zero, List.set_cons_succ]
        refine wpAnyH_take (i := 2) (v := .pointer (some ⟨w.heap.size, 11, none⟩)) rfl (by kernel_rfl) (by kernel_rfl) (by kernel_rfl) (fun _ _ _ h => h) (Or.inl ⟨by rfl, fun W hS => by first | rfl | (go_simp; done) | (go_simp; rfl)⟩) hHeld ?_
        try simp only [Act.put, List.getElem_toArray, List.getElem_cons_zero, List.getElem_cons_succ, List.setIfInBounds_toArray, List.set_cons_zero, List.set_cons_succ]
        refine wpAnyH_take (i := 3) (v := .pointer (some ⟨w.heap.size, 11, none⟩)) rfl (by kernel_rfl) (by kernel_rfl) (by kernel_rfl) (fun _ _ _ h => h) (Or.inl ⟨by rfl, fun W hS => by first | rfl | (go_simp; done) | (go_simp; rfl)⟩) hHeld ?_
        try simp only [Act.put, List.getElem_toArray, List.getElem_cons_zero, List.getElem_cons_succ, List.setIfInBounds_toArray, List.set_cons_zero, List.set_cons_succ]
        refine wpAnyH_take (i := 4) (v := .pointer (some ⟨w.heap.size, 11, none⟩)) rfl (by kernel_rfl) (by kernel_rfl) (by kernel_rfl) (fun _ _ _ h => h) (Or.inl ⟨by rfl, fun W hS => by first | rfl | (go_simp; done) | (go_simp; rfl)⟩) hHeld ?_
        try simp only [Act.put, List.getElem_toArray, List.getElem_cons_zero, List.getElem_cons_succ, List.setIfInBounds_toArray, List.set_cons_zero, List.set_cons_succ]
        refine wpAnyH_take (i := 5) (v := .pointer (some ⟨w.heap.size, 11, none⟩)) rfl (by kernel_rfl) (by kernel_rfl) (by kernel_rfl) (fun _ _ _ h => h) (Or.inl ⟨by rfl, fun W hS => by first | rfl | (go_simp; done) | (go_simp; rfl)⟩) hHeld ?_
        try simp only [Act.put, List.getElem_toArray, List.getElem_cons_zero, List.getElem_cons_succ, List.setIfInBounds_toArray, List.set_cons_zero, List.set_cons_succ]
        refine wpAnyH_take (i := 6) (v := .int .i64 (x : Int)) rfl (by kernel_rfl) (by kernel_rfl) (by kernel_rfl) (fun _ _ _ h => h) (Or.inl ⟨by rfl, fun W hS => run_cellI' _ rfl _ _ rfl hS⟩) hHeld ?_
        try simp only [Act.put, List.getElem_toArray, List.getElem_cons_zero, List.getElem_cons_succ, List.setIfInBounds_toArray, List.set_cons_zero, List.set_cons_succ]
        refine wpAnyH_take (i := 7) (v := .int .u64 (IntKind.u64.wrap (2 ^ x))) rfl (by kernel_rfl) (by kernel_rfl) (by kernel_rfl) (fun _ _ _ h => h) (Or.inl ⟨by rfl, fun W hS => by first | rfl | (go_simp; done) | (go_simp; rfl)⟩) hHeld ?_
        try simp only [Act.put, List.getElem_toArray, List.getElem_cons_zero, List.getElem_cons_succ, List.setIfInBounds_toArray, List.set_cons_zero, List.set_cons_succ]
        refine wpAnyH_ready (rs := [1]) (by kernel_rfl) (by simp) ?_
        refine AllReadyH.cons rfl (fun K hK => ?_) AllReadyH.nil
        rw [if_pos (by rfl)]
        have k10 := H1.out.over
        refine wp_of_run (v := .int .u64 (o' : Int)) (run_cellU _ rfl _ _ rfl k10) ?_
        clear k10
        refine hK.out _ _ (by rw [← HE1.out]; exact H1.out.first.1) (fun hHeld => ?_)
        clear hK K
        try simp only [Act.put, List.getElem_toArray, List.getElem_cons_zero, List.getElem_cons_succ, List.setIfInBounds_toArray, List.set_cons_zero, List.set_cons_succ]
        refine wpAnyH_take (i := 8) (v := .int .u64 (bits .or .u64 (o' : Int) (IntKind.u64.wrap (2 ^ x)))) rfl (by kernel_rfl) (by kernel_rfl) (by kernel_rfl) (fun _ _ _ h => h) (Or.inl ⟨by rfl, fun W hS => by first | rfl | (go_simp; done) | (go_simp; rfl)⟩) hHeld ?_
        try simp only [Act.put, List.getElem_toArray, List.getElem_cons_zero, List.getElem_cons_succ, List.setIfInBounds_toArray, List.set_cons_zero, List.set_cons_succ]
        refine wpAnyH_take (i := 9) (v := .pointer (some ⟨w.heap.size, 10, none⟩)) rfl (by kernel_rfl) (by kernel_rfl) (by kernel_rfl) (fun _ _ _ h => h) (Or.inl ⟨by rfl, fun W hS => by first | rfl | (go_simp; done) | (go_simp; rfl)⟩) hHeld ?_
        try simp only [Act.put, List.getElem_toArray, List.getElem_cons_zero, List.getElem_cons_succ, List.setIfInBounds_toArray, List.set_cons_zero, List.set_cons_succ]
        refine wpAnyH_ready (rs := [10]) (by kernel_rfl) (by simp) ?_
        refine AllReadyH.cons rfl (fun K hK => ?_) AllReadyH.nil
        rw [if_pos (by rfl)]
        rw [HO.out]
        refine wp_ps_over _ _ rfl w.heap.size te f b o' (o' ||| 1 <<< x) h' ((m : Int) + 1) rfl rfl H1.out ?_
        intro W2 h2 o2
        have H2 := Lib.hid h2
        have Z2 := Lib.hid (show PS W2 (w.heap.size + 1) 0 z8 0 0 zP 0 from o2.blk Z1.out (by omega))
        have B2 := Lib.hid (B1.out.trans (o2.below (Nat.le_refl _)))
        clear h2 o2
        refine hK.out _ _ (by rw [← HE1.out]; exact H2.out.first.1) (fun hHeld => ?_)
        clear hK K hHeld H1 Z1 B1 K11
        try simp only [Act.put, List.getElem_toArray, List.getElem_cons_zero, List.getElem_cons_succ, List.setIfInBounds_toArray, List.set_cons_zero, List.set_cons_succ]
        refine wpAnyH_done (by kernel_rfl) ?_ _
        go_wp2_with (first | (refine ps_ends rfl _ rfl w.heap.size te f b (o' ||| 1 <<< x) h' ((m : Int) + 1) rfl H2.out ?_))
        with_reducible refine (C1.out _).mono ?_
        rintro e w5 ⟨rfl, hb5⟩
        have H5 := Lib.hid (H2.out.below hb5 H2.out.lt)
        have Z5 := Lib.hid (Z2.out.below hb5 Z2.out.lt)
        have B5 := Lib.hid (B2.out.trans (hb5.mono B2.out.size))
        clear hb5 H2 Z2 B2 C1
        go_wp2_with (first | (refine ps_setEnds2 rfl _ _ rfl w.heap.size te f b (o' ||| 1 <<< x) h' (Bs.shF h' m) ((m : Int) + 1) (m : Int) rfl rfl H5.out ?_; intro w7 h7 o7; have H7 := Lib.hid h7; have Z7 := Lib.hid (show PS w7 (w.heap.size + 1) 0 z8 0 0 zP 0 from o7.blk Z5.out (by omega)); have B7 := Lib.hid (B5.out.trans (o7.below (Nat.le_refl _))); have M7 := Lib.hid h7.num; clear h7 o7))
        simp only [Act.put]
        go_roundw
        case rel => exact ⟨_, _, m, HQ.out, H7.out, Z7.out, B7.out⟩
        case measure => rw [M1.out, M7.out]; omega
      · have d3 : ((h' 0).2 == te) = false := by rw [beq_eq_false_iff_ne]; exact he
        have HA := Lib.hid (hq.stop (.inr he))
        have HQ := Lib.hid hq
        have HP := Lib.hid hP
        have HZ := Lib.hid hZ
        have HB := Lib.hid hb
        clear hq hP hZ hb he hm8
        generalize hy : (h' 0).2 = y at *
        clear hy
        go_wp2_with (first
          | (refine ps_load rfl _ rfl w.heap.size te f b o' h' ((m : Int) + 1) rfl HP.out ?_)
          | (refine ps_store rfl _ _ rfl (w.heap.size + 1) 0 te z8 f 0 b 0 o' zP h' 0 ((m : Int) + 1) rfl rfl HZ.out ?_; intro w9 h9 o9))
        exact bodyPost_ret (ps_ret rfl _ _ (w.heap.size + 1) te f b o' h' ((m : Int) + 1) rfl h9) rfl ⟨⟨o', h', m + 1, rfl, HQ.out, HA.out⟩, HB.out.trans (o9.below (by omega))⟩
end Go.Proofs.Ytfholjgndpefdaa
