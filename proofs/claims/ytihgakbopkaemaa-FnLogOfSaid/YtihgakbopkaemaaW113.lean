/-
  WALKS: whether an event of a log can come next, of the program.
-/
import Derived.Test.YtihgakbopkaemaaW112
import Derived.Test.YtihgakbopkaemaaK14
namespace Go.Proofs.Ytihgakbopkaemaa
open Go.RowKit
theorem runN_bit (b o v : Nat) (ho : o < 256) (hv : v < 8) : (runN b o).testBit v = (b.testBit v && !o.testBit v) := by
  unfold runN
  rw [Nat.testBit_and]
  congr 1
  have := Nat.testBit_two_pow_sub_succ (n := 64) (x := o) (by omega) v
  rw [show 18446744073709551615 - o = 2 ^ 64 - (o + 1) from by omega, this]
  have : decide (v < 64) = true := by simp; omega
  rw [this, Bool.true_and]
/-- the memory in which an event is held against a state -/
structure CM (w W : World) (t : Int) (f : Nat → Int) (b o : Nat) (x a : Int) (v : Bool) : Prop where
  st : LS W w.heap.size t f b o
  ev : Blk W (w.heap.size + 1) 33 #[.int .i64 x, .int .i64 a, .bool v]
  below : Below w.heap.size w W
theorem CM.new (w : World) (t : Int) (f : Nat → Int) (b o : Nat) (x a : Int) (v : Bool) : CM w ((w.alloc (.cells (lsA t f b o) 61)).alloc (.cells #[.int .i64 x, .int .i64 a, .bool v] 33)) t f b o x a v := by
  have l1 := (LS.new w t f b o).alloc (.cells #[.int .i64 x, .int .i64 a, .bool v] 33)
  have l2 := (Blk.new (w.alloc (.cells (lsA t f b o) 61)) 33 #[.int .i64 x, .int .i64 a, .bool v])
  simp only [World.size_alloc] at l2
  exact ⟨l1, l2, ((Below.refl w.heap.size w).alloc (Nat.le_refl _) _).alloc (by simp) _⟩
theorem CM.drewN {w W : World} {t : Int} {f : Nat → Int} {b o : Nat} {x a : Int} {v : Bool} (h : CM w W t f b o x a v) (n : Nat) : CM w (W.drewN n) t f b o x a v := ⟨h.st, h.ev, h.below.drewN n⟩
theorem CM.after {w W W' : World} {t : Int} {f : Nat → Int} {b o : Nat} {x a : Int} {v : Bool} (h : CM w W t f b o x a v) (hb : Below W.heap.size W W') : CM w W' t f b o x a v :=
  ⟨h.st.below hb h.st.lt, Blk.below h.ev hb (Blk.lt h.ev), h.below.trans (hb.mono h.below.size)⟩
theorem LS.all_ {w : World} {a b o : Nat} {t : Int} {f : Nat → Int} (p : LS w a t f b o) : w.cell? ⟨a, 0, none⟩ = some (.int .i64 t) ∧ w.cell? ⟨a, 1, none⟩ = some (.int .i64 (f 0)) ∧ w.cell? ⟨a, 2, none⟩ = some (.int .i64 (f 1)) ∧ w.cell? ⟨a, 3, none⟩ = some (.int .i64 (f 2)) ∧ w.cell? ⟨a, 4, none⟩ = some (.int .i64 (f 3)) ∧ w.cell? ⟨a, 5, none⟩ = some (.int .i64 (f 4)) ∧ w.cell? ⟨a, 6, none⟩ = some (.int .i64 (f 5)) ∧ w.cell? ⟨a, 7, none⟩ = some (.int .i64 (f 6)) ∧ w.cell? ⟨a, 8, none⟩ = some (.int .i64 (f 7)) ∧ w.cell? ⟨a, 9, none⟩ = some (.int .u64 (b : Int)) ∧ w.cell? ⟨a, 10, none⟩ = some (.int .u64 (o : Int)) :=
  ⟨(Blk.cell p 0).trans rfl, (Blk.cell p 1).trans rfl, (Blk.cell p 2).trans rfl, (Blk.cell p 3).trans rfl, (Blk.cell p 4).trans rfl, (Blk.cell p 5).trans rfl, (Blk.cell p 6).trans rfl, (Blk.cell p 7).trans rfl, (Blk.cell p 8).trans rfl, (Blk.cell p 9).trans rfl, (Blk.cell p 10).trans rfl⟩
theorem LS.cell_ {w : World} {a b o : Nat} {t : Int} {f : Nat → Int} (p : LS w a t f b o) (i : Nat) : w.cell? ⟨a, i, none⟩ = (lsA t f b o)[i]? := Blk.cell p i
theorem run_ls {op : Oper} {c : Act} {W : World} (x : Operand) (ho : op.op = .load 61 x) (a : Nat) (hx : c.eval x = .pointer (some ⟨a, 0, none⟩)) {t : Int} {f : Nat → Int} {b o : Nat} (h : LS W a t f b o) :
    (execOp c.eval op).run Try.prog W = .ok (.value (.agg (lsA t f b o))) W := by
  unfold execOp
  simp only [ho, hx, Instr.loadAt, Instr.sureAddr, Sem.run_bind, Sem.run_pure, Result.andThen_ok, run_loadVar_row W a 61 61 _ (0, 0) _ h Try.underlying61 rfl lsSize]
theorem run_lsP {op : Oper} {c : Act} {W : World} (x : Operand) (ho : op.op = .load 57 x) (a : Nat) (hx : c.eval x = .pointer (some ⟨a, 1, none⟩)) {t : Int} {f : Nat → Int} {b o : Nat} (h : LS W a t f b o) :
    (execOp c.eval op).run Try.prog W = .ok (.value (.agg (bgA f b))) W := by
  unfold execOp
  simp only [ho, hx, Instr.loadAt, Instr.sureAddr, Sem.run_bind, Sem.run_pure, Result.andThen_ok, run_loadVar_mid W a 1 57 (bgA f b).toList _ h.planRange Try.underlying57 rfl bgSize]
theorem run_evI {op : Oper} {c : Act} {W : World} (x : Operand) (ho : op.op = .load 3 x) (a i : Nat) (hx : c.eval x = .pointer (some ⟨a, i, none⟩)) {ty : TypeId} {cs : Array Value} (h : Blk W a ty cs) {z : Int} (hz : cs[i]? = some (.int .i64 z)) :
    (execOp c.eval op).run Try.prog W = .ok (.value (.int .i64 z)) W := by
  have hc : W.cell? ⟨a, i, none⟩ = some (.int .i64 z) := (Blk.cell h i).trans hz
  unfold execOp
  simp only [ho, hx]
  go_simp
set_option linter.unusedSimpArgs false in
set_option maxRecDepth 20000 in
set_option maxHeartbeats 800000 in
theorem canEnd_any (t : Int) (f : Nat → Int) (b o : Nat) (x : Int) (v : Nat) (ov : Bool) (A : Option Addr) (c : Nat) (g : List Bs.T) (lo hi : Nat) (w : World) (h : RG w lo hi A g) (hh : hi ≤ w.heap.size) (hF : Bs.fine g = true) (hv : v < g.length) (hb8 : b < 256) (ho8 : o < 256) (hf : ∀ i, i < 8 → 0 ≤ f i ∧ f i ≤ 100000) :
    Calls Try.prog 76 #[.agg (lsA t f b o), .slice A g.length c, .agg #[.int .i64 x, .int .i64 (v : Int), .bool ov]] w fun e w' => e = .returned (.bool ((b.testBit v && !o.testBit v) && (x == f v + Bs.timeOf g v))) ∧ Below w.heap.size w w' := by
  have hgl := Bs.fine_len hF
  have hv8 : v < 8 := by omega
  have hm := CM.new w t f b o x (v : Int) ov
  have hsz := lsA_size t f b o
  have HM := Lib.hid hm
  have c1 := fun W => running_any t f b o W hb8 ho8
  have c2 := fun W => hasTask_any (runN b o) v W (runN_lt hb8) hv8
  rw [runN_bit b o v ho8 hv8] at c2
  have HTF := Lib.hid (show (b.testBit v && !o.testBit v) = true ∨ (b.testBit v && !o.testBit v) = false from by cases (b.testBit v && !o.testBit v) <;> simp)
  generalize (b.testBit v && !o.testBit v) = tb at *
  have C2 := Lib.hid c2
  clear c2
  have c3 := fun W (hb : Below w.heap.size w W) => over_any f b A c g v lo hi W (h.below hb hh) (Nat.le_trans hh hb.size) hF hv hf
  have C1 := Lib.hid c1
  have C3 := Lib.hid c3
  clear hm c1 c3 h hf
  go_enter Try.func76, Try.ntmps76
  go_wp2_with fail
  generalize ((w.alloc (.cells (lsA t f b o) 61)).alloc (.cells #[.int .i64 x, .int .i64 (v : Int), .bool ov] 33)) = W at *
  obtain ⟨a0, a1, a2, a3, a4, a5, a6, a7, a8, a9, a10⟩ := HM.out.st.all_
  have e0 : W.cell? ⟨w.heap.size + 1, 0, none⟩ = some (.int .i64 x) := (Blk.cell HM.out.ev 0).trans rfl
  have e1 : W.cell? ⟨w.heap.size + 1, 1, none⟩ = some (.int .i64 (v : Int)) := (Blk.cell HM.out.ev 1).trans rfl
  have HMd := Lib.hid (show CM w W.drew t f b o x (v : Int) ov from HM.out.drewN 1)
  clear a0 a1 a2 a3 a4 a5 a6 a7 a8 a9 a10 e0 e1
  refine wp_region_held_drew (S := fun W => LS W w.heap.size t f b o ∧ Blk W (w.heap.size + 1) 33 #[.int .i64 x, .int .i64 (v : Int), .bool ov]) (by kernel_rfl) ⟨HM.out.st, HM.out.ev⟩ (fun hHeld => ?_)
  refine wpAnyH_take (i := 0) (v := .agg (lsA t f b o)) rfl (by kernel_rfl) (by kernel_rfl) (by kernel_rfl) (fun _ _ _ h => h) (Or.inl ⟨by rfl, fun W hS => run_ls _ rfl w.heap.size rfl hS.1⟩) hHeld ?_
  try simp only [Act.put, List.getElem_toArray, List.getElem_cons_zero, List.getElem_cons_succ, List.setIfInBounds_toArray, List.set_cons_zero, List.set_cons_succ]
  refine wpAnyH_take (i := 2) (v := .pointer (some ⟨w.heap.size + 1, 1, none⟩)) rfl (by kernel_rfl) (by kernel_rfl) (by kernel_rfl) (fun _ _ _ h => h) (Or.inl ⟨by rfl, fun W hS => by first | rfl | (go_simp; rfl)⟩) hHeld ?_
  try simp only [Act.put, List.getElem_toArray, List.getElem_cons_zero, List.getElem_cons_succ, List.setIfInBounds_toArray, List.set_cons_zero, List.set_cons_succ]
  refine wpAnyH_take (i := 3) (v := .int .i64 (v : Int)) rfl (by kernel_rfl) (by kernel_rfl) (by kernel_rfl) (fun _ _ _ h => h) (Or.inl ⟨by rfl, fun W hS => run_evI _ rfl (w.heap.size + 1) 1 rfl hS.2 rfl⟩) hHeld ?_
  try simp only [Act.put, List.getElem_toArray, List.getElem_cons_zero, List.getElem_cons_succ, List.setIfInBounds_toArray, List.set_cons_zero, List.set_cons_succ]
  refine wpAnyH_ready (rs := [1]) (by kernel_rfl) (by simp) ?_
  refine AllReadyH.cons rfl (fun K hK => ?_) AllReadyH.nil
  rw [if_pos (by rfl)]
  go_simp
  go_at_call 55
  with_reducible refine (C1.out _).mono ?_
  rintro e w5 ⟨rfl, hb5⟩
  have HM5 := Lib.hid (HMd.out.after hb5)
  clear hb5
  go_wp2_with fail
  refine hK.out _ _ ⟨HM5.out.st, HM5.out.ev⟩ (fun hHeld => ?_)
  clear hK K
  try simp only [Act.put, List.getElem_toArray, List.getElem_cons_zero, List.getElem_cons_succ, List.setIfInBounds_toArray, List.set_cons_zero, List.set_cons_succ]
  refine wpAnyH_ready (rs := [4]) (by kernel_rfl) (by simp) ?_
  refine AllReadyH.cons rfl (fun K hK => ?_) AllReadyH.nil
  rw [if_pos (by rfl)]
  go_simp
  go_at_call 80
  with_reducible refine (C2.out _).mono ?_
  rintro e w6 ⟨rfl, rfl⟩
  go_wp2_with fail
  refine hK.out _ _ ⟨HM5.out.st, HM5.out.ev⟩ (fun hHeld => ?_)
  clear hK K
  try simp only [Act.put, List.getElem_toArray, List.getElem_cons_zero, List.getElem_cons_succ, List.setIfInBounds_toArray, List.set_cons_zero, List.set_cons_succ]
  rcases HTF.out with htb | htb
  · subst htb
    refine wpAnyH_take (i := 5) (v := .bool true) rfl (by kernel_rfl) (by kernel_rfl) (by kernel_rfl) (fun _ _ _ h => h) (Or.inl ⟨by rfl, fun W hS => by first | rfl | (go_simp; rfl)⟩) hHeld ?_
    try simp only [Act.put, List.getElem_toArray, List.getElem_cons_zero, List.getElem_cons_succ, List.setIfInBounds_toArray, List.set_cons_zero, List.set_cons_succ]
    refine wpAnyH_take (i := 6) (v := .pointer (some ⟨w.heap.size + 1, 0, none⟩)) rfl (by kernel_rfl) (by kernel_rfl) (by kernel_rfl) (fun _ _ _ h => h) (Or.inl ⟨by rfl, fun W hS => by first | rfl | (go_simp; rfl)⟩) hHeld ?_
    try simp only [Act.put, List.getElem_toArray, List.getElem_cons_zero, List.getElem_cons_succ, List.setIfInBounds_toArray, List.set_cons_zero, List.set_cons_succ]
    refine wpAnyH_take (i := 7) (v := .int .i64 x) rfl (by kernel_rfl) (by kernel_rfl) (by kernel_rfl) (fun _ _ _ h => h) (Or.inl ⟨by rfl, fun W hS => run_evI _ rfl (w.heap.size + 1) 0 rfl hS.2 rfl⟩) hHeld ?_
    try simp only [Act.put, List.getElem_toArray, List.getElem_cons_zero, List.getElem_cons_succ, List.setIfInBounds_toArray, List.set_cons_zero, List.set_cons_succ]
    refine wpAnyH_take (i := 8) (v := .pointer (some ⟨w.heap.size, 1, none⟩)) rfl (by kernel_rfl) (by kernel_rfl) (by kernel_rfl) (fun _ _ _ h => h) (Or.inl ⟨by rfl, fun W hS => by first | rfl | (go_simp; rfl)⟩) hHeld ?_
    try simp only [Act.put, List.getElem_toArray, List.getElem_cons_zero, List.getElem_cons_succ, List.setIfInBounds_toArray, List.set_cons_zero, List.set_cons_succ]
    refine wpAnyH_take (i := 9) (v := .agg (bgA f b)) rfl (by kernel_rfl) (by kernel_rfl) (by kernel_rfl) (fun _ _ _ h => h) (Or.inl ⟨by rfl, fun W hS => run_lsP _ rfl w.heap.size rfl hS.1⟩) hHeld ?_
    try simp only [Act.put, List.getElem_toArray, List.getElem_cons_zero, List.getElem_cons_succ, List.setIfInBounds_toArray, List.set_cons_zero, List.set_cons_succ]
    refine wpAnyH_take (i := 10) (v := .slice A g.length c) rfl (by kernel_rfl) (by kernel_rfl) (by kernel_rfl) (fun _ _ _ h => h) (Or.inl ⟨by rfl, fun W hS => by first | rfl | (go_simp; rfl)⟩) hHeld ?_
    try simp only [Act.put, List.getElem_toArray, List.getElem_cons_zero, List.getElem_cons_succ, List.setIfInBounds_toArray, List.set_cons_zero, List.set_cons_succ]
    refine wpAnyH_take (i := 11) (v := .pointer (some ⟨w.heap.size + 1, 1, none⟩)) rfl (by kernel_rfl) (by kernel_rfl) (by kernel_rfl) (fun _ _ _ h => h) (Or.inl ⟨by rfl, fun W hS => by first | rfl | (go_simp; rfl)⟩) hHeld ?_
    try simp only [Act.put, List.getElem_toArray, List.getElem_cons_zero, List.getElem_cons_succ, List.setIfInBounds_toArray, List.set_cons_zero, List.set_cons_succ]
    refine wpAnyH_take (i := 12) (v := .int .i64 (v : Int)) rfl (by kernel_rfl) (by kernel_rfl) (by kernel_rfl) (fun _ _ _ h => h) (Or.inl ⟨by rfl, fun W hS => run_evI _ rfl (w.heap.size + 1) 1 rfl hS.2 rfl⟩) hHeld ?_
    try simp only [Act.put, List.getElem_toArray, List.getElem_cons_zero, List.getElem_cons_succ, List.setIfInBounds_toArray, List.set_cons_zero, List.set_cons_succ]
    refine wpAnyH_ready (rs := [13]) (by kernel_rfl) (by simp) ?_
    refine AllReadyH.cons rfl (fun K hK => ?_) AllReadyH.nil
    rw [if_pos (by rfl)]
    go_simp
    go_at_call 58
    with_reducible refine (C3.out _ HM5.out.below).mono ?_
    rintro e w7 ⟨rfl, hb7⟩
    have HM7 := Lib.hid (HM5.out.after hb7)
    clear hb7
    go_wp2_with fail
    refine hK.out _ _ ⟨HM7.out.st, HM7.out.ev⟩ (fun hHeld => ?_)
    clear hK K
    try simp only [Act.put, List.getElem_toArray, List.getElem_cons_zero, List.getElem_cons_succ, List.setIfInBounds_toArray, List.set_cons_zero, List.set_cons_succ]
    refine wpAnyH_take (i := 14) (v := .bool (x == f v + Bs.timeOf g v)) rfl (by kernel_rfl) (by kernel_rfl) (by kernel_rfl) (fun _ _ _ h => h) (Or.inl ⟨by rfl, fun W hS => by first | rfl | (go_simp; rfl)⟩) hHeld ?_
    try simp only [Act.put, List.getElem_toArray, List.getElem_cons_zero, List.getElem_cons_succ, List.setIfInBounds_toArray, List.set_cons_zero, List.set_cons_succ]
    refine wpAnyH_take (i := 15) (v := .bool (x == f v + Bs.timeOf g v)) rfl (by kernel_rfl) (by kernel_rfl) (by kernel_rfl) (fun _ _ _ h => h) (Or.inl ⟨by rfl, fun W hS => by first | rfl | (go_simp; rfl)⟩) hHeld ?_
    try simp only [Act.put, List.getElem_toArray, List.getElem_cons_zero, List.getElem_cons_succ, List.setIfInBounds_toArray, List.set_cons_zero, List.set_cons_succ]
    refine wpAnyH_take (i := 16) (v := .bool (x == f v + Bs.timeOf g v)) rfl (by kernel_rfl) (by kernel_rfl) (by kernel_rfl) (fun _ _ _ h => h) (Or.inl ⟨by rfl, fun W hS => by first | rfl | (go_simp; rfl)⟩) hHeld ?_
    try simp only [Act.put, List.getElem_toArray, List.getElem_cons_zero, List.getElem_cons_succ, List.setIfInBounds_toArray, List.set_cons_zero, List.set_cons_succ]
    refine wpAnyH_done (by kernel_rfl) ?_ _
    go_wp2
    go_ret
    exact ⟨rfl, HM7.out.below⟩
  · subst htb
    refine wpAnyH_take (i := 5) (v := .bool false) rfl (by kernel_rfl) (by kernel_rfl) (by kernel_rfl) (fun _ _ _ h => h) (Or.inl ⟨by rfl, fun W hS => by first | rfl | (go_simp; rfl)⟩) hHeld ?_
    try simp only [Act.put, List.getElem_toArray, List.getElem_cons_zero, List.getElem_cons_succ, List.setIfInBounds_toArray, List.set_cons_zero, List.set_cons_succ]
    refine wpAnyH_take (i := 6) (v := undef) rfl (by kernel_rfl) (by kernel_rfl) (by kernel_rfl) (fun _ _ _ h => h) (Or.inr ⟨by rfl, rfl⟩) hHeld ?_
    try simp only [Act.put, List.getElem_toArray, List.getElem_cons_zero, List.getElem_cons_succ, List.setIfInBounds_toArray, List.set_cons_zero, List.set_cons_succ]
    refine wpAnyH_take (i := 7) (v := undef) rfl (by kernel_rfl) (by kernel_rfl) (by kernel_rfl) (fun _ _ _ h => h) (Or.inr ⟨by rfl, rfl⟩) hHeld ?_
    try simp only [Act.put, List.getElem_toArray, List.getElem_cons_zero, List.getElem_cons_succ, List.setIfInBounds_toArray, List.set_cons_zero, List.set_cons_succ]
    refine wpAnyH_take (i := 8) (v := undef) rfl (by kernel_rfl) (by kernel_rfl) (by kernel_rfl) (fun _ _ _ h => h) (Or.inr ⟨by rfl, rfl⟩) hHeld ?_
    try simp only [Act.put, List.getElem_toArray, List.getElem_cons_zero, List.getElem_cons_succ, List.setIfInBounds_toArray, List.set_cons_zero, List.set_cons_succ]
    refine wpAnyH_take (i := 9) (v := undef) rfl (by kernel_rfl) (by kernel_rfl) (by kernel_rfl) (fun _ _ _ h => h) (Or.inr ⟨by rfl, rfl⟩) hHeld ?_
    try simp only [Act.put, List.getElem_toArray, List.getElem_cons_zero, List.getElem_cons_succ, List.setIfInBounds_toArray, List.set_cons_zero, List.set_cons_succ]
    refine wpAnyH_take (i := 10) (v := undef) rfl (by kernel_rfl) (by kernel_rfl) (by kernel_rfl) (fun _ _ _ h => h) (Or.inr ⟨by rfl, rfl⟩) hHeld ?_
    try simp only [Act.put, List.getElem_toArray, List.getElem_cons_zero, List.getElem_cons_succ, List.setIfInBounds_toArray, List.set_cons_zero, List.set_cons_succ]
    refine wpAnyH_take (i := 11) (v := undef) rfl (by kernel_rfl) (by kernel_rfl) (by kernel_rfl) (fun _ _ _ h => h) (Or.inr ⟨by rfl, rfl⟩) hHeld ?_
    try simp only [Act.put, List.getElem_toArray, List.getElem_cons_zero, List.getElem_cons_succ, List.setIfInBounds_toArray, List.set_cons_zero, List.set_cons_succ]
    refine wpAnyH_take (i := 12) (v := undef) rfl (by kernel_rfl) (by kernel_rfl) (by kernel_rfl) (fun _ _ _ h => h) (Or.inr ⟨by rfl, rfl⟩) hHeld ?_
    try simp only [Act.put, List.getElem_toArray, List.getElem_cons_zero, List.getElem_cons_succ, List.setIfInBounds_toArray, List.set_cons_zero, List.set_cons_succ]
    refine wpAnyH_take (i := 13) (v := undef) rfl (by kernel_rfl) (by kernel_rfl) (by kernel_rfl) (fun _ _ _ h => h) (Or.inr ⟨by rfl, rfl⟩) hHeld ?_
    try simp only [Act.put, List.getElem_toArray, List.getElem_cons_zero, List.getElem_cons_succ, List.setIfInBounds_toArray, List.set_cons_zero, List.set_cons_succ]
    refine wpAnyH_take (i := 14) (v := undef) rfl (by kernel_rfl) (by kernel_rfl) (by kernel_rfl) (fun _ _ _ h => h) (Or.inr ⟨by rfl, rfl⟩) hHeld ?_
    try simp only [Act.put, List.getElem_toArray, List.getElem_cons_zero, List.getElem_cons_succ, List.setIfInBounds_toArray, List.set_cons_zero, List.set_cons_succ]
    refine wpAnyH_take (i := 15) (v := .bool false) rfl (by kernel_rfl) (by kernel_rfl) (by kernel_rfl) (fun _ _ _ h => h) (Or.inl ⟨by rfl, fun W hS => by first | rfl | (go_simp; rfl)⟩) hHeld ?_
    try simp only [Act.put, List.getElem_toArray, List.getElem_cons_zero, List.getElem_cons_succ, List.setIfInBounds_toArray, List.set_cons_zero, List.set_cons_succ]
    refine wpAnyH_take (i := 16) (v := .bool false) rfl (by kernel_rfl) (by kernel_rfl) (by kernel_rfl) (fun _ _ _ h => h) (Or.inl ⟨by rfl, fun W hS => by first | rfl | (go_simp; rfl)⟩) hHeld ?_
    try simp only [Act.put, List.getElem_toArray, List.getElem_cons_zero, List.getElem_cons_succ, List.setIfInBounds_toArray, List.set_cons_zero, List.set_cons_succ]
    refine wpAnyH_done (by kernel_rfl) ?_ _
    go_wp2
    go_ret
    exact ⟨rfl, HM5.out.below⟩
set_option maxRecDepth 20000 in
set_option maxHeartbeats 1600000 in
theorem canBegin_any (t : Int) (f : Nat → Int) (b o : Nat) (B O : List Int) (x : Int) (v : Nat) (ov : Bool) (A : Option Addr) (c : Nat) (g : List Bs.T) (lo hi : Nat) (w : World) (h : RG w lo hi A g) (hh : hi ≤ w.heap.size) (hF : Bs.fine g = true) (hv : v < g.length) (hb : b = Bs.bits B) (ho : o = Bs.bits O) (hB : ∀ y ∈ B, 0 ≤ y ∧ y < 8) (hO : ∀ y ∈ O, 0 ≤ y ∧ y < 8) :
    Calls Try.prog 77 #[.agg (lsA t f b o), .slice A g.length c, .agg #[.int .i64 x, .int .i64 (v : Int), .bool ov]] w fun e w' => e = .returned (.bool (!B.contains (v : Int) && (Bs.need g v).all fun y => O.contains y)) ∧ Below w.heap.size w w' := by
  have hgl := Bs.fine_len hF
  have hv8 : v < 8 := by omega
  have hb8 : b < 256 := by rw [hb]; exact Bs.bits_lt B hB
  have ho8 : o < 256 := by rw [ho]; exact Bs.bits_lt O hO
  have hm := CM.new w t f b o x (v : Int) ov
  have hsz := lsA_size t f b o
  have HM := Lib.hid hm
  have hbt : b.testBit v = B.contains (v : Int) := by rw [hb]; exact Bs.bits_test B (fun y hy => (hB y hy).1) v
  have c2 := fun W => hasTask_any b v W hb8 hv8
  rw [hbt] at c2
  have hn8 : ∀ y ∈ Bs.need g v, 0 ≤ y ∧ y < 8 := fun y hy => by have := Bs.fine_need hF hy; omega
  have hbs : (bits .andNot .u64 ((Bs.bits (Bs.need g v) : Nat) : Int) (o : Int) == 0) = ((Bs.need g v).all fun y => O.contains y) := by
    have h1 := Bs.bits_lt _ hn8
    rw [u64_andNot_nat _ _ (by omega) (by omega), ho, Bool.eq_iff_iff, ← Bs.bits_sub _ O hn8 hO]
    simp only [beq_iff_eq]
    omega
  obtain ⟨bg, og, N, cN, rfl, hl1, hl2, k0, k1, k2, k3, hnc, hcN, hN⟩ := h v hv
  have hne : Bs.need g v = g[v].needs := need_at hv
  rw [hne] at hbs hn8
  have c3 := fun W (hb : Below w.heap.size w W) => setOf_any N cN g[v].needs lo hi W (hN.below hb hh) (by have := Bs.fine_needs_len hF hv; omega) hn8
  have hk1 := fun W (hb : Below w.heap.size w W) => (hb.cell (p := ⟨bg, og + v * 4 + 1, none⟩) (by show bg < _; omega)).trans k1
  have i0 : (0 : Int) ≤ (v : Int) := by omega
  have i1 : (v : Int) < (g.length : Int) := by omega
  rw [hne]
  generalize ((g[v].needs).all fun y => O.contains y) = nb at *
  generalize B.contains (v : Int) = tb at *
  generalize g[v].needs = nd at *
  generalize hND : ((Bs.bits nd : Nat) : Int) = ndb at *
  have HBS := Lib.hid hbs
  have HK1 := Lib.hid hk1
  have C3 := Lib.hid c3
  clear hm c3 h hbs hbt hB hO hn8 hk1 k0 k1 k2 k3 hN hne hF hb ho hND
  go_enter Try.func77, Try.ntmps77
  go_wp2_with fail
  generalize ((w.alloc (.cells (lsA t f b o) 61)).alloc (.cells #[.int .i64 x, .int .i64 (v : Int), .bool ov] 33)) = W at *
  have a9 := HM.out.st.begun
  have a10 := HM.out.st.over
  have e1 : W.cell? ⟨w.heap.size + 1, 1, none⟩ = some (.int .i64 (v : Int)) := (Blk.cell HM.out.ev 1).trans rfl
  have q1 := HK1.out W HM.out.below
  have C2 := fun j => Lib.hid (show Calls Try.prog 80 #[.int .u64 b, .int .i64 v] (W.drewN j) fun e w' => e = .returned (.bool tb) ∧ ∃ m, w' = W.drewN m from (c2 (W.drewN j)).mono fun _ _ ⟨h1, h2⟩ => ⟨h1, j, h2.symm⟩)
  have C4 := fun j => Lib.hid (show Calls Try.prog 48 #[.slice N nd.length cN] (W.drewN j) fun e w' => e = .returned (.int .u64 ndb) ∧ ∃ m, w' = W.drewN m from (C3.out (W.drewN j) (HM.out.below.drewN _)).mono fun _ _ ⟨h1, h2⟩ => ⟨h1, j, h2.symm⟩)
  have hbs := HBS.out
  clear c2 C3
  cases tb
  · go_quiet ((first | (go_at_call 80; with_reducible exact (C2 _).out) | (go_at_call 48; with_reducible exact (C4 _).out)))
    go_wp2
    go_ret
    exact ⟨rfl, HM.out.below.drewN _⟩
  · go_quiet ((first | (go_at_call 80; with_reducible exact (C2 _).out) | (go_at_call 48; with_reducible exact (C4 _).out)))
    go_wp2
    go_ret
    exact ⟨rfl, HM.out.below.drewN _⟩
theorem acc_no {g : List Bs.T} {now : Int} {f : Nat → Int} {B O : List Int} {xa xt : Int} {xo : Bool} (h : xa < now ∨ 200 < xa ∨ ¬ (0 ≤ xt ∧ xt < (g.length : Int))) : Bs.accB g now f B O ⟨xa, xt, xo⟩ = false := by
  unfold Bs.accB
  rcases h with h | h | h
  · have : decide (now ≤ xa) = false := decide_eq_false (by omega)
    simp only [this, Bool.false_and]
  · have : decide (xa ≤ 200) = false := decide_eq_false (by omega)
    simp only [this, Bool.and_false, Bool.false_and]
  · have : decide (0 ≤ xt ∧ xt < (g.length : Int)) = false := decide_eq_false h
    simp only [this, Bool.and_false, Bool.false_and]
theorem acc_over {g : List Bs.T} {now : Int} {f : Nat → Int} {B O : List Int} {xa : Int} {v : Nat} (h1 : now ≤ xa) (h2 : xa ≤ 200) (h3 : v < g.length) : Bs.accB g now f B O ⟨xa, (v : Int), true⟩ = ((B.contains (v : Int) && !O.contains (v : Int)) && (xa == f v + Bs.timeOf g v)) := by
  unfold Bs.accB
  have e1 : decide (now ≤ xa) = true := decide_eq_true h1
  have e2 : decide (xa ≤ 200) = true := decide_eq_true h2
  have e3 : decide (0 ≤ (v : Int) ∧ (v : Int) < (g.length : Int)) = true := decide_eq_true (by omega)
  simp only [e1, e2, e3, Bool.true_and, if_true, Int.toNat_natCast]
theorem acc_begin {g : List Bs.T} {now : Int} {f : Nat → Int} {B O : List Int} {xa : Int} {v : Nat} (h1 : now ≤ xa) (h2 : xa ≤ 200) (h3 : v < g.length) : Bs.accB g now f B O ⟨xa, (v : Int), false⟩ = (!B.contains (v : Int) && (Bs.need g v).all fun y => O.contains y) := by
  unfold Bs.accB
  have e1 : decide (now ≤ xa) = true := decide_eq_true h1
  have e2 : decide (xa ≤ 200) = true := decide_eq_true h2
  have e3 : decide (0 ≤ (v : Int) ∧ (v : Int) < (g.length : Int)) = true := decide_eq_true (by omega)
  simp only [e1, e2, e3, Bool.true_and, Bool.false_eq_true, if_false, Int.toNat_natCast]
set_option maxHeartbeats 1600000 in
theorem accepts_any (now : Int) (f : Nat → Int) (B O : List Int) (xa xt : Int) (xo : Bool) (A : Option Addr) (c : Nat) (g : List Bs.T) (lo hi : Nat) (w : World) (h : RG w lo hi A g) (hh : hi ≤ w.heap.size) (hF : Bs.fine g = true) (hB : ∀ y ∈ B, 0 ≤ y ∧ y < 8) (hO : ∀ y ∈ O, 0 ≤ y ∧ y < 8) (hf : ∀ i, i < 8 → 0 ≤ f i ∧ f i ≤ 100000) :
    Calls Try.prog 37 #[.agg (lsA now f (Bs.bits B) (Bs.bits O)), .slice A g.length c, .agg #[.int .i64 xa, .int .i64 xt, .bool xo]] w fun e w' => e = .returned (.bool (Bs.accB g now f B O ⟨xa, xt, xo⟩)) ∧ Below w.heap.size w w' := by
  have hgl := Bs.fine_len hF
  have hb8 := Bs.bits_lt B hB
  have ho8 := Bs.bits_lt O hO
  have hm := CM.new w now f (Bs.bits B) (Bs.bits O) xa xt xo
  have hsz := lsA_size now f (Bs.bits B) (Bs.bits O)
  have HM := Lib.hid hm
  have c1 := fun W => isTask_any A g.length c xt W (by omega)
  have c2 := fun (v : Nat) (hv : v < g.length) W (hb : Below w.heap.size w W) => canEnd_any now f (Bs.bits B) (Bs.bits O) xa v xo A c g lo hi W (h.below hb hh) (Nat.le_trans hh hb.size) hF hv hb8 ho8 hf
  have c3 := fun (v : Nat) (hv : v < g.length) W (hb : Below w.heap.size w W) => canBegin_any now f (Bs.bits B) (Bs.bits O) B O xa v xo A c g lo hi W (h.below hb hh) (Nat.le_trans hh hb.size) hF hv rfl rfl hB hO
  have HTB := Lib.hid (fun v => Bs.bits_test B (fun y hy => (hB y hy).1) v)
  have HTO := Lib.hid (fun v => Bs.bits_test O (fun y hy => (hO y hy).1) v)
  have C2 := Lib.hid c2
  have C3 := Lib.hid c3
  clear hm h hf hB hO c2 c3 hF
  have a0 := HM.out.st.now
  have e0 : World.cell? _ ⟨w.heap.size + 1, 0, none⟩ = some (.int .i64 xa) := (Blk.cell HM.out.ev 0).trans rfl
  have e1 : World.cell? _ ⟨w.heap.size + 1, 1, none⟩ = some (.int .i64 xt) := (Blk.cell HM.out.ev 1).trans rfl
  have e2 : World.cell? _ ⟨w.heap.size + 1, 2, none⟩ = some (.bool xo) := (Blk.cell HM.out.ev 2).trans rfl
  by_cases h1 : xa < now
  · have HV := Lib.hid (acc_no (g := g) (now := now) (f := f) (B := B) (O := O) (xt := xt) (xo := xo) (.inl h1))
    clear c1
    go_enter Try.func37, Try.ntmps37
    go_wp2
    go_ret
    exact ⟨ret_bool HV.out.symm, HM.out.below⟩
  by_cases h2 : 200 < xa
  · have HV := Lib.hid (acc_no (g := g) (now := now) (f := f) (B := B) (O := O) (xt := xt) (xo := xo) (.inr (.inl h2)))
    clear c1
    go_enter Try.func37, Try.ntmps37
    go_wp2
    go_ret
    exact ⟨ret_bool HV.out.symm, HM.out.below⟩
  by_cases h3 : 0 ≤ xt ∧ xt < (g.length : Int)
  rotate_left
  · have HV := Lib.hid (acc_no (g := g) (now := now) (f := f) (B := B) (O := O) (xa := xa) (xo := xo) (.inr (.inr h3)))
    have hd : decide (0 ≤ xt ∧ xt < (g.length : Int)) = false := decide_eq_false h3
    rw [hd] at c1
    have C1 := Lib.hid c1
    clear c1 h3 hd
    go_enter Try.func37, Try.ntmps37
    go_wp2_with fail
    with_reducible refine (C1.out _).mono ?_
    rintro e w5 ⟨rfl, rfl⟩
    go_wp2
    go_ret
    exact ⟨ret_bool HV.out.symm, HM.out.below⟩
  · have hd : decide (0 ≤ xt ∧ xt < (g.length : Int)) = true := decide_eq_true h3
    rw [hd] at c1
    have C1 := Lib.hid c1
    obtain ⟨v, rfl⟩ : ∃ v : Nat, xt = (v : Int) := ⟨xt.toNat, by omega⟩
    have hv : v < g.length := by omega
    cases xo
    · have HV := Lib.hid (acc_begin (f := f) (B := B) (O := O) (show now ≤ xa by omega) (show xa ≤ 200 by omega) hv)
      have C4 := Lib.hid (C3.out v hv _ HM.out.below)
      clear c1 h3 hd C2 C3
      go_enter Try.func37, Try.ntmps37
      go_wp2_with fail
      with_reducible refine (C1.out _).mono ?_
      rintro e w5 ⟨rfl, rfl⟩
      go_wp2_with (first
        | (refine ls_load rfl _ rfl w.heap.size now f (Bs.bits B) (Bs.bits O) rfl HM.out.st ?_))
      with_reducible refine (C4.out).mono ?_
      rintro e w6 ⟨rfl, hb6⟩
      have HB6 := Lib.hid (HM.out.below.trans (hb6.mono HM.out.below.size))
      clear hb6
      go_wp2
      go_ret
      exact ⟨ret_bool (by rw [HV.out]; simp), HB6.out⟩
    · have HV := Lib.hid (acc_over (f := f) (B := B) (O := O) (show now ≤ xa by omega) (show xa ≤ 200 by omega) hv)
      have c4 := C2.out v hv _ HM.out.below
      rw [HTB.out v, HTO.out v] at c4
      have C4 := Lib.hid c4
      clear c1 h3 hd C2 C3 c4
      go_enter Try.func37, Try.ntmps37
      go_wp2_with fail
      with_reducible refine (C1.out _).mono ?_
      rintro e w5 ⟨rfl, rfl⟩
      go_wp2_with (first
        | (refine ls_load rfl _ rfl w.heap.size now f (Bs.bits B) (Bs.bits O) rfl HM.out.st ?_))
      with_reducible refine (C4.out).mono ?_
      rintro e w6 ⟨rfl, hb6⟩
      have HB6 := Lib.hid (HM.out.below.trans (hb6.mono HM.out.below.size))
      clear hb6
      go_wp2
      go_ret
      exact ⟨ret_bool (by rw [HV.out]; simp), HB6.out⟩
end Go.Proofs.Ytihgakbopkaemaa
