/-
  WALKS: the heap of users, of the program: its first one is served; it is built; who comes next; all are served.
-/
import Derived.Test.YtbmfhnijbdmjbaaW102
import Derived.Test.YtbmfhnijbdmjbaaMath81
import Derived.Test.YtbmfhnijbdmjbaaK1
import Derived.Test.YtbmfhnijbdmjbaaK27
namespace Go.Proofs.Ytbmfhnijbdmjbaa
open Go.RowKit
theorem UB.setFar {w : World} {g : Nat} {f : Nat → Bs.H} {n : Int} (h : UB w g f n) {p : Addr} (hp : g ≠ p.block) (u : Value) : UB (w.setCell p u) g f n := (heap_setCell_other w p g u hp).trans h
theorem UB.c0z {w : World} {b : Nat} {f : Nat → Bs.H} {n : Int} (h : UB w b f n) : w.cell? ⟨b, 0, none⟩ = some (.int .i64 (f 0).at_) := h.c0 (i := 0) (by omega)
theorem UB.c1z {w : World} {b : Nat} {f : Nat → Bs.H} {n : Int} (h : UB w b f n) : w.cell? ⟨b, 1, none⟩ = some (.int .i64 (f 0).u.share) := h.c1 (i := 0) (by omega)
theorem UB.c2z {w : World} {b : Nat} {f : Nat → Bs.H} {n : Int} (h : UB w b f n) : w.cell? ⟨b, 2, none⟩ = some (.int .i64 (f 0).u.used) := h.c2 (i := 0) (by omega)
theorem UB.c3z {w : World} {b : Nat} {f : Nat → Bs.H} {n : Int} (h : UB w b f n) : w.cell? ⟨b, 3, none⟩ = some (.int .i64 (f 0).u.waits) := h.c3 (i := 0) (by omega)
theorem wu_load0 {ops : Array Oper} {rest : List Oper} {o : Oper} {a : Act} {w : World} {Q : Exit → Act → World → Prop} (hgd : o.guard = none) (x : Operand) (ho : o.op = .load 52 x)
    (b : Nat) (f : Nat → Bs.H) (n : Int) (hx : a.eval x = .pointer (some ⟨b, 0, none⟩)) (hb : UB w b f n) (h : wpList Try.prog ops Q rest (a.put o.dst (.agg #[.int .i64 (f 0).at_, .int .i64 (f 0).u.share, .int .i64 (f 0).u.used, .int .i64 (f 0).u.waits])) w) : wpList Try.prog ops Q (o :: rest) a w :=
  wu_load hgd x ho b f n 0 (by omega) hx hb h
theorem wu_store0 {ops : Array Oper} {rest : List Oper} {o : Oper} {a : Act} {w : World} {Q : Exit → Act → World → Prop} (hgd : o.guard = none) (x y : Operand) (ho : o.op = .store 52 x y)
    (b : Nat) (f : Nat → Bs.H) (n : Int) (u : Bs.H) (hx : a.eval x = .pointer (some ⟨b, 0, none⟩)) (hy : a.eval y = .agg (hA u)) (hb : UB w b f n)
    (h : ∀ w', UB w' b (Bs.upd f 0 u) n → OnlyB b w w' → wpList Try.prog ops Q rest (a.put o.dst undef) w') : wpList Try.prog ops Q (o :: rest) a w :=
  wu_store hgd x y ho b f n 0 (by omega) u hx hy hb h
theorem wb_store {ops : Array Oper} {rest : List Oper} {o : Oper} {a : Act} {w : World} {Q : Exit → Act → World → Prop} (hgd : o.guard = none) (x y : Operand) (ho : o.op = .store 46 x y)
    (b : Nat) (z s0 u0 v0 s u v : Int) (hx : a.eval x = .pointer (some ⟨b, 1, none⟩)) (hy : a.eval y = .agg #[.int .i64 s, .int .i64 u, .int .i64 v]) (hb : Blk w b 52 #[.int .i64 z, .int .i64 s0, .int .i64 u0, .int .i64 v0])
    (h : ∀ w', Blk w' b 52 #[.int .i64 z, .int .i64 s, .int .i64 u, .int .i64 v] → OnlyB b w w' → wpList Try.prog ops Q rest (a.put o.dst undef) w') : wpList Try.prog ops Q (o :: rest) a w := by
  refine wpList_store_mid hgd 46 x y ho b 1 #[.int .i64 s, .int .i64 u, .int .i64 v] hx hy ?_ Try.sizeUserD (by simp [Value.oneCell']) ?_
  · intro j hj
    refine ⟨?_, hb.frozen _⟩
    have hj3 : j = 0 ∨ j = 1 ∨ j = 2 := by simp at hj; omega
    rcases hj3 with rfl | rfl | rfl <;> (rw [hb.cell]; rfl)
  · refine h _ ?_ ?_
    · have := ((hb.set_ 1 (.int .i64 s)).set_ 2 (.int .i64 u)).set_ 3 (.int .i64 v)
      exact this
    · exact ((OnlyB.set w b 1 _).trans' (OnlyB.set _ b 2 _)).trans' (OnlyB.set _ b 3 _)
set_option maxRecDepth 20000 in
set_option maxHeartbeats 3200000 in
theorem serveFirst_any (f : Nat → Bs.H) (n : Nat) (t : Int) (hn0 : 0 < n) (hn : n ≤ 5) (ht : 1 ≤ t ∧ t ≤ 20) (hok : ∀ j, j < n → Bs.hOk (f j)) (hok2 : ∀ j, j < Bs.hsN f n → Bs.hOk (Bs.hs2 f n t j)) (w : World) :
    Calls Try.prog 41 #[.agg (huA f n), .int .i64 t] w fun e w' => e = .returned (.agg (huA (Bs.hsF f n t) (Bs.hsN f n))) ∧ Below w.heap.size w w' := by
  have C1 := Lib.hid (fun W => show Calls Try.prog 40 #[.agg #[.int .i64 (f 0).u.share, .int .i64 (f 0).u.used, .int .i64 (f 0).u.waits], .int .i64 t] W fun e w' => e = .returned (.agg #[.int .i64 (Bs.servU (f 0).u t).share, .int .i64 (Bs.servU (f 0).u t).used, .int .i64 (Bs.servU (f 0).u t).waits]) ∧ Below W.heap.size W w' from served_any (f 0).u t W (hok 0 hn0).1 ht)
  have hle : Bs.hsN f n ≤ 5 := by unfold Bs.hsN; split <;> omega
  have c2 := fun W => settled_any 5 (Bs.hs2 f n t) (Bs.hsN f n) 0 hle (by omega) (by omega) hok2 W
  rw [show ((0 : Nat) : Int) = 0 from rfl] at c2
  have C2 := Lib.hid (fun W => show Calls Try.prog 51 #[.agg (huA (Bs.hs2 f n t) (Bs.hsN f n)), .int .i64 0] W fun e w' => e = .returned (.agg (huA (Bs.hsF f n t) (Bs.hsN f n))) ∧ Below W.heap.size W w' from c2 W)
  have kb := (UB.new w f n).alloc (.cells (huA z5 0) 55)
  have kz := UB.new (w.alloc (.cells (huA f n) 55)) z5 0
  rw [show (w.alloc (.cells (huA f n) 55)).heap.size = w.heap.size + 1 from by simp] at kz
  have hbl : Below w.heap.size w ((w.alloc (.cells (huA f n) 55)).alloc (.cells (huA z5 0) 55)) := ((Below.refl _ _).alloc (Nat.le_refl _) _).alloc (by simp) _
  have hs2 : ((w.alloc (.cells (huA f n) 55)).alloc (.cells (huA z5 0) 55)).heap.size = w.heap.size + 1 + 1 := by simp
  rw [z5A] at kb kz hbl hs2
  have HKB := Lib.hid kb
  have HKZ := Lib.hid kz
  have HBL := Lib.hid hbl
  have HS2 := Lib.hid hs2
  have hsz := huA_size f n
  have HKU := Lib.hid (show Blk (((w.alloc (.cells (huA f n) 55)).alloc (.cells #[.int .i64 0, .int .i64 0, .int .i64 0, .int .i64 0, .int .i64 0, .int .i64 0, .int .i64 0, .int .i64 0, .int .i64 0, .int .i64 0, .int .i64 0, .int .i64 0, .int .i64 0, .int .i64 0, .int .i64 0, .int .i64 0, .int .i64 0, .int .i64 0, .int .i64 0, .int .i64 0, .int .i64 0] 55)).alloc (.cells #[.int .i64 (f 0).at_, .int .i64 (f 0).u.share, .int .i64 (f 0).u.used, .int .i64 (f 0).u.waits] 52)) (w.heap.size + 1 + 1) 52 #[.int .i64 (f 0).at_, .int .i64 (f 0).u.share, .int .i64 (f 0).u.used, .int .i64 (f 0).u.waits] from by
    have := Blk.new ((w.alloc (.cells (huA f n) 55)).alloc (.cells #[.int .i64 0, .int .i64 0, .int .i64 0, .int .i64 0, .int .i64 0, .int .i64 0, .int .i64 0, .int .i64 0, .int .i64 0, .int .i64 0, .int .i64 0, .int .i64 0, .int .i64 0, .int .i64 0, .int .i64 0, .int .i64 0, .int .i64 0, .int .i64 0, .int .i64 0, .int .i64 0, .int .i64 0] 55)) 52 #[.int .i64 (f 0).at_, .int .i64 (f 0).u.share, .int .i64 (f 0).u.used, .int .i64 (f 0).u.waits]
    rwa [HS2.out] at this)
  have HKB1 := Lib.hid (HKB.out.alloc (.cells #[.int .i64 (f 0).at_, .int .i64 (f 0).u.share, .int .i64 (f 0).u.used, .int .i64 (f 0).u.waits] 52))
  have HKZ1 := Lib.hid (HKZ.out.alloc (.cells #[.int .i64 (f 0).at_, .int .i64 (f 0).u.share, .int .i64 (f 0).u.used, .int .i64 (f 0).u.waits] 52))
  have HBL1 := Lib.hid (HBL.out.alloc (by rw [HS2.out]; omega) (.cells #[.int .i64 (f 0).at_, .int .i64 (f 0).u.share, .int .i64 (f 0).u.used, .int .i64 (f 0).u.waits] 52))
  have HSV := Lib.hid (show (Bs.servU (f 0).u t).waits = (f 0).u.waits - 1 from rfl)
  have HS1 := Lib.hid (show Bs.upd f 0 ⟨(f 0).at_, Bs.servU (f 0).u t⟩ = Bs.hs1 f t from rfl)
  have HN1 := Lib.hid (fun (h : (f 0).u.waits - 1 = 0) => show Bs.hsN f n = n - 1 ∧ Bs.hs2 f n t = Bs.upd (Bs.hs1 f t) 0 (Bs.hs1 f t (n - 1)) from ⟨if_pos h, if_pos h⟩)
  have HN2 := Lib.hid (fun (h : ¬ (f 0).u.waits - 1 = 0) => show Bs.hsN f n = n ∧ Bs.hs2 f n t = Bs.hs1 f t from ⟨if_neg h, if_neg h⟩)
  have HKB0 := Lib.hid HKB.out
  clear kb kz hbl hs2 hok hok2 c2 hle HKB HKZ HBL
  generalize Bs.hsF f n t = F at *
  generalize Bs.hsN f n = N at *
  generalize Bs.hs2 f n t = G at *
  have hszF := huA_size F N
  have hszG := huA_size G N
  obtain ⟨SU, hSU⟩ : ∃ SU, SU = Bs.servU (f 0).u t := ⟨_, rfl⟩
  rw [← hSU] at C1 HSV HS1
  clear hSU
  obtain ⟨m, rfl⟩ : ∃ m, n = m + 1 := ⟨n - 1, by omega⟩
  have hwm : IntKind.i64.wrap (((m + 1 : Nat) : Int) - 1) = (m : Int) := IntWalk.i64_in _ ⟨by omega, by omega⟩ |>.trans (by omega)
  go_enter Try.func41, Try.ntmps41
  go_wp2_with (first | (refine wu_load0 rfl _ rfl w.heap.size f (m + 1 : Nat) rfl HKB0.out ?_))
  refine (C1.out _).mono ?_
  rintro e w1 ⟨rfl, hb1⟩
  have hu1 := HKU.out.below hb1 HKU.out.lt
  have HU1 := Lib.hid hu1
  have HB1 := Lib.hid (HKB1.out.below hb1 HKB1.out.lt)
  have HZ1 := Lib.hid (HKZ1.out.below hb1 HKZ1.out.lt)
  have HL1 := Lib.hid (HBL1.out.trans (hb1.mono HBL1.out.size))
  clear hu1 hb1 HKU HKB1 HKZ1 HBL1 C1
  by_cases hz : (f 0).u.waits - 1 = 0
  · obtain ⟨e1, e2⟩ := HN1.out hz
    rw [show m + 1 - 1 = m from rfl] at e1 e2
    have d1 : (SU.waits == 0) = true := by rw [HSV.out]; simpa using hz
    have hm5 : m < 5 := by omega
    have j0 : (0 : Int) ≤ (m : Int) := by omega
    have j1 : (m : Int) < 5 := by omega
    replace e1 := e1.symm
    replace e2 := e2.symm
    subst e1
    subst e2
    clear HN1 HN2 hz HSV
    go_wp2_with (first
      | (refine wb_store rfl _ _ rfl (w.heap.size + 1 + 1) _ _ _ _ SU.share SU.used SU.waits rfl rfl HU1.out ?_; intro w2 h2 o2; have c0 := h2.cell 0; have c1 := h2.cell 1; have c2 := h2.cell 2; have c3 := h2.cell 3; have HU2 := Lib.hid h2; have HB2 := Lib.hid (o2.ub HB1.out (by omega)); have HZ2 := Lib.hid (o2.ub HZ1.out (by omega)); have HL2 := Lib.hid (HL1.out.trans (o2.below (show w.heap.size ≤ _ by omega))); clear h2 o2)
      | (refine wu_store0 rfl _ _ rfl w.heap.size f (m + 1 : Nat) ⟨(f 0).at_, SU⟩ rfl rfl HB2.out ?_; intro w3 h3 o3; have d3 := (o3.blk HU2.out (by omega)).cell 3; rw [HS1.out] at h3; have k20 := h3.n; have kf := h3.frozen 20; have HB3 := Lib.hid h3; have HZ3 := Lib.hid (o3.ub HZ2.out (by omega)); have HL3 := Lib.hid (HL2.out.trans (o3.below (Nat.le_refl _))); have HB3n := Lib.hid (h3.setN (m : Int)); clear h3 o3)
      | (refine wu_load rfl _ rfl w.heap.size (Bs.hs1 f t) (m : Int) m hm5 rfl HB3n.out ?_)
      | (refine wu_store0 rfl _ _ rfl w.heap.size (Bs.hs1 f t) (m : Int) (Bs.hs1 f t m) rfl rfl HB3n.out ?_; intro w5 h5 o5; have HB5 := Lib.hid h5; have HZ5 := Lib.hid (o5.ub (HZ3.out.setFar (p := ⟨w.heap.size, 20, none⟩) (show w.heap.size + 1 ≠ w.heap.size from by omega) (.int .i64 (m : Int))) (by omega)); have HL5 := Lib.hid ((HL3.out.setCell (p := ⟨w.heap.size, 20, none⟩) (Nat.le_refl _) (.int .i64 (m : Int))).trans (o5.below (Nat.le_refl _))); clear h5 o5)
      | (refine hu_load rfl _ rfl w.heap.size _ _ rfl HB5.out ?_))
    refine (C2.out _).mono ?_
    rintro e w6 ⟨rfl, hb6⟩
    have HZ6 := Lib.hid (HZ5.out.below hb6 HZ5.out.lt)
    have HL6 := Lib.hid (HL5.out.trans (hb6.mono HL5.out.size))
    clear hb6 C2
    go_wp2_with (first
      | (refine hu_store rfl _ _ rfl (w.heap.size + 1) z5 F 0 m rfl rfl HZ6.out ?_; intro w8 h8 o8; have H8 := Lib.hid h8; have HB8 := Lib.hid (HL6.out.trans (o8.below (Nat.le_succ _))); clear h8 o8))
    exact bodyPost_ret (hu_ret rfl _ _ (w.heap.size + 1) F m rfl H8.out) rfl ⟨rfl, HB8.out⟩
  · obtain ⟨e1, e2⟩ := HN2.out hz
    have d1 : (SU.waits == 0) = false := by rw [HSV.out]; simpa using hz
    replace e1 := e1.symm
    replace e2 := e2.symm
    subst e1
    subst e2
    clear HN1 HN2 hz HSV hwm
    go_wp2_with (first
      | (refine wb_store rfl _ _ rfl (w.heap.size + 1 + 1) _ _ _ _ SU.share SU.used SU.waits rfl rfl HU1.out ?_; intro w2 h2 o2; have c0 := h2.cell 0; have c1 := h2.cell 1; have c2 := h2.cell 2; have c3 := h2.cell 3; have HU2 := Lib.hid h2; have HB2 := Lib.hid (o2.ub HB1.out (by omega)); have HZ2 := Lib.hid (o2.ub HZ1.out (by omega)); have HL2 := Lib.hid (HL1.out.trans (o2.below (show w.heap.size ≤ _ by omega))); clear h2 o2)
      | (refine wu_store0 rfl _ _ rfl w.heap.size f (m + 1 : Nat) ⟨(f 0).at_, SU⟩ rfl rfl HB2.out ?_; intro w3 h3 o3; have d3 := (o3.blk HU2.out (by omega)).cell 3; rw [HS1.out] at h3; have HB3 := Lib.hid h3; have HZ3 := Lib.hid (o3.ub HZ2.out (by omega)); have HL3 := Lib.hid (HL2.out.trans (o3.below (Nat.le_refl _))); clear h3 o3)
      | (refine hu_load rfl _ rfl w.heap.size (Bs.hs1 f t) (m + 1 : Nat) rfl HB3.out ?_))
    refine (C2.out _).mono ?_
    rintro e w6 ⟨rfl, hb6⟩
    have HZ6 := Lib.hid (HZ3.out.below hb6 HZ3.out.lt)
    have HL6 := Lib.hid (HL3.out.trans (hb6.mono HL3.out.size))
    clear hb6 C2
    go_wp2_with (first
      | (refine hu_store rfl _ _ rfl (w.heap.size + 1) z5 F 0 (m + 1 : Nat) rfl rfl HZ6.out ?_; intro w8 h8 o8; have H8 := Lib.hid h8; have HB8 := Lib.hid (HL6.out.trans (o8.below (Nat.le_succ _))); clear h8 o8))
    exact bodyPost_ret (hu_ret rfl _ _ (w.heap.size + 1) F (m + 1 : Nat) rfl H8.out) rfl ⟨rfl, HB8.out⟩
end Go.Proofs.Ytbmfhnijbdmjbaa
