/-
  MERGED TEXTS: R72 R73 R74 R75 R76.
-/
import Derived.Test.YtihgakbopkaemaaMem11
import Derived.Test.YtihgakbopkaemaaR71
import Derived.Deep.RegionHeld
import Derived.Test.YtihgakbopkaemaaK15
import Derived.Test.YtihgakbopkaemaaK44
namespace Go.Proofs.Ytihgakbopkaemaa
open Go.RowKit
def EVs (w : World) (a : Nat) (x : Bs.E) : Prop := Blk w a 33 #[.int .i64 x.at_, .int .i64 x.task, .bool x.over]
theorem EVs.cells {w : World} {a : Nat} {x : Bs.E} (h : EVs w a x) : w.cell? ⟨a, 0, none⟩ = some (.int .i64 x.at_) ∧ w.cell? ⟨a, 1, none⟩ = some (.int .i64 x.task) ∧ w.cell? ⟨a, 2, none⟩ = some (.bool x.over) :=
  ⟨(Blk.cell h 0).trans rfl, (Blk.cell h 1).trans rfl, (Blk.cell h 2).trans rfl⟩
theorem allDoneE_q (A : Option Addr) (c : Nat) (l : List Int) (A' : Option Addr) (c' : Nat) (d : List Int) (lo hi lo' hi' : Nat) (w : World) (h : RI w lo hi A l) (h' : RI w lo' hi' A' d) (hl : l.length ≤ 9223372036854775807) (hd : d.length ≤ 9223372036854775807) (j : Nat) :
    Calls Try.prog 102 #[.slice A l.length c, .slice A' d.length c'] (w.drewN j) fun e w' => e = .returned (.bool (l.all fun x => d.contains x)) ∧ ∃ m, w' = w.drewN m :=
  (allDone_any A c l A' c' d lo hi lo' hi' (w.drewN j) h h' hl hd).mono fun _ _ ⟨h1, h2⟩ => ⟨h1, j, h2.symm⟩
theorem isInE_q0 (A : Option Addr) (c : Nat) (l : List Int) (n : Int) (lo hi : Nat) (w : World) (h : RI w lo hi A l) (hl : l.length ≤ 9223372036854775807) (j : Nat) :
    Calls Try.prog 101 #[.slice A l.length c, .int .i64 n] (w.drewN j) fun e w' => e = .returned (.bool (l.contains n)) ∧ ∃ m, w' = w.drewN m :=
  (isIn_any A c l n lo hi (w.drewN j) h hl).mono fun _ _ ⟨h1, h2⟩ => ⟨h1, j, h2.symm⟩
theorem ovL_len (l : List Bs.E) : ∀ k, (Bs.ovL l k).length ≤ k := by
  intro k
  induction k with
  | zero => simp [Bs.ovL]
  | succ k ih =>
    show (if _ then _ else _ : List Int).length ≤ _
    split
    · rw [List.length_append, List.length_singleton]; omega
    · omega
set_option maxRecDepth 20000 in
set_option maxHeartbeats 3200000 in
theorem eventFitsS_any (A : Option Addr) (c : Nat) (g : List Bs.T) (A1 : Option Addr) (c1 : Nat) (l : List Bs.E) (p : Nat) (lo hi l1 h1 : Nat) (w : World) (h : RG w lo hi A g) (hh : hi ≤ w.heap.size) (hm : RE w l1 h1 A1 l) (hh1 : h1 ≤ w.heap.size) (hF : Bs.fine g = true) (hp : p < l.length) (h16 : l.length ≤ 16) (ht : 0 ≤ (Bs.ge l p).task ∧ (Bs.ge l p).task < g.length) (hbb : ∀ k, k ≤ p → ∀ t, -1 ≤ Bs.bgM l t k ∧ Bs.bgM l t k ≤ 200) :
    Calls Try.prog 81 #[.slice A g.length c, .slice A1 l.length c1, .int .i64 (p : Int)] w fun e w' => e = .returned (.bool (Bs.fitE g l p (Bs.ge l p))) ∧ Below w.heap.size w w' := by
  have h8 := Bs.fine_len hF
  obtain ⟨x, hx⟩ : ∃ x, x = Bs.ge l p := ⟨_, rfl⟩
  rw [← hx] at ht ⊢
  obtain ⟨v, hv⟩ : ∃ v : Nat, x.task = (v : Int) := ⟨x.task.toNat, by omega⟩
  have hvl : v < g.length := by omega
  obtain ⟨bp, op, rfl, _, _, p0, p1, p2⟩ := hm.at_ hp
  rw [← hx] at p0 p1 p2
  have HE0 := Lib.hid ((show EVs (w.alloc (.cells #[.int .i64 x.at_, .int .i64 x.task, .bool x.over] 33)) w.heap.size x from Blk.new w _ _))
  have HO0 := Lib.hid (OI.new (w.alloc (.cells #[.int .i64 x.at_, .int .i64 x.task, .bool x.over] 33)) (w.heap.size + 1) (by simp))
  have HE1 := Lib.hid (show EVs ((w.alloc (.cells #[.int .i64 x.at_, .int .i64 x.task, .bool x.over] 33)).alloc (.cells #[] 3)) w.heap.size x from Blk.alloc HE0.out _)
  have HB1 := Lib.hid (((Below.refl w.heap.size w).alloc (Nat.le_refl _) (.cells #[.int .i64 x.at_, .int .i64 x.task, .bool x.over] 33)).alloc (by simp) (.cells #[] 3))
  have hs1 : (w.alloc (.cells #[.int .i64 x.at_, .int .i64 x.task, .bool x.over] 33)).heap.size = w.heap.size + 1 := by simp
  have HG := Lib.hid h
  have HR := Lib.hid hm
  have HX := Lib.hid hx
  have HV := Lib.hid hv
  have HBB := Lib.hid hbb
  have HOS := Lib.hid (fun k => show Bs.ovL l (k + 1) = if (Bs.ge l k).over then Bs.ovL l k ++ [(Bs.ge l k).task] else Bs.ovL l k from rfl)
  have HMS := Lib.hid (fun k => show Bs.bgM l x.task (k + 1) = if !(Bs.ge l k).over && ((Bs.ge l k).task == x.task) then (Bs.ge l k).at_ else Bs.bgM l x.task k from rfl)
  have HOL := Lib.hid (fun k => ovL_len l k)
  have HFE := Lib.hid (show Bs.fitE g l p x = (if x.over then decide (0 ≤ Bs.bgM l x.task p) && !(Bs.ovL l p).contains x.task && (x.at_ == Bs.bgM l x.task p + Bs.timeOf g x.task.toNat) else decide (Bs.bgM l x.task p < 0) && (Bs.need g x.task.toNat).all fun y => (Bs.ovL l p).contains y) from rfl)
  have i0 : (0 : Int) ≤ (p : Int) := by omega
  have i1 : (p : Int) < (l.length : Int) := by omega
  clear h hm hx hv hbb
  go_enter Try.func81, Try.ntmps81
  go_wp2
  go_loopw [8, 9, 10] (fun b v i wr => ∃ (k : Nat) (A' : Option Addr) (c' : Nat) (o : List Int), k ≤ p ∧ i = .int .i64 k ∧ b = .int .i64 (Bs.bgM l x.task k) ∧ v = .slice A' o.length c' ∧ o = Bs.ovL l k ∧ OI wr (w.heap.size + 1) A' c' o ∧ EVs wr w.heap.size x ∧ Below w.heap.size w wr ∧ w.heap.size + 1 ≤ wr.heap.size) (fun _ _ i _ => p - (intOf i).toNat)
  case atStart => exact ⟨0, _, _, [], Nat.zero_le _, rfl, rfl, rfl, rfl, by have := HO0.out; rw [hs1] at this; exact this, HE1.out, HB1.out, by simp⟩
  case round =>
    obtain ⟨k, A', c', o, hk, rfl, rfl, rfl, ho, hO, hE, hb, hs⟩ := hrel
    clear HE0 HO0 HE1 HB1 hs1 p0 p1 p2
    obtain ⟨x0, x1, x2⟩ := hE.cells
    have hbm := HBB.out k hk x.task
    have hol := HOL.out k
    rw [← ho] at hol
    by_cases hlt : k < p
    · have hkl : k < l.length := by omega
      obtain ⟨b', o', e', _, _, k0, k1, k2⟩ := (HR.out.below hb hh1).at_ hkl
      cases e'
      have hos := HOS.out k
      have hms := HMS.out k
      have hbm2 := HBB.out (k + 1) (by omega) x.task
      rw [← ho] at hos
      have j0 : (0 : Int) ≤ (k : Int) := by omega
      have j1 : (k : Int) < (l.length : Int) := by omega
      have j2 : (k : Int) < (p : Int) := by omega
      have HEr := Lib.hid hE
      have HBr := Lib.hid hb
      have HOr := Lib.hid hO
      clear ho hE hb hO HBB HOS HMS HOL HFE HG HX
      generalize (Bs.ge l k).at_ = ka at *
      generalize (Bs.ge l k).task = kt at *
      generalize (Bs.ge l k).over = ko at *
      generalize Bs.bgM l x.task k = bm at *
      cases ko
      · simp only [Bool.not_false, Bool.true_and, Bool.false_eq_true, if_false] at hos hms
        have HOSr := Lib.hid hos.symm
        clear hos
        cases hq : (kt == x.task)
        · rw [hq] at hms
          simp only [Bool.false_eq_true, if_false] at hms
          have HMSr := Lib.hid hms
          clear hms
          go_wp2
          go_quiet (fail)
          go_wp2
          go_roundw
          case rel => exact ⟨k + 1, A', c', o, by omega, by go_num, by rw [HMSr.out], rfl, HOSr.out, HOr.out.drewN _, HEr.out, HBr.out.drewN _, hs⟩
          case measure => simp [intOf]; omega
        · rw [hq] at hms
          simp only [if_true] at hms
          have HMSr := Lib.hid hms
          clear hms
          go_wp2
          go_quiet (fail)
          go_wp2
          go_roundw
          case rel => exact ⟨k + 1, A', c', o, by omega, by go_num, by rw [HMSr.out], rfl, HOSr.out, HOr.out.drewN _, HEr.out, HBr.out.drewN _, hs⟩
          case measure => simp [intOf]; omega
      · simp only [Bool.not_true, Bool.false_and, Bool.false_eq_true, if_false, if_true] at hos hms
        have HOSr := Lib.hid hos.symm
        have HMSr := Lib.hid hms
        have HO2 := Lib.hid (HOr.out.alloc (.cells #[.int .i64 kt] 3))
        clear hos hms
        go_wp2_with (first
          | (at_builtin; go_loud (refine push_int rfl _ _ rfl (w.heap.size + 1) A' c' o kt rfl HO2.out wr.heap.size 1 rfl (by simp [go_sem]) (by omega) (by simp; omega) ?_; intro A6 c6 w6 ho6 hb6 _; have HO6 := Lib.hid ho6; have HE6 := Lib.hid (Blk.below (Blk.alloc HEr.out (.cells #[.int .i64 kt] 3)) hb6 (by omega)); have HB6 := Lib.hid ((HBr.out.alloc HBr.out.size (.cells #[.int .i64 kt] 3)).trans (hb6.mono (by omega))); have s6 := hb6.size; rw [World.size_alloc] at s6; clear ho6 hb6)))
        go_roundw
        case rel => exact ⟨k + 1, A6, c6, o ++ [kt], by omega, by go_num, by rw [HMSr.out], by rw [List.length_append]; rfl, HOSr.out, HO6.out, HE6.out, HB6.out, by omega⟩
        case measure => simp [intOf]; omega
    · obtain rfl : k = p := by omega
      obtain ⟨bg, og, N, cN, rfl, g1, g2, k0, k1, k2, k3, hnc, hcN, hN⟩ := (HG.out.below hb hh) v hvl
      have hfe := HFE.out
      rw [HV.out] at hfe x1
      rw [Int.toNat_natCast, ← ho] at hfe
      have HEr := Lib.hid hE
      have HBr := Lib.hid hb
      have q1 := fun j => isInE_q0 A' c' o (v : Int) _ _ wr hO.ri (by omega) j
      have q2 := allDone_any N cN g[v].needs A' c' o _ _ _ _ wr hN hO.ri (by have := Bs.fine_needs_len hF hvl; omega) (by omega)
      have hti := Bs.fine_time' hF hvl
      rw [need_at hvl, Bs.timeOf_eq hvl] at hfe
      have v0 : (0 : Int) ≤ (v : Int) := by omega
      have v1 : (v : Int) < (g.length : Int) := by omega
      rw [HV.out] at hbm
      clear ho hE hb hO HBB HOS HMS HOL HFE HG HX hN k2 k3 hnc hF
      generalize (g[v].needs.all fun y => o.contains y) = nb at *
      generalize g[v].needs = nd at *
      generalize o.contains (v : Int) = tb at *
      generalize g[v].time = tv at *
      have HFEr := Lib.hid hfe
      rw [HV.out]
      generalize hbq : Bs.bgM l (v : Int) k = bm at *
      have HBQ := Lib.hid hbq
      clear hfe hbq
      generalize hxa : x.at_ = xa at *
      generalize hxo : x.over = xo at *
      clear hxa hxo
      have hw1 : IntKind.i64.wrap (bm + tv) = bm + tv := IntWalk.i64_in _ ⟨by omega, by omega⟩
      have C1 := fun j => Lib.hid (q1 j)
      have C2 := Lib.hid q2
      clear q1 q2
      cases xo
      · by_cases hb0 : bm < 0
        · have d1 : decide (bm < 0) = true := decide_eq_true hb0
          have d2 : decide (0 > bm) = true := decide_eq_true hb0
          have HV2 := Lib.hid (show Bs.fitE g l k x = nb from by rw [HFEr.out]; simp [hb0])
          clear hb0
          go_wp2_with fail
          with_reducible refine (C2.out).mono ?_
          rintro e w5 ⟨rfl, rfl⟩
          go_wp2
          go_ret
          exact ⟨ret_bool HV2.out.symm, HBr.out⟩
        · have d1 : decide (bm < 0) = false := decide_eq_false hb0
          have HV2 := Lib.hid (show Bs.fitE g l k x = false from by rw [HFEr.out]; simp [hb0])
          clear hb0
          go_wp2
          go_ret
          exact ⟨ret_bool HV2.out.symm, HBr.out⟩
      · by_cases hb0 : 0 ≤ bm
        · have d1 : decide (0 ≤ bm) = true := decide_eq_true hb0
          have d2 : decide (bm ≥ 0) = true := decide_eq_true hb0
          cases tb
          · have HV2 := Lib.hid (show Bs.fitE g l k x = (xa == bm + tv) from by rw [HFEr.out]; simp [hb0])
            clear hb0
            go_wp2
            go_quiet ((go_at_call 101; with_reducible exact (C1 _).out))
            go_wp2
            go_ret
            exact ⟨ret_bool HV2.out.symm, HBr.out.drewN _⟩
          · have HV2 := Lib.hid (show Bs.fitE g l k x = false from by rw [HFEr.out]; simp [hb0])
            clear hb0
            go_wp2
            go_quiet ((go_at_call 101; with_reducible exact (C1 _).out))
            go_wp2
            go_ret
            exact ⟨ret_bool HV2.out.symm, HBr.out.drewN _⟩
        · have d1 : decide (0 ≤ bm) = false := decide_eq_false hb0
          have d2 : decide (bm ≥ 0) = false := decide_eq_false hb0
          have HV2 := Lib.hid (show Bs.fitE g l k x = false from by rw [HFEr.out]; simp [hb0])
          clear hb0
          go_wp2
          go_quiet ((go_at_call 101; with_reducible exact (C1 _).out))
          go_wp2
          go_ret
          exact ⟨ret_bool HV2.out.symm, HBr.out.drewN _⟩
end Go.Proofs.Ytihgakbopkaemaa
namespace Go.Proofs.Ytihgakbopkaemaa
open Go.RowKit
theorem run_cellI {op : Oper} {c : Act} {W : World} (x : Operand) (ho : op.op = .load 3 x) (a i : Nat) (hx : c.eval x = .pointer (some ⟨a, i, none⟩)) {z : Int} (hc : W.cell? ⟨a, i, none⟩ = some (.int .i64 z)) :
    (execOp c.eval op).run Try.prog W = .ok (.value (.int .i64 z)) W := by
  unfold execOp
  simp only [ho, hx]
  go_simp
theorem cellB_ {w w2 : World} (hb : Below w.heap.size w w2) {a : Addr} {v : Value} (hc : w.cell? a = some v) : w2.cell? a = some v := (hb.cell (World.block_lt_of_cell? w a hc)).trans hc
theorem bgM_b {g : List Bs.T} {l : List Bs.E} {n : Nat} (h : Bs.evK g l n = true) : ∀ k, k ≤ n → ∀ t, -1 ≤ Bs.bgM l t k ∧ Bs.bgM l t k ≤ 200 := by
  intro k
  induction k with
  | zero => intro _ t; simp [Bs.bgM]
  | succ k ih =>
    intro hk t
    have h1 := ih (by omega) t
    have h2 := Bs.evOk_iff.1 (Bs.evK_at (k := k) (by omega) h)
    show _ ≤ (if _ then _ else _ : Int) ∧ (if _ then _ else _ : Int) ≤ _
    split <;> omega
set_option linter.unusedSimpArgs false in
set_option linter.unusedVariables false in
set_option maxRecDepth 20000 in
set_option maxHeartbeats 6400000 in
theorem validLogS_any (A : Option Addr) (c : Nat) (g : List Bs.T) (A1 : Option Addr) (c1 : Nat) (l : List Bs.E) (lo hi l1 h1 : Nat) (w : World) (h : RG w lo hi A g) (hh : hi ≤ w.heap.size) (hm : RE w l1 h1 A1 l) (hh1 : h1 ≤ w.heap.size) (hl : g.length ≤ 9223372036854775807) (hll : l.length ≤ 9223372036854775807) :
    Calls Try.prog 45 #[.slice A g.length c, .slice A1 l.length c1] w fun e w' => e = .returned (.bool (Bs.logV g l)) ∧ Below w.heap.size w w' := by
  have q1 := validGraphS_any A c g lo hi w h hh hl
  cases hv : Bs.valid g
  · rw [hv] at q1
    have C1 := Lib.hid q1
    have HV := Lib.hid (Bs.logV_no1 (l := l) hv)
    clear q1 hv h hm
    go_enter Try.func45, Try.ntmps45
    go_wp2_with fail
    with_reducible refine (C1.out).mono ?_
    rintro e w1 ⟨rfl, hb⟩
    have HB := Lib.hid hb
    clear hb
    go_wp2
    go_ret
    exact ⟨ret_bool HV.out.symm, HB.out⟩
  rw [hv] at q1
  have C1 := Lib.hid q1
  by_cases h16 : l.length ≤ 16
  rotate_left
  · have HV := Lib.hid (Bs.logV_no2 (g := g) h16)
    have d1 : decide ((l.length : Int) > 16) = true := by simp; omega
    have d2 : decide ((16 : Int) < (l.length : Int)) = true := by simp; omega
    clear q1 hv h hm
    go_enter Try.func45, Try.ntmps45
    go_wp2_with fail
    with_reducible refine (C1.out).mono ?_
    rintro e w1 ⟨rfl, hb⟩
    have HB := Lib.hid hb
    clear hb
    go_wp2
    go_ret
    exact ⟨ret_bool HV.out.symm, HB.out⟩
  have d1 : decide ((l.length : Int) > 16) = false := by simp; omega
  have d2 : decide ((16 : Int) < (l.length : Int)) = false := by simp; omega
  have hF := valid_fine hv
  have h8 := Bs.fine_len hF
  have HES := Lib.hid (fun k => Bs.evK_succ g l k)
  have HENO := Lib.hid (fun k (hk : k < l.length) (hx : Bs.evOk g l k = false) => Bs.logV_no3 (Bs.evK_no (n := l.length) hk hx))
  have HYES := Lib.hid (fun (hx : Bs.evK g l l.length = true) => show Bs.logV g l = true from Bs.logV_iff.2 ⟨hv, h16, hx⟩)
  have HBM := Lib.hid (fun n (hn : Bs.evK g l n = true) => bgM_b hn)
  have CF := Lib.hid (fun (k : Nat) (hk : k < l.length) (ht : 0 ≤ (Bs.ge l k).task ∧ (Bs.ge l k).task < g.length) (hbb : ∀ j, j ≤ k → ∀ t, -1 ≤ Bs.bgM l t j ∧ Bs.bgM l t j ≤ 200) W (hb : Below w.heap.size w W) => eventFitsS_any A c g A1 c1 l k lo hi l1 h1 W (h.below hb hh) (Nat.le_trans hh hb.size) (hm.below hb hh1) (Nat.le_trans hh1 hb.size) hF hk h16 ht hbb)
  have HR := Lib.hid hm
  clear q1 hv h hm hF
  go_enter Try.func45, Try.ntmps45
  go_wp2_with fail
  with_reducible refine (C1.out).mono ?_
  rintro e w1 ⟨rfl, hb⟩
  have HB1 := Lib.hid hb
  clear hb C1
  go_wp2
  go_loopw [5] (fun i wr => ∃ (k : Nat), k ≤ l.length ∧ i = .int .i64 k ∧ Bs.evK g l k = true ∧ Below w.heap.size w wr) (fun i _ => l.length - (intOf i).toNat)
  case atStart => exact ⟨0, Nat.zero_le _, rfl, rfl, HB1.out⟩
  case round =>
    obtain ⟨k, hk, rfl, hev, hb⟩ := hrel
    clear HB1
    by_cases hlt : k < l.length
    · obtain ⟨b, o, rfl, _, _, k0, k1, k2⟩ := (HR.out.below hb hh1).at_ hlt
      have hsu := HES.out k
      rw [hev, Bool.true_and] at hsu
      have hok : Bs.evOk g l k = (decide (0 ≤ (Bs.ge l k).at_ ∧ (Bs.ge l k).at_ ≤ 200) && (decide (k = 0) || decide (Bs.nwK l k ≤ (Bs.ge l k).at_)) && decide (0 ≤ (Bs.ge l k).task ∧ (Bs.ge l k).task ≤ (g.length : Int) - 1) && Bs.fitE g l k (Bs.ge l k)) := rfl
      have hno := HENO.out k hlt
      have cf := fun ht W hb' => CF.out k hlt ht (HBM.out k hev) W hb'
      have hnk : k ≠ 0 → Bs.nwK l k = (Bs.ge l (k - 1)).at_ := by
        intro h0
        obtain ⟨j, rfl⟩ : ∃ j, k = j + 1 := ⟨k - 1, by omega⟩
        rfl
      have HSU := Lib.hid hsu
      have HNO := Lib.hid hno
      have HBr := Lib.hid hb
      have i0 : (0 : Int) ≤ (k : Int) := by omega
      have i1 : (k : Int) < (l.length : Int) := by omega
      have hwg : IntKind.i64.wrap ((g.length : Int) - 1) = (g.length : Int) - 1 := IntWalk.i64_in _ ⟨by omega, by omega⟩
      have hpr : k ≠ 0 → wr.cell? ⟨b, o + (k - 1) * 3, none⟩ = some (.int .i64 (Bs.ge l (k - 1)).at_) := by
        intro h0
        obtain ⟨b', o', e', _, _, j0, _, _⟩ := (HR.out.below hb hh1).at_ (k := k - 1) (by omega)
        cases e'
        exact j0
      have HPR := Lib.hid hpr
      clear hsu hno hb hev HES HENO HYES HBM CF hpr k2
      generalize hfb : Bs.fitE g l k (Bs.ge l k) = fb at *
      generalize hnw : Bs.nwK l k = nw at *
      generalize hxa : (Bs.ge l k).at_ = xa at *
      generalize hxt : (Bs.ge l k).task = xt at *
      generalize hya : (Bs.ge l (k - 1)).at_ = ya at *
      clear hfb hnw hxa hxt hya
      have c1 := fun j => (show Calls Try.prog 72 #[.int .i64 xa, .int .i64 0, .int .i64 200] (wr.drewN j) fun e w' => e = .returned (.bool (decide (0 ≤ xa ∧ xa ≤ 200))) ∧ ∃ m, w' = wr.drewN m from (inRange_any xa 0 200 (wr.drewN j)).mono fun _ _ ⟨h1, h2⟩ => ⟨h1, j, h2.symm⟩)
      have c2 := fun j => (show Calls Try.prog 72 #[.int .i64 xt, .int .i64 0, .int .i64 ((g.length : Int) - 1)] (wr.drewN j) fun e w' => e = .returned (.bool (decide (0 ≤ xt ∧ xt ≤ (g.length : Int) - 1))) ∧ ∃ m, w' = wr.drewN m from (inRange_any xt 0 ((g.length : Int) - 1) (wr.drewN j)).mono fun _ _ ⟨h1, h2⟩ => ⟨h1, j, h2.symm⟩)
      have hnoT := fun (hf : Bs.evOk g l k = false) => HNO.out hf
      by_cases ha : 0 ≤ xa ∧ xa ≤ 200
      rotate_left
      · have da : decide (0 ≤ xa ∧ xa ≤ 200) = false := decide_eq_false ha
        have HN := Lib.hid (HNO.out (by rw [hok, da]; rfl))
        rw [da] at c1
        have C5 := fun j => Lib.hid (c1 j)
        clear c1 c2 hok cf hnoT ha da hnk
        go_wp2
        go_quiet ((go_at_call 72; with_reducible exact (C5 _).out))
        go_wp2
        go_ret
        exact ⟨ret_bool HN.out.symm, HBr.out.drewN _⟩
      have da : decide (0 ≤ xa ∧ xa ≤ 200) = true := decide_eq_true ha
      rw [da] at c1 hok
      by_cases hz : k = 0 ∨ nw ≤ xa
      rotate_left
      · have hk0 : k ≠ 0 := fun e => hz (.inl e)
        have p0 := HPR.out hk0
        have hny := hnk hk0
        have HN := Lib.hid (HNO.out (by
          rw [hok, show decide (k = 0) = false from decide_eq_false hk0, show decide (nw ≤ xa) = false from decide_eq_false (fun e => hz (.inr e))]
          rfl))
        have C5 := fun j => Lib.hid (c1 j)
        have e1 : decide ((0 : Int) < (k : Int)) = true := by simp; omega
        have e1' : decide ((k : Int) > 0) = true := by simp; omega
        have e1'' : decide (0 < k) = true := by simp; omega
        have e2 : decide (xa < ya) = true := by simp; omega
        have hw1 : IntKind.i64.wrap ((k : Int) - 1) = ((k - 1 : Nat) : Int) := by rw [show (k : Int) - 1 = ((k - 1 : Nat) : Int) from by omega]; exact IntWalk.i64_in _ ⟨by omega, by omega⟩
        have j0 : (0 : Int) ≤ ((k - 1 : Nat) : Int) := by omega
        have j1 : ((k - 1 : Nat) : Int) < (l.length : Int) := by omega
        clear c1 c2 hok cf hnoT ha da hnk hz hk0 hny
        go_wp2
        go_quiet ((go_at_call 72; with_reducible exact (C5 _).out))
        go_wp2
        go_ret
        exact ⟨ret_bool HN.out.symm, HBr.out.drewN _⟩
      by_cases hk0 : k = 0
      · have e1 : decide ((0 : Int) < (k : Int)) = false := by simp; omega
        have e1' : decide ((k : Int) > 0) = false := by simp; omega
        have e1'' : decide (0 < k) = false := by simp; omega
        have hokk : Bs.evOk g l k = (decide (0 ≤ xt ∧ xt ≤ (g.length : Int) - 1) && fb) := by
          rw [hok, show decide (k = 0) = true from decide_eq_true hk0]
          rfl
        by_cases htt : 0 ≤ xt ∧ xt ≤ (g.length : Int) - 1
        rotate_left
        · have dt : decide (0 ≤ xt ∧ xt ≤ (g.length : Int) - 1) = false := decide_eq_false htt
          rw [dt] at c2 hokk
          have HN := Lib.hid (HNO.out hokk)
          have C5 := fun j => Lib.hid (c1 j)
          have C6 := fun j => Lib.hid (c2 j)
          clear c1 c2 hok hokk cf hnoT ha da hz dt htt hk0
          go_wp2
          go_quiet ((go_at_call 72; first | with_reducible exact (C5 _).out | with_reducible exact (C6 _).out))
          go_wp2
          go_ret
          exact ⟨ret_bool HN.out.symm, HBr.out.drewN _⟩
        have dt : decide (0 ≤ xt ∧ xt ≤ (g.length : Int) - 1) = true := decide_eq_true htt
        rw [dt, Bool.true_and] at hokk
        have cf2 := cf ⟨htt.1, by omega⟩ wr.drew (HBr.out.drewN 1)
        have d1x := fun W => inRange_any xa 0 200 W
        have d2x := fun W => inRange_any xt 0 ((g.length : Int) - 1) W
        rw [da] at d1x
        rw [dt] at d2x
        have C1 := Lib.hid d1x
        have C2 := Lib.hid d2x
        have C3 := Lib.hid cf2
        have HW := Lib.hid (show Below wr.heap.size wr wr.drew from (Below.refl wr.heap.size wr).drewN 1)
        have HS0 := Lib.hid (show (fun W => W.cell? ⟨b, o + k * 3, none⟩ = some (.int .i64 xa) ∧ W.cell? ⟨b, o + k * 3 + 1, none⟩ = some (.int .i64 xt)) wr.drew from ⟨k0, k1⟩)
        have HSB := Lib.hid (fun (W : World) (hb' : Below wr.heap.size wr W) => show (fun W => W.cell? ⟨b, o + k * 3, none⟩ = some (.int .i64 xa) ∧ W.cell? ⟨b, o + k * 3 + 1, none⟩ = some (.int .i64 xt)) W from ⟨cellB_ hb' k0, cellB_ hb' k1⟩)
        have HOK := Lib.hid hokk
        clear c1 c2 hok hokk cf cf2 hnoT ha da hz dt htt d1x d2x hk0
        go_wp2_with fail
        refine wp_region_held_drew (S := fun W => W.cell? ⟨b, o + k * 3, none⟩ = some (.int .i64 xa) ∧ W.cell? ⟨b, o + k * 3 + 1, none⟩ = some (.int .i64 xt)) (by kernel_rfl) ⟨k0, k1⟩ (fun hHeld => ?_)
        refine wpAnyH_take (i := 0) (v := .slice (some ⟨b, o, none⟩) l.length c1) rfl (by kernel_rfl) (by kernel_rfl) (by kernel_rfl) (fun _ _ _ h => h) (Or.inl ⟨by rfl, fun W hS => by first | rfl | (go_simp; done) | (go_simp; rfl)⟩) hHeld ?_
        try simp only [Act.put, List.getElem_toArray, List.getElem_cons_zero, List.getElem_cons_succ, List.setIfInBounds_toArray, List.set_cons_zero, List.set_cons_succ]
        refine wpAnyH_take (i := 1) (v := .int .i64 (k : Int)) rfl (by kernel_rfl) (by kernel_rfl) (by kernel_rfl) (fun _ _ _ h => h) (Or.inl ⟨by rfl, fun W hS => by first | rfl | (go_simp; done) | (go_simp; rfl)⟩) hHeld ?_
        try simp only [Act.put, List.getElem_toArray, List.getElem_cons_zero, List.getElem_cons_succ, List.setIfInBounds_toArray, List.set_cons_zero, List.set_cons_succ]
        refine wpAnyH_take (i := 2) (v := .pointer (some ⟨b, o + k * 3, none⟩)) rfl (by kernel_rfl) (by kernel_rfl) (by kernel_rfl) (fun _ _ _ h => h) (Or.inl ⟨by rfl, fun W hS => by first | rfl | (go_simp; done) | (go_simp; rfl)⟩) hHeld ?_
        try simp only [Act.put, List.getElem_toArray, List.getElem_cons_zero, List.getElem_cons_succ, List.setIfInBounds_toArray, List.set_cons_zero, List.set_cons_succ]
        refine wpAnyH_take (i := 3) (v := .pointer (some ⟨b, o + k * 3, none⟩)) rfl (by kernel_rfl) (by kernel_rfl) (by kernel_rfl) (fun _ _ _ h => h) (Or.inl ⟨by rfl, fun W hS => by first | rfl | (go_simp; done) | (go_simp; rfl)⟩) hHeld ?_
        try simp only [Act.put, List.getElem_toArray, List.getElem_cons_zero, List.getElem_cons_succ, List.setIfInBounds_toArray, List.set_cons_zero, List.set_cons_succ]
        refine wpAnyH_take (i := 4) (v := .int .i64 xa) rfl (by kernel_rfl) (by kernel_rfl) (by kernel_rfl) (fun _ _ _ h => h) (Or.inl ⟨by rfl, fun W hS => run_cellI _ rfl _ _ rfl hS.1⟩) hHeld ?_
        try simp only [Act.put, List.getElem_toArray, List.getElem_cons_zero, List.getElem_cons_succ, List.setIfInBounds_toArray, List.set_cons_zero, List.set_cons_succ]
        refine wpAnyH_ready (rs := [5]) (by kernel_rfl) (by simp) ?_
        refine AllReadyH.cons rfl (fun K hK => ?_) AllReadyH.nil
        rw [if_pos (by rfl)]
        go_simp
        go_at_call 72
        with_reducible refine (C1.out _).mono ?_
        rintro e w5 ⟨rfl, rfl⟩
        go_wp2_with fail
        refine hK.out _ _ HS0.out (fun hHeld => ?_)
        clear hK K
        try simp only [Act.put, List.getElem_toArray, List.getElem_cons_zero, List.getElem_cons_succ, List.setIfInBounds_toArray, List.set_cons_zero, List.set_cons_succ]
        refine wpAnyH_take (i := 6) (v := .bool false) rfl (by kernel_rfl) (by kernel_rfl) (by kernel_rfl) (fun _ _ _ h => h) (Or.inl ⟨by rfl, fun W hS => by first | rfl | (go_simp; done) | (go_simp; rfl)⟩) hHeld ?_
        try simp only [Act.put, List.getElem_toArray, List.getElem_cons_zero, List.getElem_cons_succ, List.setIfInBounds_toArray, List.set_cons_zero, List.set_cons_succ]
        refine wpAnyH_take (i := 7) (v := .bool false) rfl (by kernel_rfl) (by kernel_rfl) (by kernel_rfl) (fun _ _ _ h => h) (Or.inl ⟨by rfl, fun W hS => by first | rfl | (go_simp; done) | (go_simp; rfl)⟩) hHeld ?_
        try simp only [Act.put, List.getElem_toArray, List.getElem_cons_zero, List.getElem_cons_succ, List.setIfInBounds_toArray, List.set_cons_zero, List.set_cons_succ]
        refine wpAnyH_take (i := 8) (v := .int .i64 (k : Int)) rfl (by kernel_rfl) (by kernel_rfl) (by kernel_rfl) (fun _ _ _ h => h) (Or.inl ⟨by rfl, fun W hS => by first | rfl | (go_simp; done) | (go_simp; rfl)⟩) hHeld ?_
        try simp only [Act.put, List.getElem_toArray, List.getElem_cons_zero, List.getElem_cons_succ, List.setIfInBounds_toArray, List.set_cons_zero, List.set_cons_succ]
        refine wpAnyH_take (i := 9) (v := .bool false) rfl (by kernel_rfl) (by kernel_rfl) (by kernel_rfl) (fun _ _ _ h => h) (Or.inl ⟨by rfl, fun W hS => by first | rfl | (go_simp; done) | (go_simp; rfl)⟩) hHeld ?_
        try simp only [Act.put, List.getElem_toArray, List.getElem_cons_zero, List.getElem_cons_succ, List.setIfInBounds_toArray, List.set_cons_zero, List.set_cons_succ]
        refine wpAnyH_take (i := 10) (v := .bool false) rfl (by kernel_rfl) (by kernel_rfl) (by kernel_rfl) (fun _ _ _ h => h) (Or.inl ⟨by rfl, fun W hS => by first | rfl | (go_simp; done) | (go_simp; rfl)⟩) hHeld ?_
        try simp only [Act.put, List.getElem_toArray, List.getElem_cons_zero, List.getElem_cons_succ, List.setIfInBounds_toArray, List.set_cons_zero, List.set_cons_succ]
        refine wpAnyH_take (i := 11) (v := undef) rfl (by kernel_rfl) (by kernel_rfl) (by kernel_rfl) (fun _ _ _ h => h) (Or.inr ⟨by rfl, rfl⟩) hHeld ?_
        try simp only [Act.put, List.getElem_toArray, List.getElem_cons_zero, List.getElem_cons_succ, List.setIfInBounds_toArray, List.set_cons_zero, List.set_cons_succ]
        refine wpAnyH_take (i := 12) (v := undef) rfl (by kernel_rfl) (by kernel_rfl) (by kernel_rfl) (fun _ _ _ h => h) (Or.inr ⟨by rfl, rfl⟩) hHeld ?_
        try simp only [Act.put, List.getElem_toArray, List.getElem_cons_zero, List.getElem_cons_succ, List.setIfInBounds_toArray, List.set_cons_zero, List.set_cons_succ]
        refine wpAnyH_take (i := 13) (v := undef) rfl (by kernel_rfl) (by kernel_rfl) (by kernel_rfl) (fun _ _ _ h => h) (Or.inr ⟨by rfl, rfl⟩) hHeld ?_
        try simp only [Act.put, List.getElem_toArray, List.getElem_cons_zero, List.getElem_cons_succ, List.setIfInBounds_toArray, List.set_cons_zero, List.set_cons_succ]
        refine wpAnyH_take (i := 14) (v := undef) rfl (by kernel_rfl) (by kernel_rfl) (by kernel_rfl) (fun _ _ _ h => h) (Or.inr ⟨by rfl, rfl⟩) hHeld ?_
        try simp only [Act.put, List.getElem_toArray, List.getElem_cons_zero, List.getElem_cons_succ, List.setIfInBounds_toArray, List.set_cons_zero, List.set_cons_succ]
        refine wpAnyH_take (i := 15) (v := undef) rfl (by kernel_rfl) (by kernel_rfl) (by kernel_rfl) (fun _ _ _ h => h) (Or.inr ⟨by rfl, rfl⟩) hHeld ?_
        try simp only [Act.put, List.getElem_toArray, List.getElem_cons_zero, List.getElem_cons_succ, List.setIfInBounds_toArray, List.set_cons_zero, List.set_cons_succ]
        refine wpAnyH_take (i := 16) (v := undef) rfl (by kernel_rfl) (by kernel_rfl) (by kernel_rfl) (fun _ _ _ h => h) (Or.inr ⟨by rfl, rfl⟩) hHeld ?_
        try simp only [Act.put, List.getElem_toArray, List.getElem_cons_zero, List.getElem_cons_succ, List.setIfInBounds_toArray, List.set_cons_zero, List.set_cons_succ]
        refine wpAnyH_take (i := 17) (v := undef) rfl (by kernel_rfl) (by kernel_rfl) (by kernel_rfl) (fun _ _ _ h => h) (Or.inr ⟨by rfl, rfl⟩) hHeld ?_
        try simp only [Act.put, List.getElem_toArray, List.getElem_cons_zero, List.getElem_cons_succ, List.setIfInBounds_toArray, List.set_cons_zero, List.set_cons_succ]
        refine wpAnyH_take (i := 18) (v := undef) rfl (by kernel_rfl) (by kernel_rfl) (by kernel_rfl) (fun _ _ _ h => h) (Or.inr ⟨by rfl, rfl⟩) hHeld ?_
        try simp only [Act.put, List.getElem_toArray, List.getElem_cons_zero, List.getElem_cons_succ, List.setIfInBounds_toArray, List.set_cons_zero, List.set_cons_succ]
        refine wpAnyH_take (i := 19) (v := undef) rfl (by kernel_rfl) (by kernel_rfl) (by kernel_rfl) (fun _ _ _ h => h) (Or.inr ⟨by rfl, rfl⟩) hHeld ?_
        try simp only [Act.put, List.getElem_toArray, List.getElem_cons_zero, List.getElem_cons_succ, List.setIfInBounds_toArray, List.set_cons_zero, List.set_cons_succ]
        refine wpAnyH_take (i := 20) (v := undef) rfl (by kernel_rfl) (by kernel_rfl) (by kernel_rfl) (fun _ _ _ h => h) (Or.inr ⟨by rfl, rfl⟩) hHeld ?_
        try simp only [Act.put, List.getElem_toArray, List.getElem_cons_zero, List.getElem_cons_succ, List.setIfInBounds_toArray, List.set_cons_zero, List.set_cons_succ]
        refine wpAnyH_take (i := 21) (v := undef) rfl (by kernel_rfl) (by kernel_rfl) (by kernel_rfl) (fun _ _ _ h => h) (Or.inr ⟨by rfl, rfl⟩) hHeld ?_
        try simp only [Act.put, List.getElem_toArray, List.getElem_cons_zero, List.getElem_cons_succ, List.setIfInBounds_toArray, List.set_cons_zero, List.set_cons_succ]
        refine wpAnyH_take (i := 22) (v := undef) rfl (by kernel_rfl) (by kernel_rfl) (by kernel_rfl) (fun _ _ _ h => h) (Or.inr ⟨by rfl, rfl⟩) hHeld ?_
        try simp only [Act.put, List.getElem_toArray, List.getElem_cons_zero, List.getElem_cons_succ, List.setIfInBounds_toArray, List.set_cons_zero, List.set_cons_succ]
        refine wpAnyH_take (i := 23) (v := .bool false) rfl (by kernel_rfl) (by kernel_rfl) (by kernel_rfl) (fun _ _ _ h => h) (Or.inl ⟨by rfl, fun W hS => by first | rfl | (go_simp; done) | (go_simp; rfl)⟩) hHeld ?_
        try simp only [Act.put, List.getElem_toArray, List.getElem_cons_zero, List.getElem_cons_succ, List.setIfInBounds_toArray, List.set_cons_zero, List.set_cons_succ]
        refine wpAnyH_take (i := 24) (v := .bool false) rfl (by kernel_rfl) (by kernel_rfl) (by kernel_rfl) (fun _ _ _ h => h) (Or.inl ⟨by rfl, fun W hS => by first | rfl | (go_simp; done) | (go_simp; rfl)⟩) hHeld ?_
        try simp only [Act.put, List.getElem_toArray, List.getElem_cons_zero, List.getElem_cons_succ, List.setIfInBounds_toArray, List.set_cons_zero, List.set_cons_succ]
        refine wpAnyH_take (i := 25) (v := .bool false) rfl (by kernel_rfl) (by kernel_rfl) (by kernel_rfl) (fun _ _ _ h => h) (Or.inl ⟨by rfl, fun W hS => by first | rfl | (go_simp; done) | (go_simp; rfl)⟩) hHeld ?_
        try simp only [Act.put, List.getElem_toArray, List.getElem_cons_zero, List.getElem_cons_succ, List.setIfInBounds_toArray, List.set_cons_zero, List.set_cons_succ]
        refine wpAnyH_take (i := 26) (v := .slice (some ⟨b, o, none⟩) l.length c1) rfl (by kernel_rfl) (by kernel_rfl) (by kernel_rfl) (fun _ _ _ h => h) (Or.inl ⟨by rfl, fun W hS => by first | rfl | (go_simp; done) | (go_simp; rfl)⟩) hHeld ?_
        try simp only [Act.put, List.getElem_toArray, List.getElem_cons_zero, List.getElem_cons_succ, List.setIfInBounds_toArray, List.set_cons_zero, List.set_cons_succ]
        refine wpAnyH_take (i := 27) (v := .int .i64 (k : Int)) rfl (by kernel_rfl) (by kernel_rfl) (by kernel_rfl) (fun _ _ _ h => h) (Or.inl ⟨by rfl, fun W hS => by first | rfl | (go_simp; done) | (go_simp; rfl)⟩) hHeld ?_
        try simp only [Act.put, List.getElem_toArray, List.getElem_cons_zero, List.getElem_cons_succ, List.setIfInBounds_toArray, List.set_cons_zero, List.set_cons_succ]
        refine wpAnyH_take (i := 28) (v := .pointer (some ⟨b, o + k * 3, none⟩)) rfl (by kernel_rfl) (by kernel_rfl) (by kernel_rfl) (fun _ _ _ h => h) (Or.inl ⟨by rfl, fun W hS => by first | rfl | (go_simp; done) | (go_simp; rfl)⟩) hHeld ?_
        try simp only [Act.put, List.getElem_toArray, List.getElem_cons_zero, List.getElem_cons_succ, List.setIfInBounds_toArray, List.set_cons_zero, List.set_cons_succ]
        refine wpAnyH_take (i := 29) (v := .pointer (some ⟨b, o + k * 3 + 1, none⟩)) rfl (by kernel_rfl) (by kernel_rfl) (by kernel_rfl) (fun _ _ _ h => h) (Or.inl ⟨by rfl, fun W hS => by first | rfl | (go_simp; done) | (go_simp; rfl)⟩) hHeld ?_
        try simp only [Act.put, List.getElem_toArray, List.getElem_cons_zero, List.getElem_cons_succ, List.setIfInBounds_toArray, List.set_cons_zero, List.set_cons_succ]
        refine wpAnyH_take (i := 30) (v := .int .i64 xt) rfl (by kernel_rfl) (by kernel_rfl) (by kernel_rfl) (fun _ _ _ h => h) (Or.inl ⟨by rfl, fun W hS => run_cellI _ rfl _ _ rfl hS.2⟩) hHeld ?_
        try simp only [Act.put, List.getElem_toArray, List.getElem_cons_zero, List.getElem_cons_succ, List.setIfInBounds_toArray, List.set_cons_zero, List.set_cons_succ]
        refine wpAnyH_take (i := 31) (v := .slice A g.length c) rfl (by kernel_rfl) (by kernel_rfl) (by kernel_rfl) (fun _ _ _ h => h) (Or.inl ⟨by rfl, fun W hS => by first | rfl | (go_simp; done) | (go_simp; rfl)⟩) hHeld ?_
        try simp only [Act.put, List.getElem_toArray, List.getElem_cons_zero, List.getElem_cons_succ, List.setIfInBounds_toArray, List.set_cons_zero, List.set_cons_succ]
        refine wpAnyH_take (i := 32) (v := .int .i64 (g.length : Int)) rfl (by kernel_rfl) (by kernel_rfl) (by kernel_rfl) (fun _ _ _ h => h) (Or.inl ⟨by rfl, fun W hS => by first | rfl | (go_simp; done) | (go_simp; rfl)⟩) hHeld ?_
        try simp only [Act.put, List.getElem_toArray, List.getElem_cons_zero, List.getElem_cons_succ, List.setIfInBounds_toArray, List.set_cons_zero, List.set_cons_succ]
        refine wpAnyH_take (i := 33) (v := .int .i64 ((g.length : Int) - 1)) rfl (by kernel_rfl) (by kernel_rfl) (by kernel_rfl) (fun _ _ _ h => h) (Or.inl ⟨by rfl, fun W hS => by first | rfl | (go_simp; done) | (go_simp; rfl)⟩) hHeld ?_
        try simp only [Act.put, List.getElem_toArray, List.getElem_cons_zero, List.getElem_cons_succ, List.setIfInBounds_toArray, List.set_cons_zero, List.set_cons_succ]
        refine wpAnyH_ready (rs := [34]) (by kernel_rfl) (by simp) ?_
        refine AllReadyH.cons rfl (fun K hK => ?_) AllReadyH.nil
        rw [if_pos (by rfl)]
        go_simp
        go_at_call 72
        with_reducible refine (C2.out _).mono ?_
        rintro e w6 ⟨rfl, rfl⟩
        go_wp2_with fail
        refine hK.out _ _ HS0.out (fun hHeld => ?_)
        clear hK K
        try simp only [Act.put, List.getElem_toArray, List.getElem_cons_zero, List.getElem_cons_succ, List.setIfInBounds_toArray, List.set_cons_zero, List.set_cons_succ]
        refine wpAnyH_take (i := 35) (v := .bool false) rfl (by kernel_rfl) (by kernel_rfl) (by kernel_rfl) (fun _ _ _ h => h) (Or.inl ⟨by rfl, fun W hS => by first | rfl | (go_simp; done) | (go_simp; rfl)⟩) hHeld ?_
        try simp only [Act.put, List.getElem_toArray, List.getElem_cons_zero, List.getElem_cons_succ, List.setIfInBounds_toArray, List.set_cons_zero, List.set_cons_succ]
        refine wpAnyH_take (i := 36) (v := .bool false) rfl (by kernel_rfl) (by kernel_rfl) (by kernel_rfl) (fun _ _ _ h => h) (Or.inl ⟨by rfl, fun W hS => by first | rfl | (go_simp; done) | (go_simp; rfl)⟩) hHeld ?_
        try simp only [Act.put, List.getElem_toArray, List.getElem_cons_zero, List.getElem_cons_succ, List.setIfInBounds_toArray, List.set_cons_zero, List.set_cons_succ]
        refine wpAnyH_take (i := 37) (v := .bool false) rfl (by kernel_rfl) (by kernel_rfl) (by kernel_rfl) (fun _ _ _ h => h) (Or.inl ⟨by rfl, fun W hS => by first | rfl | (go_simp; done) | (go_simp; rfl)⟩) hHeld ?_
        try simp only [Act.put, List.getElem_toArray, List.getElem_cons_zero, List.getElem_cons_succ, List.setIfInBounds_toArray, List.set_cons_zero, List.set_cons_succ]
        refine wpAnyH_take (i := 38) (v := .slice A g.length c) rfl (by kernel_rfl) (by kernel_rfl) (by kernel_rfl) (fun _ _ _ h => h) (Or.inl ⟨by rfl, fun W hS => by first | rfl | (go_simp; done) | (go_simp; rfl)⟩) hHeld ?_
        try simp only [Act.put, List.getElem_toArray, List.getElem_cons_zero, List.getElem_cons_succ, List.setIfInBounds_toArray, List.set_cons_zero, List.set_cons_succ]
        refine wpAnyH_take (i := 39) (v := .slice (some ⟨b, o, none⟩) l.length c1) rfl (by kernel_rfl) (by kernel_rfl) (by kernel_rfl) (fun _ _ _ h => h) (Or.inl ⟨by rfl, fun W hS => by first | rfl | (go_simp; done) | (go_simp; rfl)⟩) hHeld ?_
        try simp only [Act.put, List.getElem_toArray, List.getElem_cons_zero, List.getElem_cons_succ, List.setIfInBounds_toArray, List.set_cons_zero, List.set_cons_succ]
        refine wpAnyH_take (i := 40) (v := .int .i64 (k : Int)) rfl (by kernel_rfl) (by kernel_rfl) (by kernel_rfl) (fun _ _ _ h => h) (Or.inl ⟨by rfl, fun W hS => by first | rfl | (go_simp; done) | (go_simp; rfl)⟩) hHeld ?_
        try simp only [Act.put, List.getElem_toArray, List.getElem_cons_zero, List.getElem_cons_succ, List.setIfInBounds_toArray, List.set_cons_zero, List.set_cons_succ]
        refine wpAnyH_ready (rs := [41]) (by kernel_rfl) (by simp) ?_
        refine AllReadyH.cons rfl (fun K hK => ?_) AllReadyH.nil
        rw [if_pos (by rfl)]
        go_simp
        go_at_call 81
        with_reducible refine (C3.out).mono ?_
        rintro e w7 ⟨rfl, hb7⟩
        have HB7 := Lib.hid (show Below wr.heap.size wr w7 from HW.out.trans (hb7.mono (Nat.le_refl _)))
        clear hb7
        go_wp2_with fail
        refine hK.out _ _ (HSB.out _ HB7.out) (fun hHeld => ?_)
        clear hK K
        try simp only [Act.put, List.getElem_toArray, List.getElem_cons_zero, List.getElem_cons_succ, List.setIfInBounds_toArray, List.set_cons_zero, List.set_cons_succ]
        refine wpAnyH_take (i := 42) (v := .bool (!fb)) rfl (by kernel_rfl) (by kernel_rfl) (by kernel_rfl) (fun _ _ _ h => h) (Or.inl ⟨by rfl, fun W hS => by first | rfl | (go_simp; done) | (go_simp; rfl)⟩) hHeld ?_
        try simp only [Act.put, List.getElem_toArray, List.getElem_cons_zero, List.getElem_cons_succ, List.setIfInBounds_toArray, List.set_cons_zero, List.set_cons_succ]
        refine wpAnyH_take (i := 43) (v := .bool (!fb)) rfl (by kernel_rfl) (by kernel_rfl) (by kernel_rfl) (fun _ _ _ h => h) (Or.inl ⟨by rfl, fun W hS => by first | rfl | (go_simp; done) | (go_simp; rfl)⟩) hHeld ?_
        try simp only [Act.put, List.getElem_toArray, List.getElem_cons_zero, List.getElem_cons_succ, List.setIfInBounds_toArray, List.set_cons_zero, List.set_cons_succ]
        refine wpAnyH_done (by kernel_rfl) ?_ _
        cases fb
        · have HN := Lib.hid (HNO.out HOK.out)
          have HBq := Lib.hid (HBr.out.trans (HB7.out.mono HBr.out.size))
          go_wp2
          go_ret
          exact ⟨ret_bool HN.out.symm, HBq.out⟩
        · have HBq := Lib.hid (HBr.out.trans (HB7.out.mono HBr.out.size))
          have HE := Lib.hid (show Bs.evK g l (k + 1) = true from HSU.out.trans HOK.out)
          go_wp2
          go_roundw
          case rel => exact ⟨k + 1, by omega, by go_num, HE.out, HBq.out⟩
          case measure => simp [intOf]; omega
      · have p0 := HPR.out hk0
        have hny := hnk hk0
        have e1 : decide ((0 : Int) < (k : Int)) = true := by simp; omega
        have e1' : decide ((k : Int) > 0) = true := by simp; omega
        have e1'' : decide (0 < k) = true := by simp; omega
        have e2 : decide (xa < ya) = false := by
          have := hz.resolve_left hk0
          simp; omega
        have hw1 : IntKind.i64.wrap ((k : Int) - 1) = ((k - 1 : Nat) : Int) := by rw [show (k : Int) - 1 = ((k - 1 : Nat) : Int) from by omega]; exact IntWalk.i64_in _ ⟨by omega, by omega⟩
        have j0 : (0 : Int) ≤ ((k - 1 : Nat) : Int) := by omega
        have j1 : ((k - 1 : Nat) : Int) < (l.length : Int) := by omega
        have hokk : Bs.evOk g l k = (decide (0 ≤ xt ∧ xt ≤ (g.length : Int) - 1) && fb) := by
          rw [hok, show decide (nw ≤ xa) = true from decide_eq_true (hz.resolve_left hk0), Bool.or_true]
          rfl
        by_cases htt : 0 ≤ xt ∧ xt ≤ (g.length : Int) - 1
        rotate_left
        · have dt : decide (0 ≤ xt ∧ xt ≤ (g.length : Int) - 1) = false := decide_eq_false htt
          rw [dt] at c2 hokk
          have HN := Lib.hid (HNO.out hokk)
          have C5 := fun j => Lib.hid (c1 j)
          have C6 := fun j => Lib.hid (c2 j)
          clear c1 c2 hok hokk cf hnoT ha da hz dt htt hk0 hny
          go_wp2
          go_quiet ((go_at_call 72; first | with_reducible exact (C5 _).out | with_reducible exact (C6 _).out))
          go_wp2
          go_ret
          exact ⟨ret_bool HN.out.symm, HBr.out.drewN _⟩
        have dt : decide (0 ≤ xt ∧ xt ≤ (g.length : Int) - 1) = true := decide_eq_true htt
        rw [dt, Bool.true_and] at hokk
        have cf2 := cf ⟨htt.1, by omega⟩ wr.drew (HBr.out.drewN 1)
        have d1x := fun W => inRange_any xa 0 200 W
        have d2x := fun W => inRange_any xt 0 ((g.length : Int) - 1) W
        rw [da] at d1x
        rw [dt] at d2x
        have C1 := Lib.hid d1x
        have C2 := Lib.hid d2x
        have C3 := Lib.hid cf2
        have HW := Lib.hid (show Below wr.heap.size wr wr.drew from (Below.refl wr.heap.size wr).drewN 1)
        have HS0 := Lib.hid (show (fun W => W.cell? ⟨b, o + k * 3, none⟩ = some (.int .i64 xa) ∧ W.cell? ⟨b, o + k * 3 + 1, none⟩ = some (.int .i64 xt) ∧ W.cell? ⟨b, o + (k - 1) * 3, none⟩ = some (.int .i64 ya)) wr.drew from ⟨k0, k1, p0⟩)
        have HSB := Lib.hid (fun (W : World) (hb' : Below wr.heap.size wr W) => show (fun W => W.cell? ⟨b, o + k * 3, none⟩ = some (.int .i64 xa) ∧ W.cell? ⟨b, o + k * 3 + 1, none⟩ = some (.int .i64 xt) ∧ W.cell? ⟨b, o + (k - 1) * 3, none⟩ = some (.int .i64 ya)) W from ⟨cellB_ hb' k0, cellB_ hb' k1, cellB_ hb' p0⟩)
        have HOK := Lib.hid hokk
        clear c1 c2 hok hokk cf cf2 hnoT ha da hz dt htt d1x d2x hk0 hny
        go_wp2_with fail
        refine wp_region_held_drew (S := fun W => W.cell? ⟨b, o + k * 3, none⟩ = some (.int .i64 xa) ∧ W.cell? ⟨b, o + k * 3 + 1, none⟩ = some (.int .i64 xt) ∧ W.cell? ⟨b, o + (k - 1) * 3, none⟩ = some (.int .i64 ya)) (by kernel_rfl) ⟨k0, k1, p0⟩ (fun hHeld => ?_)
        refine wpAnyH_take (i := 0) (v := .slice (some ⟨b, o, none⟩) l.length c1) rfl (by kernel_rfl) (by kernel_rfl) (by kernel_rfl) (fun _ _ _ h => h) (Or.inl ⟨by rfl, fun W hS => by first | rfl | (go_simp; done) | (go_simp; rfl)⟩) hHeld ?_
        try simp only [Act.put, List.getElem_toArray, List.getElem_cons_zero, List.getElem_cons_succ, List.setIfInBounds_toArray, List.set_cons_zero, List.set_cons_succ]
        refine wpAnyH_take (i := 1) (v := .int .i64 (k : Int)) rfl (by kernel_rfl) (by kernel_rfl) (by kernel_rfl) (fun _ _ _ h => h) (Or.inl ⟨by rfl, fun W hS => by first | rfl | (go_simp; done) | (go_simp; rfl)⟩) hHeld ?_
        try simp only [Act.put, List.getElem_toArray, List.getElem_cons_zero, List.getElem_cons_succ, List.setIfInBounds_toArray, List.set_cons_zero, List.set_cons_succ]
        refine wpAnyH_take (i := 2) (v := .pointer (some ⟨b, o + k * 3, none⟩)) rfl (by kernel_rfl) (by kernel_rfl) (by kernel_rfl) (fun _ _ _ h => h) (Or.inl ⟨by rfl, fun W hS => by first | rfl | (go_simp; done) | (go_simp; rfl)⟩) hHeld ?_
        try simp only [Act.put, List.getElem_toArray, List.getElem_cons_zero, List.getElem_cons_succ, List.setIfInBounds_toArray, List.set_cons_zero, List.set_cons_succ]
        refine wpAnyH_take (i := 3) (v := .pointer (some ⟨b, o + k * 3, none⟩)) rfl (by kernel_rfl) (by kernel_rfl) (by kernel_rfl) (fun _ _ _ h => h) (Or.inl ⟨by rfl, fun W hS => by first | rfl | (go_simp; done) | (go_simp; rfl)⟩) hHeld ?_
        try simp only [Act.put, List.getElem_toArray, List.getElem_cons_zero, List.getElem_cons_succ, List.setIfInBounds_toArray, List.set_cons_zero, List.set_cons_succ]
        refine wpAnyH_take (i := 4) (v := .int .i64 xa) rfl (by kernel_rfl) (by kernel_rfl) (by kernel_rfl) (fun _ _ _ h => h) (Or.inl ⟨by rfl, fun W hS => run_cellI _ rfl _ _ rfl hS.1⟩) hHeld ?_
        try simp only [Act.put, List.getElem_toArray, List.getElem_cons_zero, List.getElem_cons_succ, List.setIfInBounds_toArray, List.set_cons_zero, List.set_cons_succ]
        refine wpAnyH_ready (rs := [5]) (by kernel_rfl) (by simp) ?_
        refine AllReadyH.cons rfl (fun K hK => ?_) AllReadyH.nil
        rw [if_pos (by rfl)]
        go_simp
        go_at_call 72
        with_reducible refine (C1.out _).mono ?_
        rintro e w5 ⟨rfl, rfl⟩
        go_wp2_with fail
        refine hK.out _ _ HS0.out (fun hHeld => ?_)
        clear hK K
        try simp only [Act.put, List.getElem_toArray, List.getElem_cons_zero, List.getElem_cons_succ, List.setIfInBounds_toArray, List.set_cons_zero, List.set_cons_succ]
        refine wpAnyH_take (i := 6) (v := .bool false) rfl (by kernel_rfl) (by kernel_rfl) (by kernel_rfl) (fun _ _ _ h => h) (Or.inl ⟨by rfl, fun W hS => by first | rfl | (go_simp; done) | (go_simp; rfl)⟩) hHeld ?_
        try simp only [Act.put, List.getElem_toArray, List.getElem_cons_zero, List.getElem_cons_succ, List.setIfInBounds_toArray, List.set_cons_zero, List.set_cons_succ]
        refine wpAnyH_take (i := 7) (v := .bool false) rfl (by kernel_rfl) (by kernel_rfl) (by kernel_rfl) (fun _ _ _ h => h) (Or.inl ⟨by rfl, fun W hS => by first | rfl | (go_simp; done) | (go_simp; rfl)⟩) hHeld ?_
        try simp only [Act.put, List.getElem_toArray, List.getElem_cons_zero, List.getElem_cons_succ, List.setIfInBounds_toArray, List.set_cons_zero, List.set_cons_succ]
        refine wpAnyH_take (i := 8) (v := .int .i64 (k : Int)) rfl (by kernel_rfl) (by kernel_rfl) (by kernel_rfl) (fun _ _ _ h => h) (Or.inl ⟨by rfl, fun W hS => by first | rfl | (go_simp; done) | (go_simp; rfl)⟩) hHeld ?_
        try simp only [Act.put, List.getElem_toArray, List.getElem_cons_zero, List.getElem_cons_succ, List.setIfInBounds_toArray, List.set_cons_zero, List.set_cons_succ]
        refine wpAnyH_take (i := 9) (v := .bool true) rfl (by kernel_rfl) (by kernel_rfl) (by kernel_rfl) (fun _ _ _ h => h) (Or.inl ⟨by rfl, fun W hS => by first | rfl | (go_simp; done) | (go_simp; rfl)⟩) hHeld ?_
        try simp only [Act.put, List.getElem_toArray, List.getElem_cons_zero, List.getElem_cons_succ, List.setIfInBounds_toArray, List.set_cons_zero, List.set_cons_succ]
        refine wpAnyH_take (i := 10) (v := .bool true) rfl (by kernel_rfl) (by kernel_rfl) (by kernel_rfl) (fun _ _ _ h => h) (Or.inl ⟨by rfl, fun W hS => by first | rfl | (go_simp; done) | (go_simp; rfl)⟩) hHeld ?_
        try simp only [Act.put, List.getElem_toArray, List.getElem_cons_zero, List.getElem_cons_succ, List.setIfInBounds_toArray, List.set_cons_zero, List.set_cons_succ]
        refine wpAnyH_take (i := 11) (v := .slice (some ⟨b, o, none⟩) l.length c1) rfl (by kernel_rfl) (by kernel_rfl) (by kernel_rfl) (fun _ _ _ h => h) (Or.inl ⟨by rfl, fun W hS => by first | rfl | (go_simp; done) | (go_simp; rfl)⟩) hHeld ?_
        try simp only [Act.put, List.getElem_toArray, List.getElem_cons_zero, List.getElem_cons_succ, List.setIfInBounds_toArray, List.set_cons_zero, List.set_cons_succ]
        refine wpAnyH_take (i := 12) (v := .int .i64 (k : Int)) rfl (by kernel_rfl) (by kernel_rfl) (by kernel_rfl) (fun _ _ _ h => h) (Or.inl ⟨by rfl, fun W hS => by first | rfl | (go_simp; done) | (go_simp; rfl)⟩) hHeld ?_
        try simp only [Act.put, List.getElem_toArray, List.getElem_cons_zero, List.getElem_cons_succ, List.setIfInBounds_toArray, List.set_cons_zero, List.set_cons_succ]
        refine wpAnyH_take (i := 13) (v := .pointer (some ⟨b, o + k * 3, none⟩)) rfl (by kernel_rfl) (by kernel_rfl) (by kernel_rfl) (fun _ _ _ h => h) (Or.inl ⟨by rfl, fun W hS => by first | rfl | (go_simp; done) | (go_simp; rfl)⟩) hHeld ?_
        try simp only [Act.put, List.getElem_toArray, List.getElem_cons_zero, List.getElem_cons_succ, List.setIfInBounds_toArray, List.set_cons_zero, List.set_cons_succ]
        refine wpAnyH_take (i := 14) (v := .pointer (some ⟨b, o + k * 3, none⟩)) rfl (by kernel_rfl) (by kernel_rfl) (by kernel_rfl) (fun _ _ _ h => h) (Or.inl ⟨by rfl, fun W hS => by first | rfl | (go_simp; done) | (go_simp; rfl)⟩) hHeld ?_
        try simp only [Act.put, List.getElem_toArray, List.getElem_cons_zero, List.getElem_cons_succ, List.setIfInBounds_toArray, List.set_cons_zero, List.set_cons_succ]
        refine wpAnyH_take (i := 15) (v := .int .i64 xa) rfl (by kernel_rfl) (by kernel_rfl) (by kernel_rfl) (fun _ _ _ h => h) (Or.inl ⟨by rfl, fun W hS => run_cellI _ rfl _ _ rfl hS.1⟩) hHeld ?_
        try simp only [Act.put, List.getElem_toArray, List.getElem_cons_zero, List.getElem_cons_succ, List.setIfInBounds_toArray, List.set_cons_zero, List.set_cons_succ]
        refine wpAnyH_take (i := 16) (v := .slice (some ⟨b, o, none⟩) l.length c1) rfl (by kernel_rfl) (by kernel_rfl) (by kernel_rfl) (fun _ _ _ h => h) (Or.inl ⟨by rfl, fun W hS => by first | rfl | (go_simp; done) | (go_simp; rfl)⟩) hHeld ?_
        try simp only [Act.put, List.getElem_toArray, List.getElem_cons_zero, List.getElem_cons_succ, List.setIfInBounds_toArray, List.set_cons_zero, List.set_cons_succ]
        refine wpAnyH_take (i := 17) (v := .int .i64 (k : Int)) rfl (by kernel_rfl) (by kernel_rfl) (by kernel_rfl) (fun _ _ _ h => h) (Or.inl ⟨by rfl, fun W hS => by first | rfl | (go_simp; done) | (go_simp; rfl)⟩) hHeld ?_
        try simp only [Act.put, List.getElem_toArray, List.getElem_cons_zero, List.getElem_cons_succ, List.setIfInBounds_toArray, List.set_cons_zero, List.set_cons_succ]
        refine wpAnyH_take (i := 18) (v := .int .i64 ((k - 1 : Nat) : Int)) rfl (by kernel_rfl) (by kernel_rfl) (by kernel_rfl) (fun _ _ _ h => h) (Or.inl ⟨by rfl, fun W hS => by first | rfl | (go_simp; done) | (go_simp; rfl)⟩) hHeld ?_
        try simp only [Act.put, List.getElem_toArray, List.getElem_cons_zero, List.getElem_cons_succ, List.setIfInBounds_toArray, List.set_cons_zero, List.set_cons_succ]
        refine wpAnyH_take (i := 19) (v := .pointer (some ⟨b, o + (k - 1) * 3, none⟩)) rfl (by kernel_rfl) (by kernel_rfl) (by kernel_rfl) (fun _ _ _ h => h) (Or.inl ⟨by rfl, fun W hS => by first | rfl | (go_simp; done) | (go_simp; rfl)⟩) hHeld ?_
        try simp only [Act.put, List.getElem_toArray, List.getElem_cons_zero, List.getElem_cons_succ, List.setIfInBounds_toArray, List.set_cons_zero, List.set_cons_succ]
        refine wpAnyH_take (i := 20) (v := .pointer (some ⟨b, o + (k - 1) * 3, none⟩)) rfl (by kernel_rfl) (by kernel_rfl) (by kernel_rfl) (fun _ _ _ h => h) (Or.inl ⟨by rfl, fun W hS => by first | rfl | (go_simp; done) | (go_simp; rfl)⟩) hHeld ?_
        try simp only [Act.put, List.getElem_toArray, List.getElem_cons_zero, List.getElem_cons_succ, List.setIfInBounds_toArray, List.set_cons_zero, List.set_cons_succ]
        refine wpAnyH_take (i := 21) (v := .int .i64 ya) rfl (by kernel_rfl) (by kernel_rfl) (by kernel_rfl) (fun _ _ _ h => h) (Or.inl ⟨by rfl, fun W hS => run_cellI _ rfl _ _ rfl hS.2.2⟩) hHeld ?_
        try simp only [Act.put, List.getElem_toArray, List.getElem_cons_zero, List.getElem_cons_succ, List.setIfInBounds_toArray, List.set_cons_zero, List.set_cons_succ]
        refine wpAnyH_take (i := 22) (v := .bool false) rfl (by kernel_rfl) (by kernel_rfl) (by kernel_rfl) (fun _ _ _ h => h) (Or.inl ⟨by rfl, fun W hS => by first | rfl | (go_simp; done) | (go_simp; rfl)⟩) hHeld ?_
        try simp only [Act.put, List.getElem_toArray, List.getElem_cons_zero, List.getElem_cons_succ, List.setIfInBounds_toArray, List.set_cons_zero, List.set_cons_succ]
        refine wpAnyH_take (i := 23) (v := .bool false) rfl (by kernel_rfl) (by kernel_rfl) (by kernel_rfl) (fun _ _ _ h => h) (Or.inl ⟨by rfl, fun W hS => by first | rfl | (go_simp; done) | (go_simp; rfl)⟩) hHeld ?_
        try simp only [Act.put, List.getElem_toArray, List.getElem_cons_zero, List.getElem_cons_succ, List.setIfInBounds_toArray, List.set_cons_zero, List.set_cons_succ]
        refine wpAnyH_take (i := 24) (v := .bool false) rfl (by kernel_rfl) (by kernel_rfl) (by kernel_rfl) (fun _ _ _ h => h) (Or.inl ⟨by rfl, fun W hS => by first | rfl | (go_simp; done) | (go_simp; rfl)⟩) hHeld ?_
        try simp only [Act.put, List.getElem_toArray, List.getElem_cons_zero, List.getElem_cons_succ, List.setIfInBounds_toArray, List.set_cons_zero, List.set_cons_succ]
        refine wpAnyH_take (i := 25) (v := .bool false) rfl (by kernel_rfl) (by kernel_rfl) (by kernel_rfl) (fun _ _ _ h => h) (Or.inl ⟨by rfl, fun W hS => by first | rfl | (go_simp; done) | (go_simp; rfl)⟩) hHeld ?_
        try simp only [Act.put, List.getElem_toArray, List.getElem_cons_zero, List.getElem_cons_succ, List.setIfInBounds_toArray, List.set_cons_zero, List.set_cons_succ]
        refine wpAnyH_take (i := 26) (v := .slice (some ⟨b, o, none⟩) l.length c1) rfl (by kernel_rfl) (by kernel_rfl) (by kernel_rfl) (fun _ _ _ h => h) (Or.inl ⟨by rfl, fun W hS => by first | rfl | (go_simp; done) | (go_simp; rfl)⟩) hHeld ?_
        try simp only [Act.put, List.getElem_toArray, List.getElem_cons_zero, List.getElem_cons_succ, List.setIfInBounds_toArray, List.set_cons_zero, List.set_cons_succ]
        refine wpAnyH_take (i := 27) (v := .int .i64 (k : Int)) rfl (by kernel_rfl) (by kernel_rfl) (by kernel_rfl) (fun _ _ _ h => h) (Or.inl ⟨by rfl, fun W hS => by first | rfl | (go_simp; done) | (go_simp; rfl)⟩) hHeld ?_
        try simp only [Act.put, List.getElem_toArray, List.getElem_cons_zero, List.getElem_cons_succ, List.setIfInBounds_toArray, List.set_cons_zero, List.set_cons_succ]
        refine wpAnyH_take (i := 28) (v := .pointer (some ⟨b, o + k * 3, none⟩)) rfl (by kernel_rfl) (by kernel_rfl) (by kernel_rfl) (fun _ _ _ h => h) (Or.inl ⟨by rfl, fun W hS => by first | rfl | (go_simp; done) | (go_simp; rfl)⟩) hHeld ?_
        try simp only [Act.put, List.getElem_toArray, List.getElem_cons_zero, List.getElem_cons_succ, List.setIfInBounds_toArray, List.set_cons_zero, List.set_cons_succ]
        refine wpAnyH_take (i := 29) (v := .pointer (some ⟨b, o + k * 3 + 1, none⟩)) rfl (by kernel_rfl) (by kernel_rfl) (by kernel_rfl) (fun _ _ _ h => h) (Or.inl ⟨by rfl, fun W hS => by first | rfl | (go_simp; done) | (go_simp; rfl)⟩) hHeld ?_
        try simp only [Act.put, List.getElem_toArray, List.getElem_cons_zero, List.getElem_cons_succ, List.setIfInBounds_toArray, List.set_cons_zero, List.set_cons_succ]
        refine wpAnyH_take (i := 30) (v := .int .i64 xt) rfl (by kernel_rfl) (by kernel_rfl) (by kernel_rfl) (fun _ _ _ h => h) (Or.inl ⟨by rfl, fun W hS => run_cellI _ rfl _ _ rfl hS.2.1⟩) hHeld ?_
        try simp only [Act.put, List.getElem_toArray, List.getElem_cons_zero, List.getElem_cons_succ, List.setIfInBounds_toArray, List.set_cons_zero, List.set_cons_succ]
        refine wpAnyH_take (i := 31) (v := .slice A g.length c) rfl (by kernel_rfl) (by kernel_rfl) (by kernel_rfl) (fun _ _ _ h => h) (Or.inl ⟨by rfl, fun W hS => by first | rfl | (go_simp; done) | (go_simp; rfl)⟩) hHeld ?_
        try simp only [Act.put, List.getElem_toArray, List.getElem_cons_zero, List.getElem_cons_succ, List.setIfInBounds_toArray, List.set_cons_zero, List.set_cons_succ]
        refine wpAnyH_take (i := 32) (v := .int .i64 (g.length : Int)) rfl (by kernel_rfl) (by kernel_rfl) (by kernel_rfl) (fun _ _ _ h => h) (Or.inl ⟨by rfl, fun W hS => by first | rfl | (go_simp; done) | (go_simp; rfl)⟩) hHeld ?_
        try simp only [Act.put, List.getElem_toArray, List.getElem_cons_zero, List.getElem_cons_succ, List.setIfInBounds_toArray, List.set_cons_zero, List.set_cons_succ]
        refine wpAnyH_take (i := 33) (v := .int .i64 ((g.length : Int) - 1)) rfl (by kernel_rfl) (by kernel_rfl) (by kernel_rfl) (fun _ _ _ h => h) (Or.inl ⟨by rfl, fun W hS => by first | rfl | (go_simp; done) | (go_simp; rfl)⟩) hHeld ?_
        try simp only [Act.put, List.getElem_toArray, List.getElem_cons_zero, List.getElem_cons_succ, List.setIfInBounds_toArray, List.set_cons_zero, List.set_cons_succ]
        refine wpAnyH_ready (rs := [34]) (by kernel_rfl) (by simp) ?_
        refine AllReadyH.cons rfl (fun K hK => ?_) AllReadyH.nil
        rw [if_pos (by rfl)]
        go_simp
        go_at_call 72
        with_reducible refine (C2.out _).mono ?_
        rintro e w6 ⟨rfl, rfl⟩
        go_wp2_with fail
        refine hK.out _ _ HS0.out (fun hHeld => ?_)
        clear hK K
        try simp only [Act.put, List.getElem_toArray, List.getElem_cons_zero, List.getElem_cons_succ, List.setIfInBounds_toArray, List.set_cons_zero, List.set_cons_succ]
        refine wpAnyH_take (i := 35) (v := .bool false) rfl (by kernel_rfl) (by kernel_rfl) (by kernel_rfl) (fun _ _ _ h => h) (Or.inl ⟨by rfl, fun W hS => by first | rfl | (go_simp; done) | (go_simp; rfl)⟩) hHeld ?_
        try simp only [Act.put, List.getElem_toArray, List.getElem_cons_zero, List.getElem_cons_succ, List.setIfInBounds_toArray, List.set_cons_zero, List.set_cons_succ]
        refine wpAnyH_take (i := 36) (v := .bool false) rfl (by kernel_rfl) (by kernel_rfl) (by kernel_rfl) (fun _ _ _ h => h) (Or.inl ⟨by rfl, fun W hS => by first | rfl | (go_simp; done) | (go_simp; rfl)⟩) hHeld ?_
        try simp only [Act.put, List.getElem_toArray, List.getElem_cons_zero, List.getElem_cons_succ, List.setIfInBounds_toArray, List.set_cons_zero, List.set_cons_succ]
        refine wpAnyH_take (i := 37) (v := .bool false) rfl (by kernel_rfl) (by kernel_rfl) (by kernel_rfl) (fun _ _ _ h => h) (Or.inl ⟨by rfl, fun W hS => by first | rfl | (go_simp; done) | (go_simp; rfl)⟩) hHeld ?_
        try simp only [Act.put, List.getElem_toArray, List.getElem_cons_zero, List.getElem_cons_succ, List.setIfInBounds_toArray, List.set_cons_zero, List.set_cons_succ]
        refine wpAnyH_take (i := 38) (v := .slice A g.length c) rfl (by kernel_rfl) (by kernel_rfl) (by kernel_rfl) (fun _ _ _ h => h) (Or.inl ⟨by rfl, fun W hS => by first | rfl | (go_simp; done) | (go_simp; rfl)⟩) hHeld ?_
        try simp only [Act.put, List.getElem_toArray, List.getElem_cons_zero, List.getElem_cons_succ, List.setIfInBounds_toArray, List.set_cons_zero, List.set_cons_succ]
        refine wpAnyH_take (i := 39) (v := .slice (some ⟨b, o, none⟩) l.length c1) rfl (by kernel_rfl) (by kernel_rfl) (by kernel_rfl) (fun _ _ _ h => h) (Or.inl ⟨by rfl, fun W hS => by first | rfl | (go_simp; done) | (go_simp; rfl)⟩) hHeld ?_
        try simp only [Act.put, List.getElem_toArray, List.getElem_cons_zero, List.getElem_cons_succ, List.setIfInBounds_toArray, List.set_cons_zero, List.set_cons_succ]
        refine wpAnyH_take (i := 40) (v := .int .i64 (k : Int)) rfl (by kernel_rfl) (by kernel_rfl) (by kernel_rfl) (fun _ _ _ h => h) (Or.inl ⟨by rfl, fun W hS => by first | rfl | (go_simp; done) | (go_simp; rfl)⟩) hHeld ?_
        try simp only [Act.put, List.getElem_toArray, List.getElem_cons_zero, List.getElem_cons_succ, List.setIfInBounds_toArray, List.set_cons_zero, List.set_cons_succ]
        refine wpAnyH_ready (rs := [41]) (by kernel_rfl) (by simp) ?_
        refine AllReadyH.cons rfl (fun K hK => ?_) AllReadyH.nil
        rw [if_pos (by rfl)]
        go_simp
        go_at_call 81
        with_reducible refine (C3.out).mono ?_
        rintro e w7 ⟨rfl, hb7⟩
        have HB7 := Lib.hid (show Below wr.heap.size wr w7 from HW.out.trans (hb7.mono (Nat.le_refl _)))
        clear hb7
        go_wp2_with fail
        refine hK.out _ _ (HSB.out _ HB7.out) (fun hHeld => ?_)
        clear hK K
        try simp only [Act.put, List.getElem_toArray, List.getElem_cons_zero, List.getElem_cons_succ, List.setIfInBounds_toArray, List.set_cons_zero, List.set_cons_succ]
        refine wpAnyH_take (i := 42) (v := .bool (!fb)) rfl (by kernel_rfl) (by kernel_rfl) (by kernel_rfl) (fun _ _ _ h => h) (Or.inl ⟨by rfl, fun W hS => by first | rfl | (go_simp; done) | (go_simp; rfl)⟩) hHeld ?_
        try simp only [Act.put, List.getElem_toArray, List.getElem_cons_zero, List.getElem_cons_succ, List.setIfInBounds_toArray, List.set_cons_zero, List.set_cons_succ]
        refine wpAnyH_take (i := 43) (v := .bool (!fb)) rfl (by kernel_rfl) (by kernel_rfl) (by kernel_rfl) (fun _ _ _ h => h) (Or.inl ⟨by rfl, fun W hS => by first | rfl | (go_simp; done) | (go_simp; rfl)⟩) hHeld ?_
        try simp only [Act.put, List.getElem_toArray, List.getElem_cons_zero, List.getElem_cons_succ, List.setIfInBounds_toArray, List.set_cons_zero, List.set_cons_succ]
        refine wpAnyH_done (by kernel_rfl) ?_ _
        cases fb
        · have HN := Lib.hid (HNO.out HOK.out)
          have HBq := Lib.hid (HBr.out.trans (HB7.out.mono HBr.out.size))
          go_wp2
          go_ret
          exact ⟨ret_bool HN.out.symm, HBq.out⟩
        · have HBq := Lib.hid (HBr.out.trans (HB7.out.mono HBr.out.size))
          have HE := Lib.hid (show Bs.evK g l (k + 1) = true from HSU.out.trans HOK.out)
          go_wp2
          go_roundw
          case rel => exact ⟨k + 1, by omega, by go_num, HE.out, HBq.out⟩
          case measure => simp [intOf]; omega
    · obtain rfl : k = l.length := by omega
      have HV := Lib.hid (HYES.out hev)
      have HB := Lib.hid hb
      clear hb hev
      go_wp2
      go_ret
      exact ⟨ret_bool HV.out.symm, HB.out⟩
end Go.Proofs.Ytihgakbopkaemaa
namespace Go.Proofs.Ytihgakbopkaemaa
open Go.RowKit
set_option maxRecDepth 20000 in
set_option maxHeartbeats 3200000 in
theorem LogOfS_any (A : Option Addr) (c : Nat) (g : List Bs.T) (A1 : Option Addr) (c1 : Nat) (m : List Int) (A2 : Option Addr) (c2 : Nat) (S : List Int) (wk : Int) (lo hi l1 h1 l2 h2 : Nat) (w : World) (h : RG w lo hi A g) (hh : hi ≤ w.heap.size) (hm : RI w l1 h1 A1 m) (hh1 : h1 ≤ w.heap.size) (hs : RI w l2 h2 A2 S) (hh2 : h2 ≤ w.heap.size) (hl : g.length ≤ 9223372036854775807) (hml : m.length ≤ 9223372036854775807) (hsl : S.length ≤ 9223372036854775807) :
    Calls Try.prog 13 #[.slice A g.length c, .slice A1 m.length c1, .int .i64 wk, .slice A2 S.length c2] w (RetE w (Bs.logL g m wk S)) := by
  have hb0 : Below w.heap.size w (w.alloc (.cells #[] 33)) := (Below.refl _ _).alloc (Nat.le_refl _) _
  have q1 := validStartsS_any A c g A1 c1 m A2 c2 S wk lo hi l1 h1 l2 h2 _ (h.below hb0 hh) (by simp; omega) (hm.below hb0 hh1) (by simp; omega) (hs.below hb0 hh2) (by simp; omega) hl hml hsl
  have hsz0 : (w.alloc (.cells #[] 33)).heap.size = w.heap.size + 1 := by simp
  cases hv : Bs.stV g m wk S
  · rw [hv] at q1
    have C1 := Lib.hid q1
    have HB0 := Lib.hid hb0
    rw [Bs.logL_no hv]
    clear q1 hv h hm hs hb0
    go_enter Try.func13, Try.ntmps13
    go_wp2_with fail
    with_reducible refine (C1.out).mono ?_
    rintro e w1 ⟨rfl, hb⟩
    have HB := Lib.hid (HB0.out.trans (hb.mono HB0.out.size))
    clear hb
    go_wp2
    go_ret
    exact ⟨⟨none, 0, rfl, OE.none_ _ _⟩, HB.out⟩
  rw [hv] at q1
  have C1 := Lib.hid q1
  obtain ⟨hcan, hclk, _⟩ := Bs.stV_iff.1 hv
  have hF := valid_fine (Bs.canV_iff.1 hcan).1
  have h8 := Bs.fine_len hF
  have HSG := Lib.hid (fun (k : Nat) (hk : k < g.length) => show k < S.length from by have := Bs.clk_len hclk; omega)
  have HC := Lib.hid (fun i => Bs.clk_at hclk i)
  have HT := Lib.hid (fun k (hk : k < g.length) => Bs.fine_time' hF hk)
  have HLL := Lib.hid (fun t (ht : t ≤ 221) => Bs.lgK_len8 (g := g) S h8 ht)
  have HKS := Lib.hid (fun t => show Bs.lgK g S (t + 1) = Bs.lgK g S t ++ (Bs.ovE g S (t : Int) g.length ++ Bs.bgE S (t : Int) g.length) from rfl)
  have HOS := Lib.hid (fun (t : Int) k => show Bs.ovE g S t (k + 1) = if Bs.giZ S k + Bs.timeOf g k == t then Bs.ovE g S t k ++ [⟨t, (k : Int), true⟩] else Bs.ovE g S t k from rfl)
  have HBS := Lib.hid (fun (t : Int) k => show Bs.bgE S t (k + 1) = if Bs.giZ S k == t then Bs.bgE S t k ++ [⟨t, (k : Int), false⟩] else Bs.bgE S t k from rfl)
  have HOL := Lib.hid (fun (t : Int) k => Bs.ovE_len g S t k)
  have HBL := Lib.hid (fun (t : Int) k => Bs.bgE_len S t k)
  have HG := Lib.hid h
  have HR := Lib.hid hs
  rw [Bs.logL_yes hv]
  have HO0 := Lib.hid (OE.nil w w.heap.size (Nat.le_refl _))
  have HB0 := Lib.hid hb0
  clear q1 hv h hm hs hb0 hcan hclk hF
  go_enter Try.func13, Try.ntmps13
  go_wp2_with fail
  with_reducible refine (C1.out).mono ?_
  rintro e w1 ⟨rfl, hb⟩
  have HO1 := Lib.hid (HO0.out.below hb (Nat.le_refl _))
  have HB1 := Lib.hid (HB0.out.trans (hb.mono HB0.out.size))
  clear hb HO0 HB0 C1
  go_wp2
  go_loopw [9, 10] (fun v i wr => ∃ (t : Nat) (A' : Option Addr) (c' : Nat) (o : List Bs.E), t ≤ 221 ∧ i = .int .i64 (t : Int) ∧ v = .slice A' o.length c' ∧ o = Bs.lgK g S t ∧ OE wr w.heap.size A' c' o ∧ Below w.heap.size w wr) (fun _ i _ => 221 - (intOf i).toNat)
  case atStart => exact ⟨0, _, _, [], by omega, rfl, rfl, rfl, HO1.out, HB1.out⟩
  case round =>
    obtain ⟨t, A', c', o, ht, rfl, rfl, ho, hO, hb⟩ := hrel
    clear HO1 HB1
    have hol := HLL.out t ht
    rw [← ho] at hol
    have HOr := Lib.hid hO
    have HBr := Lib.hid hb
    clear hO hb
    by_cases hlt : t < 221
    · have d1 : decide ((t : Int) ≤ 220) = true := by simp; omega
      have hks := HKS.out t
      rw [← ho] at hks
      have HKr := Lib.hid hks
      clear hks ho
      go_wp2
      go_loopw [9, 11] (fun v i wr => ∃ (k : Nat) (A' : Option Addr) (c' : Nat) (r : List Bs.E), k ≤ g.length ∧ i = .int .i64 (k : Int) ∧ v = .slice A' r.length c' ∧ r = o ++ Bs.ovE g S (t : Int) k ∧ OE wr w.heap.size A' c' r ∧ Below w.heap.size w wr) (fun _ i _ => g.length - (intOf i).toNat)
      case atStart => exact ⟨0, _, _, o, Nat.zero_le _, rfl, rfl, (List.append_nil o).symm, HOr.out, HBr.out⟩
      case round =>
        obtain ⟨k, A', c', r, hk, rfl, rfl, hp, hO, hb⟩ := hrel
        clear HOr HBr
        have hpl := HOL.out (t : Int) k
        have hopl : r.length ≤ 4000 := by rw [hp, List.length_append]; omega
        by_cases hkl : k < g.length
        · obtain ⟨bg, og, N, cN, rfl, g1, g2, k0, k1, k2, k3, hnc, hcN, hN⟩ := (HG.out.below hb hh) k hkl
          obtain ⟨bs, os, rfl, _, _, s0⟩ := (HR.out.below hb hh2).at_ (k := k) (HSG.out k hkl)
          have hti := HT.out k hkl
          have hci := HC.out k
          have hos := HOS.out (t : Int) k
          rw [Bs.timeOf_eq hkl] at hos
          have hos2 := congrArg (o ++ ·) hos
          rw [apply_ite (o ++ ·), ← List.append_assoc, ← hp] at hos2
          clear hos
          rw [← Bs.giZ_at (HSG.out k hkl)] at s0
          generalize Bs.giZ S k = sv at *
          generalize g[k].time = tv at *
          have hw1 : IntKind.i64.wrap (sv + tv) = sv + tv := IntWalk.i64_in _ ⟨by omega, by omega⟩
          have j0 : (0 : Int) ≤ (k : Int) := by omega
          have j1 : (k : Int) < (g.length : Int) := by omega
          have j2 : (k : Int) < (S.length : Int) := by have := HSG.out k hkl; omega
          have HOr := Lib.hid hO
          have HBr := Lib.hid hb
          have sr := hb.size
          clear hO hb hN k2 k3 hnc hp hti hci hpl
          cases hq : (sv + tv == (t : Int))
          · rw [hq] at hos2
            have HOSr := Lib.hid hos2
            clear hos2
            go_wp2
            go_quiet (fail)
            go_wp2
            go_roundw
            case rel => exact ⟨k + 1, _, _, r, by omega, by go_num, rfl, HOSr.out.symm, HOr.out.drewN _, HBr.out.drewN _⟩
            case measure => simp [intOf]; omega
          · rw [hq] at hos2
            have HOSr := Lib.hid hos2
            clear hos2
            go_wp2
            go_quiet (fail)
            go_wp2_with (at_builtin; go_loud (refine push_evs rfl _ _ rfl w.heap.size A' c' r [⟨(t : Int), (k : Int), true⟩] rfl ((HOr.out.drewN _).alloc _) wr.heap.size 1 rfl (new_cellsE (wr.drewN _) _) (by simp; omega) (by simp; omega) ?_; intro A6 c6 w6 ho6 hb6; have HO6 := Lib.hid ho6; have HB6 := Lib.hid (((HBr.out.drewN _).alloc HBr.out.size (.cells #[.int .i64 (t : Int), .int .i64 (k : Int), .bool true] 33)).trans (hb6)); clear ho6 hb6))
            go_roundw
            case rel => exact ⟨k + 1, A6, c6, r ++ [⟨(t : Int), (k : Int), true⟩], by omega, by go_num, by simp, HOSr.out.symm, HO6.out, HB6.out⟩
            case measure => simp [intOf]; omega
        · obtain rfl : k = g.length := by omega
          have HOr := Lib.hid hO
          have HBr := Lib.hid hb
          clear hO hb
          rw [← List.append_assoc, ← hp] at HKr
          clear hp hpl
          go_wp2
          go_loopw [9, 12] (fun v i wr => ∃ (k : Nat) (A' : Option Addr) (c' : Nat) (q : List Bs.E), k ≤ g.length ∧ i = .int .i64 (k : Int) ∧ v = .slice A' q.length c' ∧ q = r ++ Bs.bgE S (t : Int) k ∧ OE wr w.heap.size A' c' q ∧ Below w.heap.size w wr) (fun _ i _ => g.length - (intOf i).toNat)
          case atStart => exact ⟨0, _, _, r, Nat.zero_le _, rfl, rfl, (List.append_nil r).symm, HOr.out, HBr.out⟩
          case round =>
            obtain ⟨k, A', c', q, hk, rfl, rfl, hp, hO, hb⟩ := hrel
            clear HOr HBr
            have hpl := HBL.out (t : Int) k
            have hoql : q.length ≤ 5000 := by rw [hp, List.length_append]; omega
            by_cases hkl : k < g.length
            · obtain ⟨bs, os, rfl, _, _, s0⟩ := (HR.out.below hb hh2).at_ (k := k) (HSG.out k hkl)
              have hos := HBS.out (t : Int) k
              have hos2 := congrArg (r ++ ·) hos
              rw [apply_ite (r ++ ·), ← List.append_assoc, ← hp] at hos2
              clear hos
              rw [← Bs.giZ_at (HSG.out k hkl)] at s0
              generalize Bs.giZ S k = sv at *
              have j0 : (0 : Int) ≤ (k : Int) := by omega
              have j1 : (k : Int) < (g.length : Int) := by omega
              have j2 : (k : Int) < (S.length : Int) := by have := HSG.out k hkl; omega
              have HOr := Lib.hid hO
              have HBr := Lib.hid hb
              have sr := hb.size
              clear hO hb hp hpl
              cases hq : (sv == (t : Int))
              · rw [hq] at hos2
                have HOSr := Lib.hid hos2
                clear hos2
                go_wp2
                go_roundw
                case rel => exact ⟨k + 1, _, _, q, by omega, by go_num, rfl, HOSr.out.symm, HOr.out, HBr.out⟩
                case measure => simp [intOf]; omega
              · rw [hq] at hos2
                have HOSr := Lib.hid hos2
                clear hos2
                go_wp2_with (at_builtin; go_loud (refine push_evs rfl _ _ rfl w.heap.size A' c' q [⟨(t : Int), (k : Int), false⟩] rfl (HOr.out.alloc _) wr.heap.size 1 rfl (new_cellsE _ _) (by simp; omega) (by simp; omega) ?_; intro A6 c6 w6 ho6 hb6; have HO6 := Lib.hid ho6; have HB6 := Lib.hid ((HBr.out.alloc HBr.out.size (.cells #[.int .i64 (t : Int), .int .i64 (k : Int), .bool false] 33)).trans (hb6)); clear ho6 hb6))
                go_roundw
                case rel => exact ⟨k + 1, A6, c6, q ++ [⟨(t : Int), (k : Int), false⟩], by omega, by go_num, by simp, HOSr.out.symm, HO6.out, HB6.out⟩
                case measure => simp [intOf]; omega
            · obtain rfl : k = g.length := by omega
              have HOr := Lib.hid hO
              have HBr := Lib.hid hb
              rw [← hp] at HKr
              have HKr2 := Lib.hid HKr.out
              clear hO hb hp
              go_wp2
              go_roundw
              case rel => exact ⟨t + 1, A', c', q, by omega, by go_num, rfl, HKr2.out.symm, HOr.out, HBr.out⟩
              case measure => simp [intOf]; omega
    · obtain rfl : t = 221 := by omega
      go_wp2
      go_ret
      rw [← ho]
      exact ⟨⟨_, _, rfl, HOr.out⟩, HBr.out⟩
end Go.Proofs.Ytihgakbopkaemaa
namespace Go.Proofs.Ytihgakbopkaemaa
open Go.RowKit
end Go.Proofs.Ytihgakbopkaemaa
namespace Go.Proofs.Ytihgakbopkaemaa
open Go.RowKit
theorem max_if (a b : Int) : (if a < b then b else a) = max a b := by rw [Int.max_def]; split <;> split <;> omega
set_option maxRecDepth 20000 in
set_option maxHeartbeats 3200000 in
theorem MostTogetherS_any (A : Option Addr) (c : Nat) (g : List Bs.T) (A1 : Option Addr) (c1 : Nat) (l : List Bs.E) (lo hi l1 h1 : Nat) (w : World) (h : RG w lo hi A g) (hh : hi ≤ w.heap.size) (hm : RE w l1 h1 A1 l) (hh1 : h1 ≤ w.heap.size) (hl : g.length ≤ 9223372036854775807) (hll : l.length ≤ 9223372036854775807) :
    Calls Try.prog 30 #[.slice A g.length c, .slice A1 l.length c1] w fun e w' => e = .returned (.int .i64 (Bs.mtL g l)) ∧ Below w.heap.size w w' := by
  have q1 := validLogS_any A c g A1 c1 l lo hi l1 h1 w h hh hm hh1 hl hll
  cases hv : Bs.logV g l
  · rw [hv] at q1
    have C1 := Lib.hid q1
    have HV := Lib.hid (Bs.mtL_no hv)
    clear q1 hv h hm
    go_enter Try.func30, Try.ntmps30
    go_wp2_with fail
    with_reducible refine (C1.out).mono ?_
    rintro e w1 ⟨rfl, hb⟩
    have HB := Lib.hid hb
    clear hb
    go_wp2
    go_ret
    exact ⟨ret_int HV.out.symm, HB.out⟩
  rw [hv] at q1
  have C1 := Lib.hid q1
  obtain ⟨hgv, h16, hev⟩ := Bs.logV_iff.1 hv
  have hF := valid_fine hgv
  have h8 := Bs.fine_len hF
  have HV := Lib.hid (Bs.mtL_yes hv)
  have HNB := Lib.hid (fun k (hk : k ≤ l.length) => Bs.rnK_b (Bs.LI.of hF k (Bs.evK_le hk hev)))
  have HMB := Lib.hid (fun k (hk : k ≤ l.length) => Bs.mtK_b hF k (Bs.evK_le hk hev))
  have HNS := Lib.hid (fun k => Bs.rnK_succ l k)
  have HMS := Lib.hid (fun k => show Bs.mtK l (k + 1) = if Bs.lastT l k then max (Bs.mtK l k) (Bs.rnK l (k + 1)) else Bs.mtK l k from rfl)
  have HR := Lib.hid hm
  clear q1 hv h hm hgv hev hF
  go_enter Try.func30, Try.ntmps30
  go_wp2_with fail
  with_reducible refine (C1.out).mono ?_
  rintro e w1 ⟨rfl, hb⟩
  have HB1 := Lib.hid hb
  clear hb C1
  go_wp2
  go_loopw [5, 6, 7] (fun m v i wr => ∃ (k : Nat), k ≤ l.length ∧ i = .int .i64 (k : Int) ∧ m = .int .i64 (Bs.mtK l k) ∧ v = .int .i64 (Bs.rnK l k) ∧ Below w.heap.size w wr) (fun _ _ i _ => l.length - (intOf i).toNat)
  case atStart => exact ⟨0, Nat.zero_le _, rfl, rfl, rfl, HB1.out⟩
  case round =>
    obtain ⟨k, hk, rfl, rfl, rfl, hb⟩ := hrel
    clear HB1
    by_cases hlt : k < l.length
    · obtain ⟨b, o, rfl, _, _, k0, k1, k2⟩ := (HR.out.below hb hh1).at_ hlt
      have hn1 := HNB.out k hk
      have hn2 := HNB.out (k + 1) hlt
      have hm1 := HMB.out k hk
      have hns := HNS.out k
      have hms := HMS.out k
      have CT := fun ov W => toIntE_any ov W
      have HNX := Lib.hid (fun (hx : k + 1 < l.length) => show wr.cell? ⟨b, o + (k + 1) * 3, none⟩ = some (.int .i64 (Bs.ge l (k + 1)).at_) from by
        obtain ⟨b', o', e', _, _, j0, _, _⟩ := (HR.out.below hb hh1).at_ hx
        cases e'
        exact j0)
      have HBr := Lib.hid hb
      have i0 : (0 : Int) ≤ (k : Int) := by omega
      have i1 : (k : Int) < (l.length : Int) := by omega
      have hla : Bs.lastT l k = (decide (k + 1 = l.length) || decide ((Bs.ge l k).at_ < (Bs.ge l (k + 1)).at_)) := rfl
      generalize (Bs.ge l k).over = ov at *
      generalize (Bs.ge l k).at_ = xa at *
      generalize (Bs.ge l (k + 1)).at_ = xb at *
      generalize hq : Bs.rnK l k = nq at *
      generalize hq2 : Bs.mtK l k = mq at *
      generalize hq3 : Bs.lastT l k = la at *
      clear hq hq2 hq3 hb HNB HMB HNS HMS k1
      have hwk2 : IntKind.i64.wrap ((k : Int) + 1) = (k : Int) + 1 := IntWalk.i64_in _ ⟨by omega, by omega⟩
      have hkt : ((k : Int) + 1).toNat = k + 1 := by omega
      have hw1 : IntKind.i64.wrap (nq + 1) = nq + 1 := IntWalk.i64_in _ ⟨by omega, by omega⟩
      obtain ⟨tb, htb⟩ : ∃ tb : Int, tb = (if ov then 1 else 0) := ⟨_, rfl⟩
      have ct := CT ov
      rw [← htb] at ct hns
      have htb2 : 0 ≤ tb ∧ tb ≤ 1 := by rw [htb]; split <;> omega
      have hw2 : IntKind.i64.wrap (2 * tb) = 2 * tb := IntWalk.i64_in _ ⟨by omega, by omega⟩
      have hw3 : IntKind.i64.wrap (nq + 1 - 2 * tb) = Bs.rnK l (k + 1) := by rw [hns]; exact IntWalk.i64_in _ ⟨by omega, by omega⟩
      have C2 := Lib.hid ct
      generalize hnq : Bs.rnK l (k + 1) = nq' at *
      have HNQ := Lib.hid hnq
      clear hnq
      clear ct CT htb hns htb2
      by_cases hk1 : k + 1 = l.length
      · have d1 : ((k : Int) + 1 == (l.length : Int)) = true := by rw [beq_iff_eq]; omega
        have d1' : ((k + 1 : Nat) == l.length) = true := by rw [hk1]; exact beq_self_eq_true _
        rw [hla, show decide (k + 1 = l.length) = true from decide_eq_true hk1, Bool.true_or, if_pos rfl] at hms
        have HMSr := Lib.hid hms
        clear hms hla HNX hk1
        go_wp2_with fail
        with_reducible refine (C2.out _).mono ?_
        rintro e w2 ⟨rfl, rfl⟩
        clear C2
        go_wp2
        go_quiet (fail)
        go_wp2
        go_roundw
        case rel => exact ⟨k + 1, by omega, by go_num, by rw [HMSr.out]; exact congrArg _ (max_if _ _), by rw [HNQ.out], HBr.out.drewN _⟩
        case measure => simp [intOf]; omega
      · have d1 : ((k : Int) + 1 == (l.length : Int)) = false := by rw [beq_eq_false_iff_ne]; omega
        have d1' : ((k + 1 : Nat) == l.length) = false := by rw [beq_eq_false_iff_ne]; omega
        have kn := HNX.out (by omega)
        have j0 : (0 : Int) ≤ (k : Int) + 1 := by omega
        have j1 : (k : Int) + 1 < (l.length : Int) := by omega
        rw [hla, show decide (k + 1 = l.length) = false from decide_eq_false hk1, Bool.false_or] at hms
        clear hla HNX hk1
        by_cases hx : xa < xb
        · have e1 : decide (xa < xb) = true := decide_eq_true hx
          have e2 : decide (xb > xa) = true := decide_eq_true hx
          rw [e1, if_pos rfl] at hms
          have HMSr := Lib.hid hms
          clear hms hx
          go_wp2_with fail
          with_reducible refine (C2.out _).mono ?_
          rintro e w2 ⟨rfl, rfl⟩
          clear C2
          go_wp2
          go_quiet (fail)
          go_wp2
          go_roundw
          case rel => exact ⟨k + 1, by omega, by go_num, by rw [HMSr.out]; exact congrArg _ (max_if _ _), by rw [HNQ.out], HBr.out.drewN _⟩
          case measure => simp [intOf]; omega
        · have e1 : decide (xa < xb) = false := decide_eq_false hx
          have e2 : decide (xb > xa) = false := decide_eq_false hx
          rw [e1] at hms
          have HMSr := Lib.hid hms
          clear hms hx
          go_wp2_with fail
          with_reducible refine (C2.out _).mono ?_
          rintro e w2 ⟨rfl, rfl⟩
          clear C2
          go_wp2
          go_quiet (fail)
          go_wp2
          go_roundw
          case rel => exact ⟨k + 1, by omega, by go_num, by rw [HMSr.out]; rfl, by rw [HNQ.out], HBr.out.drewN _⟩
          case measure => simp [intOf]; omega
    · obtain rfl : k = l.length := by omega
      have HBr := Lib.hid hb
      clear hb
      go_wp2
      go_ret
      exact ⟨ret_int HV.out.symm, HBr.out⟩
end Go.Proofs.Ytihgakbopkaemaa
