/-
  WALKS: valid logs, of the model.
-/
import Derived.Test.YtenneicbhpjfmaaMem11
import Derived.Test.YtenneicbhpjfmaaR71
namespace Go.Proofs.Ytenneicbhpjfmaa
open Go.RowKit
def EVs (w : World) (a : Nat) (x : Bs.E) : Prop := Blk w a 30 #[.int .i64 x.at_, .int .i64 x.task, .bool x.over]
theorem EVs.cells {w : World} {a : Nat} {x : Bs.E} (h : EVs w a x) : w.cell? ⟨a, 0, none⟩ = some (.int .i64 x.at_) ∧ w.cell? ⟨a, 1, none⟩ = some (.int .i64 x.task) ∧ w.cell? ⟨a, 2, none⟩ = some (.bool x.over) :=
  ⟨(Blk.cell h 0).trans rfl, (Blk.cell h 1).trans rfl, (Blk.cell h 2).trans rfl⟩
theorem allDoneE_q (A : Option Addr) (c : Nat) (l : List Int) (A' : Option Addr) (c' : Nat) (d : List Int) (lo hi lo' hi' : Nat) (w : World) (h : RI w lo hi A l) (h' : RI w lo' hi' A' d) (hl : l.length ≤ 9223372036854775807) (hd : d.length ≤ 9223372036854775807) (j : Nat) :
    Calls Try.prog 108 #[.slice A l.length c, .slice A' d.length c'] (w.drewN j) fun e w' => e = .returned (.bool (l.all fun x => d.contains x)) ∧ ∃ m, w' = w.drewN m :=
  (allDone_any A c l A' c' d lo hi lo' hi' (w.drewN j) h h' hl hd).mono fun _ _ ⟨h1, h2⟩ => ⟨h1, j, h2.symm⟩
theorem isInE_q0 (A : Option Addr) (c : Nat) (l : List Int) (n : Int) (lo hi : Nat) (w : World) (h : RI w lo hi A l) (hl : l.length ≤ 9223372036854775807) (j : Nat) :
    Calls Try.prog 107 #[.slice A l.length c, .int .i64 n] (w.drewN j) fun e w' => e = .returned (.bool (l.contains n)) ∧ ∃ m, w' = w.drewN m :=
  (isIn_any A c l n lo hi (w.drewN j) h hl).mono fun _ _ ⟨h1, h2⟩ => ⟨h1, j, h2.symm⟩
theorem ovL_len (l : List Bs.E) : ∀ k, (Bs.ovL l k).length ≤ k := by
  intro k
  induction k with
  | zero => simp [Bs.ovL]
  | succ k ih =>
    show (if _ then _ else _ : List Int).length ≤ _
    split
    · rw [List.length_append, List.length_singleton]; omega
    · omega
set_option maxRecDepth 20000 in
set_option maxHeartbeats 3200000 in
theorem eventFitsS_any (A : Option Addr) (c : Nat) (g : List Bs.T) (A1 : Option Addr) (c1 : Nat) (l : List Bs.E) (p : Nat) (lo hi l1 h1 : Nat) (w : World) (h : RG w lo hi A g) (hh : hi ≤ w.heap.size) (hm : RE w l1 h1 A1 l) (hh1 : h1 ≤ w.heap.size) (hF : Bs.fine g = true) (hp : p < l.length) (h16 : l.length ≤ 16) (ht : 0 ≤ (Bs.ge l p).task ∧ (Bs.ge l p).task < g.length) (hbb : ∀ k, k ≤ p → ∀ t, -1 ≤ Bs.bgM l t k ∧ Bs.bgM l t k ≤ 200) :
    Calls Try.prog 85 #[.slice A g.length c, .slice A1 l.length c1, .int .i64 (p : Int)] w fun e w' => e = .returned (.bool (Bs.fitE g l p (Bs.ge l p))) ∧ Below w.heap.size w w' := by
  have h8 := Bs.fine_len hF
  obtain ⟨x, hx⟩ : ∃ x, x = Bs.ge l p := ⟨_, rfl⟩
  rw [← hx] at ht ⊢
  obtain ⟨v, hv⟩ : ∃ v : Nat, x.task = (v : Int) := ⟨x.task.toNat, by omega⟩
  have hvl : v < g.length := by omega
  obtain ⟨bp, op, rfl, _, _, p0, p1, p2⟩ := hm.at_ hp
  rw [← hx] at p0 p1 p2
  have HE0 := Lib.hid ((show EVs (w.alloc (.cells #[.int .i64 x.at_, .int .i64 x.task, .bool x.over] 30)) w.heap.size x from Blk.new w _ _))
  have HO0 := Lib.hid (OI.new (w.alloc (.cells #[.int .i64 x.at_, .int .i64 x.task, .bool x.over] 30)) (w.heap.size + 1) (by simp))
  have HE1 := Lib.hid (show EVs ((w.alloc (.cells #[.int .i64 x.at_, .int .i64 x.task, .bool x.over] 30)).alloc (.cells #[] 3)) w.heap.size x from Blk.alloc HE0.out _)
  have HB1 := Lib.hid (((Below.refl w.heap.size w).alloc (Nat.le_refl _) (.cells #[.int .i64 x.at_, .int .i64 x.task, .bool x.over] 30)).alloc (by simp) (.cells #[] 3))
  have hs1 : (w.alloc (.cells #[.int .i64 x.at_, .int .i64 x.task, .bool x.over] 30)).heap.size = w.heap.size + 1 := by simp
  have HG := Lib.hid h
  have HR := Lib.hid hm
  have HX := Lib.hid hx
  have HV := Lib.hid hv
  have HBB := Lib.hid hbb
  have HOS := Lib.hid (fun k => show Bs.ovL l (k + 1) = if (Bs.ge l k).over then Bs.ovL l k ++ [(Bs.ge l k).task] else Bs.ovL l k from rfl)
  have HMS := Lib.hid (fun k => show Bs.bgM l x.task (k + 1) = if !(Bs.ge l k).over && ((Bs.ge l k).task == x.task) then (Bs.ge l k).at_ else Bs.bgM l x.task k from rfl)
  have HOL := Lib.hid (fun k => ovL_len l k)
  have HFE := Lib.hid (show Bs.fitE g l p x = (if x.over then decide (0 ≤ Bs.bgM l x.task p) && !(Bs.ovL l p).contains x.task && (x.at_ == Bs.bgM l x.task p + Bs.timeOf g x.task.toNat) else decide (Bs.bgM l x.task p < 0) && (Bs.need g x.task.toNat).all fun y => (Bs.ovL l p).contains y) from rfl)
  have i0 : (0 : Int) ≤ (p : Int) := by omega
  have i1 : (p : Int) < (l.length : Int) := by omega
  clear h hm hx hv hbb
  go_enter Try.func85, Try.ntmps85
  go_wp2
  go_loopw [8, 9, 10] (fun b v i wr => ∃ (k : Nat) (A' : Option Addr) (c' : Nat) (o : List Int), k ≤ p ∧ i = .int .i64 k ∧ b = .int .i64 (Bs.bgM l x.task k) ∧ v = .slice A' o.length c' ∧ o = Bs.ovL l k ∧ OI wr (w.heap.size + 1) A' c' o ∧ EVs wr w.heap.size x ∧ Below w.heap.size w wr ∧ w.heap.size + 1 ≤ wr.heap.size) (fun _ _ i _ => p - (intOf i).toNat)
  case atStart => exact ⟨0, _, _, [], Nat.zero_le _, rfl, rfl, rfl, rfl, by have := HO0.out; rw [hs1] at this; exact this, HE1.out, HB1.out, by simp⟩
  case round =>
    obtain ⟨k, A', c', o, hk, rfl, rfl, rfl, ho, hO, hE, hb, hs⟩ := hrel
    clear HE0 HO0 HE1 HB1 hs1 p0 p1 p2
    obtain ⟨x0, x1, x2⟩ := hE.cells
    have hbm := HBB.out k hk x.task
    have hol := HOL.out k
    rw [← ho] at hol
    by_cases hlt : k < p
    · have hkl : k < l.length := by omega
      obtain ⟨b', o', e', _, _, k0, k1, k2⟩ := (HR.out.below hb hh1).at_ hkl
      cases e'
      have hos := HOS.out k
      have hms := HMS.out k
      have hbm2 := HBB.out (k + 1) (by omega) x.task
      rw [← ho] at hos
      have j0 : (0 : Int) ≤ (k : Int) := by omega
      have j1 : (k : Int) < (l.length : Int) := by omega
      have j2 : (k : Int) < (p : Int) := by omega
      have HEr := Lib.hid hE
      have HBr := Lib.hid hb
      have HOr := Lib.hid hO
      clear ho hE hb hO HBB HOS HMS HOL HFE HG HX
      generalize (Bs.ge l k).at_ = ka at *
      generalize (Bs.ge l k).task = kt at *
      generalize (Bs.ge l k).over = ko at *
      generalize Bs.bgM l x.task k = bm at *
      cases ko
      · simp only [Bool.not_false, Bool.true_and, Bool.false_eq_true, if_false] at hos hms
        have HOSr := Lib.hid hos.symm
        clear hos
        cases hq : (kt == x.task)
        · rw [hq] at hms
          simp only [Bool.false_eq_true, if_false] at hms
          have HMSr := Lib.hid hms
          clear hms
          go_wp2
          go_quiet (fail)
          go_wp2
          go_roundw
          case rel => exact ⟨k + 1, A', c', o, by omega, by go_num, by rw [HMSr.out], rfl, HOSr.out, HOr.out.drewN _, HEr.out, HBr.out.drewN _, hs⟩
          case measure => simp [intOf]; omega
        · rw [hq] at hms
          simp only [if_true] at hms
          have HMSr := Lib.hid hms
          clear hms
          go_wp2
          go_quiet (fail)
          go_wp2
          go_roundw
          case rel => exact ⟨k + 1, A', c', o, by omega, by go_num, by rw [HMSr.out], rfl, HOSr.out, HOr.out.drewN _, HEr.out, HBr.out.drewN _, hs⟩
          case measure => simp [intOf]; omega
      · simp only [Bool.not_true, Bool.false_and, Bool.false_eq_true, if_false, if_true] at hos hms
        have HOSr := Lib.hid hos.symm
        have HMSr := Lib.hid hms
        have HO2 := Lib.hid (HOr.out.alloc (.cells #[.int .i64 kt] 3))
        clear hos hms
        go_wp2_with (first
          | (at_builtin; go_loud (refine push_int rfl _ _ rfl (w.heap.size + 1) A' c' o kt rfl HO2.out wr.heap.size 1 rfl (by simp [go_sem]) (by omega) (by simp; omega) ?_; intro A6 c6 w6 ho6 hb6 _; have HO6 := Lib.hid ho6; have HE6 := Lib.hid (Blk.below (Blk.alloc HEr.out (.cells #[.int .i64 kt] 3)) hb6 (by omega)); have HB6 := Lib.hid ((HBr.out.alloc HBr.out.size (.cells #[.int .i64 kt] 3)).trans (hb6.mono (by omega))); have s6 := hb6.size; rw [World.size_alloc] at s6; clear ho6 hb6)))
        go_roundw
        case rel => exact ⟨k + 1, A6, c6, o ++ [kt], by omega, by go_num, by rw [HMSr.out], by rw [List.length_append]; rfl, HOSr.out, HO6.out, HE6.out, HB6.out, by omega⟩
        case measure => simp [intOf]; omega
    · obtain rfl : k = p := by omega
      obtain ⟨bg, og, N, cN, rfl, g1, g2, k0, k1, k2, k3, hnc, hcN, hN⟩ := (HG.out.below hb hh) v hvl
      have hfe := HFE.out
      rw [HV.out] at hfe x1
      rw [Int.toNat_natCast, ← ho] at hfe
      have HEr := Lib.hid hE
      have HBr := Lib.hid hb
      have q1 := fun j => isInE_q0 A' c' o (v : Int) _ _ wr hO.ri (by omega) j
      have q2 := allDone_any N cN g[v].needs A' c' o _ _ _ _ wr hN hO.ri (by have := Bs.fine_needs_len hF hvl; omega) (by omega)
      have hti := Bs.fine_time' hF hvl
      rw [need_at hvl, Bs.timeOf_eq hvl] at hfe
      have v0 : (0 : Int) ≤ (v : Int) := by omega
      have v1 : (v : Int) < (g.length : Int) := by omega
      rw [HV.out] at hbm
      clear ho hE hb hO HBB HOS HMS HOL HFE HG HX hN k2 k3 hnc hF
      generalize (g[v].needs.all fun y => o.contains y) = nb at *
      generalize g[v].needs = nd at *
      generalize o.contains (v : Int) = tb at *
      generalize g[v].time = tv at *
      have HFEr := Lib.hid hfe
      rw [HV.out]
      generalize hbq : Bs.bgM l (v : Int) k = bm at *
      have HBQ := Lib.hid hbq
      clear hfe hbq
      generalize hxa : x.at_ = xa at *
      generalize hxo : x.over = xo at *
      clear hxa hxo
      have hw1 : IntKind.i64.wrap (bm + tv) = bm + tv := IntWalk.i64_in _ ⟨by omega, by omega⟩
      have C1 := fun j => Lib.hid (q1 j)
      have C2 := Lib.hid q2
      clear q1 q2
      cases xo
      · by_cases hb0 : bm < 0
        · have d1 : decide (bm < 0) = true := decide_eq_true hb0
          have d2 : decide (0 > bm) = true := decide_eq_true hb0
          have HV2 := Lib.hid (show Bs.fitE g l k x = nb from by rw [HFEr.out]; simp [hb0])
          clear hb0
          go_wp2_with fail
          with_reducible refine (C2.out).mono ?_
          rintro e w5 ⟨rfl, rfl⟩
          go_wp2
          go_ret
          exact ⟨ret_bool HV2.out.symm, HBr.out⟩
        · have d1 : decide (bm < 0) = false := decide_eq_false hb0
          have HV2 := Lib.hid (show Bs.fitE g l k x = false from by rw [HFEr.out]; simp [hb0])
          clear hb0
          go_wp2
          go_ret
          exact ⟨ret_bool HV2.out.symm, HBr.out⟩
      · by_cases hb0 : 0 ≤ bm
        · have d1 : decide (0 ≤ bm) = true := decide_eq_true hb0
          have d2 : decide (bm ≥ 0) = true := decide_eq_true hb0
          cases tb
          · have HV2 := Lib.hid (show Bs.fitE g l k x = (xa == bm + tv) from by rw [HFEr.out]; simp [hb0])
            clear hb0
            go_wp2
            go_quiet ((go_at_call 107; with_reducible exact (C1 _).out))
            go_wp2
            go_ret
            exact ⟨ret_bool HV2.out.symm, HBr.out.drewN _⟩
          · have HV2 := Lib.hid (show Bs.fitE g l k x = false from by rw [HFEr.out]; simp [hb0])
            clear hb0
            go_wp2
            go_quiet ((go_at_call 107; with_reducible exact (C1 _).out))
            go_wp2
            go_ret
            exact ⟨ret_bool HV2.out.symm, HBr.out.drewN _⟩
        · have d1 : decide (0 ≤ bm) = false := decide_eq_false hb0
          have d2 : decide (bm ≥ 0) = false := decide_eq_false hb0
          have HV2 := Lib.hid (show Bs.fitE g l k x = false from by rw [HFEr.out]; simp [hb0])
          clear hb0
          go_wp2
          go_quiet ((go_at_call 107; with_reducible exact (C1 _).out))
          go_wp2
          go_ret
          exact ⟨ret_bool HV2.out.symm, HBr.out.drewN _⟩
end Go.Proofs.Ytenneicbhpjfmaa
