/-
  WALKS: the queue of ends, of the program: with one more.
-/
import Derived.Test.YtfholjgndpefdaaW80
namespace Go.Proofs.Ytfholjgndpefdaa
open Go.RowKit
/-- the place of an end that is over at t, behind all that are over then -/
def Bs.insP (f : Nat → Int × Int) (t : Int) : Nat → Nat
  | 0 => 0
  | q + 1 => if t < (f q).2 then Bs.insP f t q else q + 1
theorem Bs.insP_le (f : Nat → Int × Int) (t : Int) : ∀ q, Bs.insP f t q ≤ q := by
  intro q
  induction q with
  | zero => exact Nat.le_refl _
  | succ q ih => unfold Bs.insP; split <;> omega
/-- the places behind q, up to n, moved on by one -/
def Bs.gapF (f : Nat → Int × Int) (n q : Nat) : Nat → Int × Int := fun i => if q < i ∧ i ≤ n then f (i - 1) else f i
theorem Bs.gapF_all (f : Nat → Int × Int) (n : Nat) : Bs.gapF f n n = f := by funext i; unfold Bs.gapF; rw [if_neg (by omega)]
theorem Bs.gapF_at (f : Nat → Int × Int) {n q i : Nat} (h : i ≤ q) : Bs.gapF f n q i = f i := by unfold Bs.gapF; rw [if_neg (by omega)]
theorem Bs.gapF_pred (f : Nat → Int × Int) {n q : Nat} (h : q < n) : Bs.upd (Bs.gapF f n (q + 1)) (q + 1) (f q) = Bs.gapF f n q := by
  funext i
  unfold Bs.upd Bs.gapF
  by_cases e : i = q + 1
  · subst e; rw [if_pos rfl, if_pos (by omega)]; rfl
  · rw [if_neg e]
    by_cases h2 : q < i ∧ i ≤ n
    · rw [if_pos h2, if_pos (by omega)]
    · rw [if_neg h2, if_neg (by omega)]
def Bs.insF (f : Nat → Int × Int) (n : Nat) (e : Int × Int) : Nat → Int × Int := Bs.upd (Bs.gapF f n (Bs.insP f e.2 n)) (Bs.insP f e.2 n) e
set_option maxRecDepth 20000 in
set_option maxHeartbeats 3200000 in
theorem qWith_any (f : Nat → Int × Int) (n : Nat) (e0 e1 : Int) (hn : n < 8) (w : World) :
    Calls Try.prog 98 #[.agg (hpA f (n : Int)), .agg #[.int .i64 e0, .int .i64 e1]] w fun e w' => e = .returned (.agg (hpA (Bs.insF f n (e0, e1)) ((n : Int) + 1))) ∧ Below w.heap.size w w' := by
  obtain ⟨PA, hPA⟩ : ∃ PA, PA = hpA f (n : Int) := ⟨_, rfl⟩
  obtain ⟨PB, hPB⟩ : ∃ PB, PB = hpA f ((n : Int) + 1) := ⟨_, rfl⟩
  have hset : PA.setIfInBounds 16 (.int .i64 ((n : Int) + 1)) = PB := by rw [hPA, hPB]; exact hpA_size_set _ _ _
  have e16 : PA[16]? = some (.int .i64 (n : Int)) := by rw [hPA]; exact hpA_n _ _
  have p1 := QB.new w f ((n : Int) + 1)
  rw [← hPB] at p1
  have hz : (.cells (hpA zP 0) 78 : Obj) = .cells #[.int .i64 0, .int .i64 0, .int .i64 0, .int .i64 0, .int .i64 0, .int .i64 0, .int .i64 0, .int .i64 0, .int .i64 0, .int .i64 0, .int .i64 0, .int .i64 0, .int .i64 0, .int .i64 0, .int .i64 0, .int .i64 0, .int .i64 0] 78 := rfl
  have p2 := Blk.new (w.alloc (.cells PB 78)) 75 #[.int .i64 e0, .int .i64 e1]
  have p3 := QB.new ((w.alloc (.cells PB 78)).alloc (.cells #[.int .i64 e0, .int .i64 e1] 75)) zP 0
  have p1' := (p1.alloc (.cells #[.int .i64 e0, .int .i64 e1] 75)).alloc (.cells (hpA zP 0) 78)
  have p2' := p2.alloc (.cells (hpA zP 0) 78)
  have hbl := (((Below.refl w.heap.size w).alloc (Nat.le_refl _) (.cells PB 78)).alloc (by simp) (.cells #[.int .i64 e0, .int .i64 e1] 75)).alloc (by simp; omega) (.cells (hpA zP 0) 78)
  simp only [World.size_alloc] at p2' p3
  rw [hz] at p3 p1' p2' hbl
  have HP := Lib.hid p1'
  have HE := Lib.hid p2'
  have HZ := Lib.hid p3
  have HB := Lib.hid hbl
  rw [← hPA]
  clear p1 p2 p3 p1' p2' hbl hz hPA hPB
  have hw : IntKind.i64.wrap ((n : Int) + 1) = (n : Int) + 1 := IntWalk.i64_in _ ⟨by omega, by omega⟩
  go_enter Try.func98, Try.ntmps98
  go_wp2_with fail
  go_loopw [5] (fun i wr => ∃ (q : Nat), q ≤ n ∧ i = .int .i64 q ∧ Bs.insP f e1 n = Bs.insP f e1 q ∧ QB wr w.heap.size (Bs.gapF f n q) ((n : Int) + 1) ∧ Blk wr (w.heap.size + 1) 75 #[.int .i64 e0, .int .i64 e1] ∧ QB wr (w.heap.size + 1 + 1) zP 0 ∧ Below w.heap.size w wr) (fun i _ => (intOf i).toNat)
  case atStart => exact ⟨n, Nat.le_refl _, rfl, rfl, by rw [Bs.gapF_all]; exact HP.out, HE.out, HZ.out, HB.out⟩
  case round =>
    obtain ⟨q, hq, rfl, hin, hqb, he, hzb, hb⟩ := hrel
    clear HP HE HZ HB hw
    have HIN := Lib.hid hin
    have HQ := Lib.hid hqb
    have HE := Lib.hid he
    have HZ := Lib.hid hzb
    have HB := Lib.hid hb
    have k0 : wr.cell? ⟨w.heap.size + 1, 0, none⟩ = some (.int .i64 e0) := (Blk.cell he 0).trans rfl
    have k1 : wr.cell? ⟨w.heap.size + 1, 1, none⟩ = some (.int .i64 e1) := (Blk.cell he 1).trans rfl
    have FIN : ∀ (W : World), Bs.insP f e1 n = q → QB W w.heap.size (Bs.gapF f n q) ((n : Int) + 1) → QB ((W.setCell ⟨w.heap.size, q * 2, none⟩ (.int .i64 e0)).setCell ⟨w.heap.size, q * 2 + 1, none⟩ (.int .i64 e1)) w.heap.size (Bs.insF f n (e0, e1)) ((n : Int) + 1) := by
      intro W h1 h2
      have := h2.setP (i := q) (by omega) (e0, e1)
      have e2 : Bs.insF f n (e0, e1) = Bs.upd (Bs.gapF f n q) q (e0, e1) := by unfold Bs.insF; rw [show Bs.insP f (e0, e1).2 n = q from h1]
      rw [e2]
      exact this
    have HFIN := Lib.hid FIN
    clear hin hqb he hzb hb FIN
    by_cases hq0 : q = 0
    · subst hq0
      have HI := Lib.hid (show Bs.insP f e1 n = 0 from HIN.out)
      clear HIN
      go_wp2
      go_quiet (fail)
      have HQ1 := Lib.hid (show QB (wr.drewN nq) w.heap.size (Bs.gapF f n 0) ((n : Int) + 1) from HQ.out)
      have HZ1 := Lib.hid (show QB (wr.drewN nq) (w.heap.size + 1 + 1) zP 0 from HZ.out)
      have HB1 := Lib.hid (HB.out.drewN nq)
      have m0 : (wr.drewN nq).cell? ⟨w.heap.size + 1, 0, none⟩ = some (.int .i64 e0) := k0
      have m1 : (wr.drewN nq).cell? ⟨w.heap.size + 1, 1, none⟩ = some (.int .i64 e1) := k1
      generalize wr.drewN nq = W1 at *
      have d0 := HQ1.out.fst (i := 0) (by omega)
      have d1 := HQ1.out.snd (i := 0) (by omega)
      have g0 := HQ1.out.frozen 0
      have g1 := HQ1.out.frozen 1
      have HS := Lib.hid (show QB ((W1.setCell ⟨w.heap.size, 0, none⟩ (.int .i64 e0)).setCell ⟨w.heap.size, 1, none⟩ (.int .i64 e1)) w.heap.size (Bs.insF f n (e0, e1)) ((n : Int) + 1) from HFIN.out W1 HI.out HQ1.out)
      have hne : w.heap.size + 1 + 1 ≠ w.heap.size := by omega
      have HZ2 := Lib.hid ((HZ1.out.far (p := ⟨w.heap.size, 0, none⟩) hne (.int .i64 e0)).far (p := ⟨w.heap.size, 1, none⟩) hne (.int .i64 e1))
      have HB2 := Lib.hid ((HB1.out.setCell (p := ⟨w.heap.size, 0, none⟩) (Nat.le_refl _) (.int .i64 e0)).setCell (p := ⟨w.heap.size, 1, none⟩) (Nat.le_refl _) (.int .i64 e1))
      clear hne
      clear HQ HZ HB k0 k1 HFIN HI HQ1 HZ1 HB1
      go_wp2_with (first
        | (refine q_load rfl _ rfl w.heap.size (Bs.insF f n (e0, e1)) ((n : Int) + 1) rfl HS.out ?_)
        | (refine q_store rfl _ _ rfl (w.heap.size + 1 + 1) zP (Bs.insF f n (e0, e1)) 0 ((n : Int) + 1) rfl rfl HZ2.out ?_; intro w9 h9 o9))
      exact bodyPost_ret (q_ret rfl _ _ (w.heap.size + 1 + 1) (Bs.insF f n (e0, e1)) ((n : Int) + 1) rfl h9) rfl ⟨rfl, HB2.out.trans (o9.below (by omega))⟩
    · obtain ⟨r, rfl⟩ : ∃ r, q = r + 1 := ⟨q - 1, by omega⟩
      have c0 := HQ.out.fst (i := r) (by omega)
      have c1 := HQ.out.snd (i := r) (by omega)
      rw [Bs.gapF_at f (by omega)] at c0 c1
      have i0 : (0 : Int) < (r : Int) + 1 := by omega
      have i1 : (0 : Int) ≤ (r : Int) + 1 := by omega
      have i2 : (r : Int) + 1 < 8 := by omega
      have i3 : (0 : Int) ≤ (r : Int) := by omega
      have i4 : (r : Int) < 8 := by omega
      have hwr : IntKind.i64.wrap (r : Int) = (r : Int) := IntWalk.i64_in _ ⟨by omega, by omega⟩
      have htn : ((r : Int) + 1).toNat = r + 1 := by omega
      obtain ⟨x0, hx0⟩ : ∃ x0, x0 = (f r).1 := ⟨_, rfl⟩
      obtain ⟨x1, hx1⟩ : ∃ x1, x1 = (f r).2 := ⟨_, rfl⟩
      rw [← hx0] at c0
      rw [← hx1] at c1
      have hfr : f r = (x0, x1) := by rw [hx0, hx1]
      have HI0 := Lib.hid (show Bs.insP f e1 (r + 1) = if e1 < x1 then Bs.insP f e1 r else r + 1 from by rw [hx1]; rfl)
      have HGP := Lib.hid (show Bs.upd (Bs.gapF f n (r + 1)) (r + 1) (x0, x1) = Bs.gapF f n r from by rw [← hfr]; exact Bs.gapF_pred f (by omega))
      have HX0 := Lib.hid hx0
      have HX1 := Lib.hid hx1
      clear hx0 hx1 hfr hq0
      by_cases hc : e1 < x1
      · have dd : decide (e1 < x1) = true := by simp [hc]
        have dd2 : decide (x1 > e1) = true := by simp [hc]
        have HI := Lib.hid (show Bs.insP f e1 n = Bs.insP f e1 r from by rw [HIN.out, HI0.out, if_pos hc])
        clear HIN HI0 hc HFIN
        go_wp2
        go_quiet (fail)
        have HQ1 := Lib.hid (show QB (wr.drewN nq) w.heap.size (Bs.gapF f n (r + 1)) ((n : Int) + 1) from HQ.out)
        have HZ1 := Lib.hid (show QB (wr.drewN nq) (w.heap.size + 1 + 1) zP 0 from HZ.out)
        have HB1 := Lib.hid (HB.out.drewN nq)
        have HE1 := Lib.hid (show Blk (wr.drewN nq) (w.heap.size + 1) 75 #[.int .i64 e0, .int .i64 e1] from HE.out)
        have m0 : (wr.drewN nq).cell? ⟨w.heap.size + 1, 0, none⟩ = some (.int .i64 e0) := k0
        have m1 : (wr.drewN nq).cell? ⟨w.heap.size + 1, 1, none⟩ = some (.int .i64 e1) := k1
        generalize wr.drewN nq = W1 at *
        have d0 := HQ1.out.fst (i := r + 1) (by omega)
        have d1 := HQ1.out.snd (i := r + 1) (by omega)
        have g0 := HQ1.out.frozen ((r + 1) * 2)
        have g1 := HQ1.out.frozen ((r + 1) * 2 + 1)
        have hne : w.heap.size + 1 + 1 ≠ w.heap.size := by omega
        have hne1 : w.heap.size + 1 ≠ w.heap.size := by omega
        have b0 := HQ1.out.fst (i := r) (by omega)
        have b1 := HQ1.out.snd (i := r) (by omega)
        rw [Bs.gapF_at f (by omega)] at b0 b1
        rw [← HX0.out] at b0
        rw [← HX1.out] at b1
        have hs := HQ1.out.setP (i := r + 1) (by omega) (x0, x1)
        rw [HGP.out] at hs
        have HS := Lib.hid hs
        have HE2 := Lib.hid (((HE1.out).far (p := ⟨w.heap.size, (r + 1) * 2, none⟩) hne1 (.int .i64 x0)).far (p := ⟨w.heap.size, (r + 1) * 2 + 1, none⟩) hne1 (.int .i64 x1))
        have HZ2 := Lib.hid ((HZ1.out.far (p := ⟨w.heap.size, (r + 1) * 2, none⟩) hne (.int .i64 x0)).far (p := ⟨w.heap.size, (r + 1) * 2 + 1, none⟩) hne (.int .i64 x1))
        have HB2 := Lib.hid ((HB1.out.setCell (p := ⟨w.heap.size, (r + 1) * 2, none⟩) (Nat.le_refl _) (.int .i64 x0)).setCell (p := ⟨w.heap.size, (r + 1) * 2 + 1, none⟩) (Nat.le_refl _) (.int .i64 x1))
        clear hs HQ HZ HB HE k0 k1 HQ1 HZ1 HB1 HE1 HGP hne hne1
        go_wp2
        go_roundw
        case rel => exact ⟨r, by omega, by go_num, HI.out, HS.out, HE2.out, HZ2.out, HB2.out⟩
        case measure => simp [intOf]
      · have dd : decide (e1 < x1) = false := by simp [hc]
        have dd2 : decide (x1 > e1) = false := by simp [hc]
        have HI := Lib.hid (show Bs.insP f e1 n = r + 1 from by rw [HIN.out, HI0.out, if_neg hc])
        clear HIN HI0 hc HGP
        go_wp2
        go_quiet (fail)
        have HQ1 := Lib.hid (show QB (wr.drewN nq) w.heap.size (Bs.gapF f n (r + 1)) ((n : Int) + 1) from HQ.out)
        have HZ1 := Lib.hid (show QB (wr.drewN nq) (w.heap.size + 1 + 1) zP 0 from HZ.out)
        have HB1 := Lib.hid (HB.out.drewN nq)
        have HE1 := Lib.hid (show Blk (wr.drewN nq) (w.heap.size + 1) 75 #[.int .i64 e0, .int .i64 e1] from HE.out)
        have m0 : (wr.drewN nq).cell? ⟨w.heap.size + 1, 0, none⟩ = some (.int .i64 e0) := k0
        have m1 : (wr.drewN nq).cell? ⟨w.heap.size + 1, 1, none⟩ = some (.int .i64 e1) := k1
        generalize wr.drewN nq = W1 at *
        have d0 := HQ1.out.fst (i := r + 1) (by omega)
        have d1 := HQ1.out.snd (i := r + 1) (by omega)
        have g0 := HQ1.out.frozen ((r + 1) * 2)
        have g1 := HQ1.out.frozen ((r + 1) * 2 + 1)
        have hne : w.heap.size + 1 + 1 ≠ w.heap.size := by omega
        have hne1 : w.heap.size + 1 ≠ w.heap.size := by omega
        have HS := Lib.hid (HFIN.out W1 HI.out HQ1.out)
        have HZ2 := Lib.hid ((HZ1.out.far (p := ⟨w.heap.size, (r + 1) * 2, none⟩) hne (.int .i64 e0)).far (p := ⟨w.heap.size, (r + 1) * 2 + 1, none⟩) hne (.int .i64 e1))
        have HB2 := Lib.hid ((HB1.out.setCell (p := ⟨w.heap.size, (r + 1) * 2, none⟩) (Nat.le_refl _) (.int .i64 e0)).setCell (p := ⟨w.heap.size, (r + 1) * 2 + 1, none⟩) (Nat.le_refl _) (.int .i64 e1))
        clear HQ HZ HB HE k0 k1 HQ1 HZ1 HB1 HE1 HFIN HI hne hne1
        go_wp2_with (first
          | (refine q_load rfl _ rfl w.heap.size (Bs.insF f n (e0, e1)) ((n : Int) + 1) rfl HS.out ?_)
          | (refine q_store rfl _ _ rfl (w.heap.size + 1 + 1) zP (Bs.insF f n (e0, e1)) 0 ((n : Int) + 1) rfl rfl HZ2.out ?_; intro w9 h9 o9))
        exact bodyPost_ret (q_ret rfl _ _ (w.heap.size + 1 + 1) (Bs.insF f n (e0, e1)) ((n : Int) + 1) rfl h9) rfl ⟨rfl, HB2.out.trans (o9.below (by omega))⟩
end Go.Proofs.Ytfholjgndpefdaa
