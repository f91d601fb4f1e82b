/-
  WALKS: the heap of ready tasks, of the program: without its first task.
-/
import Derived.Test.YtfholjgndpefdaaW43
namespace Go.Proofs.Ytfholjgndpefdaa
open Go.RowKit
set_option maxHeartbeats 1600000 in
theorem withoutFirst_any (f : Nat → Int × Int) (n : Nat) (hf : ∀ i, i < 8 → 0 ≤ (f i).1 ∧ (f i).1 < 8) (hH : Bs.Heap f (n + 1)) (hn : n < 8) (w : World) :
    Calls Try.prog 120 #[.agg (hpA f ((n : Int) + 1))] w fun e w' => (∃ M, e = .returned (.agg (hpA M n)) ∧ Bs.Heap M n ∧ Bs.Rel n (Bs.upd f 0 (f n)) M ∧ ∀ i, i < 8 → 0 ≤ (M i).1 ∧ (M i).1 < 8) ∧ Below w.heap.size w w' := by
  have htr : 0 ≤ (f n).1 ∧ (f n).1 < 8 := hf n hn
  have kB := ((HB.new w f ((n : Int) + 1)).alloc (.cells (hpA zp 0) 109))
  have kA := kB.n
  have fA := kB.frozen 16
  have kC := ((HB.new w f (n : Int)).alloc (.cells (hpA zp 0) 109))
  have kN := kC.n
  have kT0 := kC.fst hn
  have kT1 := kC.snd hn
  have hz : hpA zp 0 = #[.int .i64 0, .int .i64 0, .int .i64 0, .int .i64 0, .int .i64 0, .int .i64 0, .int .i64 0, .int .i64 0, .int .i64 0, .int .i64 0, .int .i64 0, .int .i64 0, .int .i64 0, .int .i64 0, .int .i64 0, .int .i64 0, .int .i64 0] := rfl
  have hs16 : (hpA f ((n : Int) + 1)).setIfInBounds 16 (.int .i64 (n : Int)) = hpA f n := rfl
  have b1 := kC.alloc (.cells #[.int .i64 (f n).1, .int .i64 (f n).2] 106)
  have b2 := (HB.new (w.alloc (.cells (hpA f n) 109)) zp 0).alloc (.cells #[.int .i64 (f n).1, .int .i64 (f n).2] 106)
  have b3 := Blk.new ((w.alloc (.cells (hpA f n) 109)).alloc (.cells (hpA zp 0) 109)) 106 #[.int .i64 (f n).1, .int .i64 (f n).2]
  rw [show (w.alloc (.cells (hpA f n) 109)).heap.size = w.heap.size + 1 from by simp] at b2
  rw [show ((w.alloc (.cells (hpA f n) 109)).alloc (.cells (hpA zp 0) 109)).heap.size = w.heap.size + 1 + 1 from by simp] at b3
  have hbl : Below w.heap.size w (((w.alloc (.cells (hpA f n) 109)).alloc (.cells (hpA zp 0) 109)).alloc (.cells #[.int .i64 (f n).1, .int .i64 (f n).2] 106)) := (((Below.refl _ _).alloc (Nat.le_refl _) _).alloc (by simp) _).alloc (by simp; omega) _
  have HB1 := Lib.hid b1
  have HB2 := Lib.hid b2
  have HB3 := Lib.hid b3
  have HBL := Lib.hid hbl
  rw [hz] at kA fA kN kT0 kT1
  have C0 := Lib.hid (fun W => below_any f n 0 hf (by omega) (by omega) W)
  clear kB kC b1 b2 b3 hbl
  have n0 : (0 : Int) ≤ (n : Int) := by omega
  have n8 : (n : Int) < 8 := by omega
  have en : (n : Int) + 1 - 1 = (n : Int) := by omega
  go_enter Try.func120, Try.ntmps120
  go_wp2_with (first | (refine hp_load rfl _ rfl w.heap.size f (n : Int) rfl HB1.out ?_))
  refine (C0.out _).mono ?_
  rintro e w2 ⟨rfl, hb2⟩
  have h1 := HB1.out.below hb2 (by exact HB1.out.lt)
  have h2 := HB2.out.below hb2 (by exact HB2.out.lt)
  have h3 := HB3.out.below hb2 (by exact HB3.out.lt)
  have hb0 := HBL.out.trans (hb2.mono HBL.out.size)
  have H1 := Lib.hid h1
  have H2 := Lib.hid h2
  have H3 := Lib.hid h3
  have H0 := Lib.hid hb0
  clear h1 h2 h3 hb0 hb2 kA fA kN kT0 kT1 hz hs16 HB1 HB2 HB3 HBL C0
  go_wp2
  go_loopw [4, 5] (fun ip ic wr => ∃ (p : Nat) (f' : Nat → Int × Int), ip = .int .i64 p ∧ ic = .int .i64 (Bs.bel f' n p : Nat) ∧ HB wr w.heap.size f' n ∧ HB wr (w.heap.size + 1) zp 0 ∧ Blk wr (w.heap.size + 1 + 1) 106 #[.int .i64 (f n).1, .int .i64 (f n).2] ∧ Below w.heap.size w wr ∧ Bs.Dn f' n p (f n) ∧ Bs.Rel n (Bs.upd f 0 (f n)) (Bs.upd f' p (f n)) ∧ (∀ i, i < 8 → 0 ≤ (f' i).1 ∧ (f' i).1 < 8) ∧ (p < n ∨ p = 0)) (fun ip _ _ => 8 - (intOf ip).toNat)
  case atStart => exact ⟨0, f, rfl, rfl, H1.out, H2.out, H3.out, H0.out, Bs.Dn.start hH (f n), Bs.Rel.refl _ _, hf, .inr rfl⟩
  case round =>
    obtain ⟨p, f', rfl, rfl, h1, h2, h3, hb, hdn, hrel, hf', hp⟩ := hrel
    clear H1 H2 H3 H0
    have hp8 : p < 8 := by omega
    obtain ⟨c, hc⟩ : ∃ c, c = Bs.bel f' n p := ⟨_, rfl⟩
    rw [← hc]
    have hcp := Bs.bel_par f' n p
    have hcs := Bs.bel_cases f' n p
    have hdone := hdn.done
    have hgo := hdn.go
    have hswap := fun hpn hcn hne => hrel.swap (Bs.Dn.swap (f := f') (t := f n) (p := p) (c := c) hpn hcn hne)
    rw [← hc] at hcp hcs hdone hgo
    have HD := Lib.hid hdone
    have HG := Lib.hid hgo
    have HSW := Lib.hid hswap
    have HR := Lib.hid hrel
    have HF := Lib.hid hf'
    have H1 := Lib.hid h1
    have H2 := Lib.hid h2
    have H3 := Lib.hid h3
    have H0 := Lib.hid hb
    have k16 := h1.n
    have j0 : wr.cell? ⟨w.heap.size + 1 + 1, 0, none⟩ = some (.int .i64 (f n).1) := h3.cell 0
    have j1 : wr.cell? ⟨w.heap.size + 1 + 1, 1, none⟩ = some (.int .i64 (f n).2) := h3.cell 1
    have sb1 := h1.lt
    have sb2 := h2.lt
    have sb3 := h3.lt
    have sr := hb.size
    have p0 : (0 : Int) ≤ (p : Int) := by omega
    have p8 : (p : Int) < 8 := by omega
    by_cases hcn : c < n
    · have hc8 : c < 8 := by omega
      have kq0 := h1.fst hc8
      have kq1 := h1.snd hc8
      have c1 := fun W => takenBefore_any (f' c) (f n) (hf' c hc8) htr W
      have i0 : (0 : Int) ≤ (c : Int) := by omega
      have i1 : (c : Int) < 8 := by omega
      have i2 : (c : Int) < (n : Int) := by omega
      clear h1 h2 h3 hb hdn hrel hf' hdone hgo hswap
      have hce := Lib.hid hc
      clear hc
      cases hk : decide (Bs.keyP (f' c) < Bs.keyP (f n))
      · rw [hk] at c1
        have C1 := Lib.hid c1
        have HK := Lib.hid hk
        clear c1 hk
        go_wp2_with fail
        go_region_held3 (fun w' => w'.cell? ⟨w.heap.size, 16, none⟩ = some (.int .i64 (n : Int)) ∧ w'.cell? ⟨w.heap.size, c * 2, none⟩ = some (.int .i64 (f' c).1) ∧ w'.cell? ⟨w.heap.size, c * 2 + 1, none⟩ = some (.int .i64 (f' c).2) ∧ w'.cell? ⟨w.heap.size + 1 + 1, 0, none⟩ = some (.int .i64 (f n).1) ∧ w'.cell? ⟨w.heap.size + 1 + 1, 1, none⟩ = some (.int .i64 (f n).2))
          (first | go_keep | (go_split_ands; refine ⟨?_, ?_, ?_, ?_, ?_⟩; (exact (hb5.cell (p := ⟨w.heap.size, 16, none⟩) sb1).trans k16); (exact (hb5.cell (p := ⟨w.heap.size, c * 2, none⟩) sb1).trans kq0); (exact (hb5.cell (p := ⟨w.heap.size, c * 2 + 1, none⟩) sb1).trans kq1); (exact (hb5.cell (p := ⟨w.heap.size + 1 + 1, 0, none⟩) sb3).trans j0); (exact (hb5.cell (p := ⟨w.heap.size + 1 + 1, 1, none⟩) sb3).trans j1)))
          (first | (go_at_call 125; (with_reducible refine (C1.out _).mono ?_); rintro e w5 ⟨rfl, hb5⟩))
        have HB5 := Lib.hid (((Below.refl _ wr).drewN 1).trans hb5)
        clear hb5 kq0 kq1 k16
        have h1' := H1.out.below HB5.out sb1
        have m0 := h1'.fst hp8
        have m1 := h1'.snd hp8
        have g0 := h1'.frozen (p * 2)
        have g1 := h1'.frozen (p * 2 + 1)
        have j0 := (HB5.out.cell (p := ⟨w.heap.size + 1 + 1, 0, none⟩) sb3).trans j0
        have j1 := (HB5.out.cell (p := ⟨w.heap.size + 1 + 1, 1, none⟩) sb3).trans j1
        have HP := Lib.hid (h1'.setP hp8 (f n))
        have HZ := Lib.hid (((H2.out.below HB5.out sb2).far (p := ⟨w.heap.size, p * 2, none⟩) (by show _ ≠ w.heap.size; omega) (.int .i64 (f n).1)).far (p := ⟨w.heap.size, p * 2 + 1, none⟩) (by show _ ≠ w.heap.size; omega) (.int .i64 (f n).2))
        have HS := Lib.hid (((H0.out.trans (HB5.out.mono sr)).setCell (p := ⟨w.heap.size, p * 2, none⟩) (Nat.le_refl _) (.int .i64 (f n).1)).setCell (p := ⟨w.heap.size, p * 2 + 1, none⟩) (Nat.le_refl _) (.int .i64 (f n).2))
        clear h1' H1 H2 H3
        go_wp2_with (first | (refine hp_load rfl _ rfl w.heap.size (Bs.upd f' p (f n)) (n : Int) rfl HP.out ?_) | (refine hp_store rfl _ _ rfl (w.heap.size + 1) zp (Bs.upd f' p (f n)) 0 (n : Int) rfl rfl HZ.out ?_; intro w9 h9 o9))
        refine bodyPost_ret (hp_ret rfl _ _ (w.heap.size + 1) (Bs.upd f' p (f n)) (n : Int) rfl h9) rfl ⟨⟨_, rfl, HD.out ?_, HR.out, upd_in HF.out htr⟩, HS.out.trans (o9.below (by omega))⟩
        exact fun h => by
          have := HK.out
          rw [decide_eq_false_iff_not] at this
          exact this h.2
      · rw [hk] at c1
        have C1 := Lib.hid c1
        have HK := Lib.hid (of_decide_eq_true hk)
        clear c1 hk
        go_wp2_with fail
        go_region_held3 (fun w' => w'.cell? ⟨w.heap.size, 16, none⟩ = some (.int .i64 (n : Int)) ∧ w'.cell? ⟨w.heap.size, c * 2, none⟩ = some (.int .i64 (f' c).1) ∧ w'.cell? ⟨w.heap.size, c * 2 + 1, none⟩ = some (.int .i64 (f' c).2) ∧ w'.cell? ⟨w.heap.size + 1 + 1, 0, none⟩ = some (.int .i64 (f n).1) ∧ w'.cell? ⟨w.heap.size + 1 + 1, 1, none⟩ = some (.int .i64 (f n).2))
          (first | go_keep | (go_split_ands; refine ⟨?_, ?_, ?_, ?_, ?_⟩; (exact (hb5.cell (p := ⟨w.heap.size, 16, none⟩) sb1).trans k16); (exact (hb5.cell (p := ⟨w.heap.size, c * 2, none⟩) sb1).trans kq0); (exact (hb5.cell (p := ⟨w.heap.size, c * 2 + 1, none⟩) sb1).trans kq1); (exact (hb5.cell (p := ⟨w.heap.size + 1 + 1, 0, none⟩) sb3).trans j0); (exact (hb5.cell (p := ⟨w.heap.size + 1 + 1, 1, none⟩) sb3).trans j1)))
          (first | (go_at_call 125; (with_reducible refine (C1.out _).mono ?_); rintro e w5 ⟨rfl, hb5⟩))
        have HB5 := Lib.hid (((Below.refl _ wr).drewN 1).trans hb5)
        have h1' := H1.out.below HB5.out sb1
        have kq0 := h1'.fst hc8
        have kq1 := h1'.snd hc8
        have m0 := h1'.fst hp8
        have m1 := h1'.snd hp8
        have g0 := h1'.frozen (p * 2)
        have g1 := h1'.frozen (p * 2 + 1)
        have hP := h1'.setP hp8 (f' c)
        have hQ := ((((H3.out.below HB5.out sb3).far (p := ⟨w.heap.size, p * 2, none⟩) (by show _ ≠ w.heap.size; omega) (.int .i64 (f' c).1)).far (p := ⟨w.heap.size, p * 2 + 1, none⟩) (by show _ ≠ w.heap.size; omega) (.int .i64 (f' c).2)))
        have hZ := (((H2.out.below HB5.out sb2).far (p := ⟨w.heap.size, p * 2, none⟩) (by show _ ≠ w.heap.size; omega) (.int .i64 (f' c).1)).far (p := ⟨w.heap.size, p * 2 + 1, none⟩) (by show _ ≠ w.heap.size; omega) (.int .i64 (f' c).2))
        have hS := (((H0.out.trans (HB5.out.mono sr)).setCell (p := ⟨w.heap.size, p * 2, none⟩) (Nat.le_refl _) (.int .i64 (f' c).1)).setCell (p := ⟨w.heap.size, p * 2 + 1, none⟩) (Nat.le_refl _) (.int .i64 (f' c).2))
        have HP := Lib.hid hP
        have HQ := Lib.hid hQ
        have HZ := Lib.hid hZ
        have HS := Lib.hid hS
        have hin := upd_in HF.out (HF.out c hc8) (p := p)
        have C2 := Lib.hid (fun W => below_any (Bs.upd f' p (f' c)) n c hin (by omega) (by omega) W)
        have HIN := Lib.hid hin
        clear h1' H1 H2 H3 hb5 k16 hin hP hQ hZ hS
        go_wp2_with (first | (refine hp_load rfl _ rfl w.heap.size (Bs.upd f' p (f' c)) (n : Int) rfl HP.out ?_))
        refine (C2.out _).mono ?_
        rintro e w6 ⟨rfl, hb6⟩
        have HP6 := Lib.hid (HP.out.below hb6 HP.out.lt)
        have HQ6 := Lib.hid (HQ.out.below hb6 HQ.out.lt)
        have HZ6 := Lib.hid (HZ.out.below hb6 HZ.out.lt)
        have HS6 := Lib.hid (HS.out.trans (hb6.mono HS.out.size))
        clear hb6 HP HQ HZ HS kq0 kq1 m0 m1 g0 g1
        go_wp2
        go_roundw
        case rel => exact ⟨c, Bs.upd f' p (f' c), rfl, rfl, HP6.out, HZ6.out, HQ6.out, HS6.out, HG.out hcn HK.out, HSW.out (by omega) hcn (by omega), HIN.out, .inl hcn⟩
        case measure => simp [intOf]; omega
    · have i2 : decide ((c : Int) < (n : Int)) = false := by simp; omega
      have hce := Lib.hid hc
      clear h1 h2 h3 hb hdn hrel hf' hdone hgo hswap hc
      go_wp2_with fail
      go_quiet (fail)
      have HB5 := Lib.hid ((Below.refl wr.heap.size wr).drewN nq)
      clear k16
      have h1' := H1.out.below HB5.out sb1
      have m0 := h1'.fst hp8
      have m1 := h1'.snd hp8
      have g0 := h1'.frozen (p * 2)
      have g1 := h1'.frozen (p * 2 + 1)
      have j0 := (HB5.out.cell (p := ⟨w.heap.size + 1 + 1, 0, none⟩) sb3).trans j0
      have j1 := (HB5.out.cell (p := ⟨w.heap.size + 1 + 1, 1, none⟩) sb3).trans j1
      have HP := Lib.hid (h1'.setP hp8 (f n))
      have HZ := Lib.hid (((H2.out.below HB5.out sb2).far (p := ⟨w.heap.size, p * 2, none⟩) (by show _ ≠ w.heap.size; omega) (.int .i64 (f n).1)).far (p := ⟨w.heap.size, p * 2 + 1, none⟩) (by show _ ≠ w.heap.size; omega) (.int .i64 (f n).2))
      have HS := Lib.hid (((H0.out.trans (HB5.out.mono sr)).setCell (p := ⟨w.heap.size, p * 2, none⟩) (Nat.le_refl _) (.int .i64 (f n).1)).setCell (p := ⟨w.heap.size, p * 2 + 1, none⟩) (Nat.le_refl _) (.int .i64 (f n).2))
      clear h1' H1 H2 H3
      go_wp2_with (first | (refine hp_load rfl _ rfl w.heap.size (Bs.upd f' p (f n)) (n : Int) rfl HP.out ?_) | (refine hp_store rfl _ _ rfl (w.heap.size + 1) zp (Bs.upd f' p (f n)) 0 (n : Int) rfl rfl HZ.out ?_; intro w9 h9 o9))
      refine bodyPost_ret (hp_ret rfl _ _ (w.heap.size + 1) (Bs.upd f' p (f n)) (n : Int) rfl h9) rfl ⟨⟨_, rfl, HD.out ?_, HR.out, upd_in HF.out htr⟩, HS.out.trans (o9.below (by omega))⟩
      exact fun h => hcn h.1
end Go.Proofs.Ytfholjgndpefdaa
