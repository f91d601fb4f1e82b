/-
  WALKS: what is admitted, of the program: the whole function.
-/
import Derived.Test.YtjahmejmkijkaaaW39
namespace Go.Proofs.Ytjahmejmkijkaaa
open Go.RowKit
theorem OI.far {w : World} {B : Nat} {A : Option Addr} {c : Nat} {l : List Int} (h : OI w B A c l) {p : Addr} (hp : p.block < B) (u : Value) : OI (w.setCell p u) B A c l := by
  refine ⟨h.1, ?_⟩
  rcases h.2 with hn | ⟨g, cap, cur, hv, h1, hg, rest⟩
  · exact .inl hn
  · exact .inr ⟨g, cap, cur, hv, h1, by rw [heap_setCell_other w p g u (by omega)]; exact hg, rest⟩
theorem adm_in {g : List Bs.T} {m r l : List Int} {wk : Int} (hr : ∀ x ∈ r, 0 ≤ x ∧ x < g.length) (hl : ∀ x ∈ l, 0 ≤ x ∧ x < g.length) (k : Nat) (hk : k ≤ l.length) : ∀ x ∈ r ++ Bs.admK g m r wk l k, 0 ≤ x ∧ x < g.length := by
  intro x hx
  rw [List.mem_append] at hx
  rcases hx with h | h
  · exact hr x h
  · exact hl x (List.mem_of_mem_take (Bs.adm_mem k hk x h))
theorem adm_units {g : List Bs.T} {m r l : List Int} {wk : Int} (hF : Bs.fine g = true) (hr : ∀ x ∈ r, 0 ≤ x ∧ x < g.length) (hl : ∀ x ∈ l, 0 ≤ x ∧ x < g.length) (hrl : r.length ≤ 8) (hll : l.length ≤ 8) (p : Int) (k : Nat) (hk : k ≤ l.length) : 0 ≤ Bs.usedC g (r ++ Bs.admK g m r wk l k) p ∧ Bs.usedC g (r ++ Bs.admK g m r wk l k) p ≤ 64 := by
  have h1 := used_bound hF (adm_in (m := m) (wk := wk) hr hl k hk) p _ (Nat.le_refl _)
  rw [List.take_length] at h1
  have h2 := Bs.admK_len g m r wk l k hk
  rw [List.length_append] at h1
  omega
theorem adm_next {g : List Bs.T} {r o : List Int} {v : Nat} (hv : v < g.length) (p : Int) : addIf g[v].pool p g[v].units (Bs.usedC g (r ++ o) p) = Bs.usedC g (r ++ (o ++ [(v : Int)])) p := by
  rw [unit_add hv, ← List.append_assoc, Bs.usedC_append g (r ++ o), Bs.usedC_one]
set_option maxHeartbeats 6400000 in
theorem AdmitTasks_loop (A : Option Addr) (c : Nat) (g : List Bs.T) (A1 : Option Addr) (c1 : Nat) (m : List Int) (A2 : Option Addr) (c2 : Nat) (r : List Int) (A3 : Option Addr) (c3 : Nat) (l : List Int) (wk : Int) (lo hi l1 h1 l2 h2 l3 h3 : Nat) (w : World) (h : RG w lo hi A g) (hh : hi ≤ w.heap.size) (hm : RI w l1 h1 A1 m) (hh1 : h1 ≤ w.heap.size) (h' : RI w l2 h2 A2 r) (hh2 : h2 ≤ w.heap.size) (h'' : RI w l3 h3 A3 l) (hh3 : h3 ≤ w.heap.size) (hl : g.length ≤ 9223372036854775807) (hml : m.length ≤ 9223372036854775807) (hr : r.length ≤ 9223372036854775807) (hll : l.length ≤ 9223372036854775807) (hok : Bs.admV g m r l wk = true) :
    Calls Try.prog 79 #[.slice A g.length c, .slice A1 m.length c1, .slice A2 r.length c2, .slice A3 l.length c3, .int .i64 wk] w (RetI w (Bs.admC g m r wk l)) := by
  obtain ⟨hrun, hwk, hin, hid⟩ := Bs.admV_iff.1 hok
  have hrun0 := hrun
  unfold Bs.runOk at hrun
  simp only [Bool.and_eq_true] at hrun
  obtain ⟨⟨⟨hv, hroom⟩, hig⟩, hfit⟩ := hrun
  have hF := valid_fine hv
  have h8 := Bs.fine_len hF
  have hrl := Bs.inG_len hig
  have hrr := Bs.inG_mem hig
  have hlr : ∀ x ∈ l, 0 ≤ x ∧ x < g.length := fun x hx => by have := Bs.allInB_mem hin hx; omega
  have hdist : Bs.Dist g.length l := ⟨by have := (Bs.idle_nodup l.length (Nat.le_refl _) hid).1; rwa [List.take_length] at this, hlr⟩
  have hl8 := hdist.le
  have hm3 := Bs.roomOk_len hroom
  have q1 := RunsTogether_any A c g A1 c1 m A2 c2 r lo hi l1 h1 l2 h2 w h hh hm hh1 h' hh2 hl hml hr
  rw [hrun0] at q1
  have q2 := fun W => validWorkers_any wk W
  rw [show decide (1 ≤ wk ∧ wk ≤ 4) = true from by simpa using hwk] at q2
  have q3 := fun W (hb : Below w.heap.size w W) => idleTasks_any A g.length c A2 c2 r A3 c3 l l2 h2 l3 h3 W (h'.below hb hh2) (h''.below hb hh3) h8 hrr (by omega) hll
  rw [hin, hid] at q3
  have q4 := fun W (hb : Below w.heap.size w W) => countUnits_any A c g A2 c2 r lo hi l2 h2 W (h.below hb hh) (Nat.le_trans hh hb.size) (h'.below hb hh2) (Nat.le_trans hh2 hb.size) hF hrr (by omega)
  unfold pcV at q4
  obtain ⟨z0, hz0⟩ : ∃ z, Bs.usedC g r 0 = z := ⟨_, rfl⟩
  obtain ⟨z1, hz1⟩ : ∃ z, Bs.usedC g r 1 = z := ⟨_, rfl⟩
  obtain ⟨z2, hz2⟩ : ∃ z, Bs.usedC g r 2 = z := ⟨_, rfl⟩
  rw [hz0, hz1, hz2] at q4
  have C1 := Lib.hid q1
  have C2 := Lib.hid q2
  have C3 := Lib.hid q3
  have C4 := Lib.hid q4
  have C5 := Lib.hid (fun (x0 x1 x2 n : Int) W (hb : Below w.heap.size w W) => fits_any x0 x1 x2 n A1 c1 m l1 h1 W (hm.below hb hh1) (Nat.le_trans hh1 hb.size) hm3)
  have HG := Lib.hid h
  have HL := Lib.hid h''
  have HLR := Lib.hid hlr
  have HT := Lib.hid (fun i hi => Bs.fine_task hF (i := i) hi)
  have HAU := Lib.hid (fun p k hk => adm_units (m := m) (wk := wk) hF hrr hlr (by omega) (by omega) p k hk)
  have HAL := Lib.hid (fun k hk => Bs.admK_len g m r wk l k hk)
  have HU0 := Lib.hid (show z0 = Bs.usedC g (r ++ Bs.admK g m r wk l 0) 0 from by rw [Bs.admK_zero, List.append_nil, hz0])
  have HU1 := Lib.hid (show z1 = Bs.usedC g (r ++ Bs.admK g m r wk l 0) 1 from by rw [Bs.admK_zero, List.append_nil, hz1])
  have HU2 := Lib.hid (show z2 = Bs.usedC g (r ++ Bs.admK g m r wk l 0) 2 from by rw [Bs.admK_zero, List.append_nil, hz2])
  clear hz0 hz1 hz2 hm3 q1 q2 q3 q4 hok hrun0 hin hid hv hroom hig hfit hF hrr hlr hdist h hm h' h''
  go_enter Try.func79, Try.ntmps79
  go_wp2_with fail
  with_reducible refine (C1.out).mono ?_
  rintro e w1 ⟨rfl, hb⟩
  have HB := Lib.hid hb
  have s1 := hb.size
  clear hb
  go_wp2_with fail
  with_reducible refine (C2.out _).mono ?_
  rintro e w2 ⟨rfl, rfl⟩
  go_wp2_with fail
  with_reducible refine (C3.out _ HB.out).mono ?_
  rintro e w2 ⟨rfl, rfl⟩
  go_wp2_with fail
  with_reducible refine (C4.out _ HB.out).mono ?_
  rintro e w2 ⟨rfl, hb2⟩
  have HB2 := Lib.hid (HB.out.trans (hb2.mono s1))
  have s2 := HB2.out.size
  have hB0 := Blk.new w2 107 #[.int .i64 z0, .int .i64 z1, .int .i64 z2, .int .i64 (r.length : Int)]
  have HB0 := Lib.hid (hB0.alloc (.cells #[] 3))
  have HO0 := Lib.hid (show OI ((w2.alloc (.cells #[.int .i64 z0, .int .i64 z1, .int .i64 z2, .int .i64 (r.length : Int)] 107)).alloc (.cells #[] 3)) (w2.heap.size + 1) (some ⟨w2.heap.size + 1, 0, none⟩) 0 [] from by
    have := OI.new (w2.alloc (.cells #[.int .i64 z0, .int .i64 z1, .int .i64 z2, .int .i64 (r.length : Int)] 107)) (w2.heap.size + 1) (by simp)
    simpa using this)
  have HBL0 := Lib.hid ((HB2.out.alloc s2 (.cells #[.int .i64 z0, .int .i64 z1, .int .i64 z2, .int .i64 (r.length : Int)] 107)).alloc (by simp; omega) (.cells #[] 3))
  clear hb2 C1 C2 C3 C4 hB0
  go_wp2
  go_loopw [12, 39] (fun v i wr => ∃ (k : Nat) (A4 : Option Addr) (c4 : Nat) (o : List Int) (x0 x1 x2 : Int), k ≤ l.length ∧ i = .int .i64 k ∧ o = Bs.admK g m r wk l k ∧ v = .slice A4 o.length c4 ∧ x0 = Bs.usedC g (r ++ o) 0 ∧ x1 = Bs.usedC g (r ++ o) 1 ∧ x2 = Bs.usedC g (r ++ o) 2 ∧ Blk wr w2.heap.size 107 #[.int .i64 x0, .int .i64 x1, .int .i64 x2, .int .i64 ((r.length : Int) + (o.length : Int))] ∧ OI wr (w2.heap.size + 1) A4 c4 o ∧ w2.heap.size + 1 ≤ wr.heap.size ∧ Below w.heap.size w wr) (fun _ i _ => l.length - (intOf i).toNat)
  case atStart => exact ⟨0, _, _, [], z0, z1, z2, Nat.zero_le _, rfl, rfl, rfl, HU0.out, HU1.out, HU2.out, by simpa using HB0.out, HO0.out, by simp, HBL0.out⟩
  case round =>
    obtain ⟨k, A4, c4, o, x0, x1, x2, hk, rfl, ho, rfl, h0, h1, h2, hB, hO, hsz, hb⟩ := hrel
    have g0 := HAU.out 0 k hk
    have g1 := HAU.out 1 k hk
    have g2 := HAU.out 2 k hk
    have gl := HAL.out k hk
    rw [← ho] at g0 g1 g2 gl
    rw [← h0] at g0
    rw [← h1] at g1
    rw [← h2] at g2
    have sr := hb.size
    have sb := hB.lt
    by_cases hlt : k < l.length
    · obtain ⟨b, ob, rfl, _, _, hc⟩ := (HL.out.below hb hh3).at_ hlt
      have hx := HLR.out _ (List.getElem_mem hlt)
      have HYES := Lib.hid (fun h => Bs.admK_yes (g := g) (m := m) (r := r) (wk := wk) hlt h)
      have HNO := Lib.hid (fun h => Bs.admK_no (g := g) (m := m) (r := r) (wk := wk) hlt h)
      obtain ⟨v, hv⟩ : ∃ v : Nat, l[k] = (v : Int) := ⟨l[k].toNat, by omega⟩
      rw [hv] at hc hx HYES HNO
      have hvl : v < g.length := by omega
      have t0 := adm_next (r := r) (o := o) hvl 0
      have t1 := adm_next (r := r) (o := o) hvl 1
      have t2 := adm_next (r := r) (o := o) hvl 2
      rw [← h0] at t0
      rw [← h1] at t1
      rw [← h2] at t2
      have hu := HT.out v hvl
      obtain ⟨bg, og, N, cN, rfl, _, hgh, q0, q1, q2, q3, hlN, hcN, hN⟩ := (HG.out.below hb hh) v hvl
      have c1 := fun W => pcWith_any x0 x1 x2 ((r.length : Int) + (o.length : Int)) g[v].time g[v].pool g[v].units N g[v].needs.length cN W hu.1 hu.2.1 (by omega) (by omega) (by omega) (by omega) (by omega)
      unfold pcV at c1
      have C1 := Lib.hid c1
      have k0 : wr.cell? ⟨w2.heap.size, 0, none⟩ = some (.int .i64 x0) := hB.cell 0
      have k1 : wr.cell? ⟨w2.heap.size, 1, none⟩ = some (.int .i64 x1) := hB.cell 1
      have k2 : wr.cell? ⟨w2.heap.size, 2, none⟩ = some (.int .i64 x2) := hB.cell 2
      have k3 : wr.cell? ⟨w2.heap.size, 3, none⟩ = some (.int .i64 ((r.length : Int) + (o.length : Int))) := hB.cell 3
      have H4 := Lib.hid hB
      have HO := Lib.hid hO
      have HB := Lib.hid hb
      have T0 := Lib.hid t0
      have T1 := Lib.hid t1
      have T2 := Lib.hid t2
      have HX := Lib.hid (And.intro ho (And.intro h0 (And.intro h1 h2)))
      have i0 : (0 : Int) ≤ (v : Int) := by omega
      have i1 : (v : Int) < (g.length : Int) := by omega
      have hbw : bg < wr.heap.size := by omega
      clear c1 hB hO hb t0 t1 t2 h0 h1 h2 ho hN hv
      generalize addIf g[v].pool 0 g[v].units x0 = y0 at *
      generalize addIf g[v].pool 1 g[v].units x1 = y1 at *
      generalize addIf g[v].pool 2 g[v].units x2 = y2 at *
      go_wp2_with fail
      go_region_law (go_simp; go_loud (go_at_call 102; (with_reducible refine (C1.out _).mono ?_); rintro e w5 ⟨rfl, hb5⟩; first
        | (have HB5 : Hid (Below wr.heap.size wr w5) := Lib.hid (((Below.refl _ wr).drewN 1).trans hb5); clear hb5)
        | (have HB5 : Hid (Below wr.heap.size wr w5) := Lib.hid ((((Below.refl _ wr).drewN 1).alloc (Nat.le_refl _) _).trans (hb5.mono (show wr.heap.size ≤ (wr.drew.alloc (.cells #[.int .i64 0, .int .i64 0, .int .i64 0, .int .i64 0] 107)).heap.size from by rw [World.size_alloc]; exact Nat.le_succ _)))
           have hN5 : Blk w5 wr.heap.size 107 #[.int .i64 0, .int .i64 0, .int .i64 0, .int .i64 0] := (Blk.new wr.drew 107 #[.int .i64 0, .int .i64 0, .int .i64 0, .int .i64 0]).below hb5 (show wr.heap.size < (wr.drew.alloc (.cells #[.int .i64 0, .int .i64 0, .int .i64 0, .int .i64 0] 107)).heap.size from by rw [World.size_alloc]; exact Nat.lt_succ_self _)
           have e0 : w5.cell? ⟨wr.heap.size, 0, none⟩ = some (.int .i64 0) := hN5.cell 0
           have e1 : w5.cell? ⟨wr.heap.size, 1, none⟩ = some (.int .i64 0) := hN5.cell 1
           have e2 : w5.cell? ⟨wr.heap.size, 2, none⟩ = some (.int .i64 0) := hN5.cell 2
           have e3 : w5.cell? ⟨wr.heap.size, 3, none⟩ = some (.int .i64 0) := hN5.cell 3
           have e4 : w5.frozen? ⟨wr.heap.size, 0, none⟩ = false := hN5.frozen 0
           have e5 : w5.frozen? ⟨wr.heap.size, 1, none⟩ = false := hN5.frozen 1
           have e6 : w5.frozen? ⟨wr.heap.size, 2, none⟩ = false := hN5.frozen 2
           have e7 : w5.frozen? ⟨wr.heap.size, 3, none⟩ = false := hN5.frozen 3
           have HN5 := Lib.hid hN5
           clear hb5 hN5)))
      all_goals first
        | (have hP := pc_block HN5.out (.int .i64 y0) (.int .i64 y1) (.int .i64 y2) (.int .i64 ((r.length : Int) + (o.length : Int) + 1))
           have hT := (((HB5.out.setCell (p := ⟨wr.heap.size, 0, none⟩) (Nat.le_refl _) (.int .i64 y0)).setCell (p := ⟨wr.heap.size, 1, none⟩) (Nat.le_refl _) (.int .i64 y1)).setCell (p := ⟨wr.heap.size, 2, none⟩) (Nat.le_refl _) (.int .i64 y2)).setCell (p := ⟨wr.heap.size, 3, none⟩) (Nat.le_refl _) (.int .i64 ((r.length : Int) + (o.length : Int) + 1))
           have hQ := H4.out.below hT sb
           have hR := HO.out.below hT (Nat.le_refl _)
           have hS := HB.out.trans (hT.mono sr)
           have hz := hT.size
           have hn := hsz
           have HP := Lib.hid hP
           have HQ := Lib.hid hQ
           have HR := Lib.hid hR
           have HS := Lib.hid hS
           clear e0 e1 e2 e3 e4 e5 e6 e7 k0 k1 k2 k3 q0 q1 q2 q3 hc HN5 HB5 HB H4 HO hP hQ hR hS hT
           generalize (((w5.setCell ⟨wr.heap.size, 0, none⟩ (.int .i64 y0)).setCell ⟨wr.heap.size, 1, none⟩ (.int .i64 y1)).setCell ⟨wr.heap.size, 2, none⟩ (.int .i64 y2)).setCell ⟨wr.heap.size, 3, none⟩ (.int .i64 ((r.length : Int) + (o.length : Int) + 1)) = W6 at *
           have hz : w2.heap.size + 1 ≤ W6.heap.size := Nat.le_trans hsz hz
           generalize wr.heap.size = nb at *)
        | (have hP := Blk.new w5 107 #[.int .i64 y0, .int .i64 y1, .int .i64 y2, .int .i64 ((r.length : Int) + (o.length : Int) + 1)]
           have hT := HB5.out.alloc HB5.out.size (.cells #[.int .i64 y0, .int .i64 y1, .int .i64 y2, .int .i64 ((r.length : Int) + (o.length : Int) + 1)] 107)
           have hQ := H4.out.below hT sb
           have hR := HO.out.below hT (Nat.le_refl _)
           have hS := HB.out.trans (hT.mono sr)
           have hz := hT.size
           have hn := Nat.le_trans hsz HB5.out.size
           have HP := Lib.hid hP
           have HQ := Lib.hid hQ
           have HR := Lib.hid hR
           have HS := Lib.hid hS
           clear k0 k1 k2 k3 q0 q1 q2 q3 hc HB5 HB H4 HO hP hQ hR hS hT
           generalize w5.alloc (.cells #[.int .i64 y0, .int .i64 y1, .int .i64 y2, .int .i64 ((r.length : Int) + (o.length : Int) + 1)] 107) = W6 at *
           have hz : w2.heap.size + 1 ≤ W6.heap.size := Nat.le_trans hsz hz
           generalize w5.heap.size = nb at *)
      all_goals
        have hok : Bs.admOk g m r wk o v = (decide ((r.length : Int) + (o.length : Int) < wk) && fit3 y0 y1 y2 m) := by
          unfold Bs.admOk
          rw [fits_eq, ← T0.out, ← T1.out, ← T2.out]
        have k0 : W6.cell? ⟨nb, 0, none⟩ = some (.int .i64 y0) := HP.out.cell 0
        have k1 : W6.cell? ⟨nb, 1, none⟩ = some (.int .i64 y1) := HP.out.cell 1
        have k2 : W6.cell? ⟨nb, 2, none⟩ = some (.int .i64 y2) := HP.out.cell 2
        have k3 : W6.cell? ⟨nb, 3, none⟩ = some (.int .i64 ((r.length : Int) + (o.length : Int) + 1)) := HP.out.cell 3
        by_cases hcnt : (r.length : Int) + (o.length : Int) + 1 ≤ wk
        · have C6 := Lib.hid (C5.out y0 y1 y2 ((r.length : Int) + (o.length : Int) + 1) W6 HS.out)
          rw [show decide ((r.length : Int) + (o.length : Int) < wk) = true from by simp; omega, Bool.true_and] at hok
          cases hfit : fit3 y0 y1 y2 m
          · rw [hfit] at C6 hok
            have hno := HNO.out (by rw [← HX.out.1]; exact hok)
            rw [← HX.out.1] at hno
            have HN := Lib.hid hno
            clear hok hfit hno
            go_wp2_with fail
            (with_reducible refine (C6.out).mono ?_)
            rintro e w7 ⟨rfl, hb7⟩
            have HB7 := Lib.hid hb7
            have s7 := hb7.size
            clear hb7 k0 k1 k2 k3
            go_wp2
            go_roundw
            case rel => exact ⟨k + 1, A4, c4, o, x0, x1, x2, by omega, by go_num, HN.out.symm, rfl, HX.out.2.1, HX.out.2.2.1, HX.out.2.2.2, HQ.out.below HB7.out (by omega), HR.out.below HB7.out (Nat.le_refl _), by omega, HS.out.trans (HB7.out.mono HS.out.size)⟩
            case measure => simp [intOf]; omega
          · rw [hfit] at C6 hok
            have hyes := HYES.out (by rw [← HX.out.1]; exact hok)
            rw [← HX.out.1] at hyes
            have HY := Lib.hid hyes
            clear hok hfit hyes
            go_wp2_with fail
            (with_reducible refine (C6.out).mono ?_)
            rintro e w7 ⟨rfl, hb7⟩
            have HB7 := Lib.hid hb7
            have s7 := hb7.size
            have hP7 := HP.out.below hb7 (by exact HP.out.lt)
            have hQ7 := HQ.out.below hb7 (by exact HQ.out.lt)
            have hR7 := HR.out.below hb7 (Nat.le_refl _)
            have hS7 := HS.out.trans (hb7.mono HS.out.size)
            have k0 : w7.cell? ⟨nb, 0, none⟩ = some (.int .i64 y0) := hP7.cell 0
            have k1 : w7.cell? ⟨nb, 1, none⟩ = some (.int .i64 y1) := hP7.cell 1
            have k2 : w7.cell? ⟨nb, 2, none⟩ = some (.int .i64 y2) := hP7.cell 2
            have k3 : w7.cell? ⟨nb, 3, none⟩ = some (.int .i64 ((r.length : Int) + (o.length : Int) + 1)) := hP7.cell 3
            have j0 : w7.cell? ⟨w2.heap.size, 0, none⟩ = some (.int .i64 x0) := hQ7.cell 0
            have j1 : w7.cell? ⟨w2.heap.size, 1, none⟩ = some (.int .i64 x1) := hQ7.cell 1
            have j2 : w7.cell? ⟨w2.heap.size, 2, none⟩ = some (.int .i64 x2) := hQ7.cell 2
            have j3 : w7.cell? ⟨w2.heap.size, 3, none⟩ = some (.int .i64 ((r.length : Int) + (o.length : Int))) := hQ7.cell 3
            have f0 := hQ7.frozen 0
            have f1 := hQ7.frozen 1
            have f2 := hQ7.frozen 2
            have f3 := hQ7.frozen 3
            have hP8 := pc_block hQ7 (.int .i64 y0) (.int .i64 y1) (.int .i64 y2) (.int .i64 ((r.length : Int) + (o.length : Int) + 1))
            have hR8 := (((hR7.far (p := ⟨w2.heap.size, 0, none⟩) (Nat.lt_succ_self _) (.int .i64 y0)).far (p := ⟨w2.heap.size, 1, none⟩) (Nat.lt_succ_self _) (.int .i64 y1)).far (p := ⟨w2.heap.size, 2, none⟩) (Nat.lt_succ_self _) (.int .i64 y2)).far (p := ⟨w2.heap.size, 3, none⟩) (Nat.lt_succ_self _) (.int .i64 ((r.length : Int) + (o.length : Int) + 1))
            have hS8 := (((hS7.setCell (p := ⟨w2.heap.size, 0, none⟩) (by exact s2) (.int .i64 y0)).setCell (p := ⟨w2.heap.size, 1, none⟩) (by exact s2) (.int .i64 y1)).setCell (p := ⟨w2.heap.size, 2, none⟩) (by exact s2) (.int .i64 y2)).setCell (p := ⟨w2.heap.size, 3, none⟩) (by exact s2) (.int .i64 ((r.length : Int) + (o.length : Int) + 1))
            have hsz8 : ((((w7.setCell ⟨w2.heap.size, 0, none⟩ (.int .i64 y0)).setCell ⟨w2.heap.size, 1, none⟩ (.int .i64 y1)).setCell ⟨w2.heap.size, 2, none⟩ (.int .i64 y2)).setCell ⟨w2.heap.size, 3, none⟩ (.int .i64 ((r.length : Int) + (o.length : Int) + 1))).heap.size = w7.heap.size := by simp [World.setCell]
            have HP8 := Lib.hid hP8
            have HR8 := Lib.hid hR8
            have HS8 := Lib.hid hS8
            have HSZ := Lib.hid hsz8
            clear hb7 hP7 hQ7 hR7 hS7 hP8 hR8 hS8 hsz8 C6
            go_wp2_with (at_builtin; go_loud (refine push_int rfl _ _ rfl (w2.heap.size + 1) A4 c4 o (v : Int) rfl (HR8.out.alloc _) w7.heap.size 1 rfl (by simp [go_sem]) (by omega) (by rw [World.size_alloc, HSZ.out]; omega) ?_; intro A5 c5 w8 ho8 hb8 _))
            have HO9 := Lib.hid ho8
            have HB9 := Lib.hid hb8
            have hsz9 : w2.heap.size + 1 ≤ w8.heap.size := by
              have := hb8.size
              rw [World.size_alloc, HSZ.out] at this
              omega
            clear ho8 hb8 k0 k1 k2 k3 j0 j1 j2 j3 f0 f1 f2 f3
            go_wp2
            go_roundw
            case rel =>
              refine ⟨k + 1, A5, c5, o ++ [(v : Int)], y0, y1, y2, by omega, by go_num, HY.out.symm, by rw [List.length_append]; rfl, T0.out, T1.out, T2.out, ?_, HO9.out, hsz9, (HS8.out.alloc (by rw [HSZ.out]; omega) _).trans (HB9.out.mono (by omega))⟩
              have h9 := (HP8.out.alloc (.cells #[.int .i64 (v : Int)] 3)).below HB9.out (Nat.lt_succ_self _)
              rw [List.length_append]
              simpa [Int.add_assoc] using h9
            case measure => simp [intOf]; omega
        · have hno := HNO.out (by rw [← HX.out.1, hok, show decide ((r.length : Int) + (o.length : Int) < wk) = false from by simp; omega]; rfl)
          rw [← HX.out.1] at hno
          have HN := Lib.hid hno
          clear hok hno
          go_wp2
          go_roundw
          case rel => exact ⟨k + 1, A4, c4, o, x0, x1, x2, by omega, by go_num, HN.out.symm, rfl, HX.out.2.1, HX.out.2.2.1, HX.out.2.2.2, HQ.out, HR.out, by omega, HS.out⟩
          case measure => simp [intOf]; omega
    · obtain rfl : k = l.length := by omega
      have HX := Lib.hid (show o = Bs.admC g m r wk l from ho)
      clear ho
      go_wp2
      go_ret
      rw [← HX.out]
      exact ⟨⟨A4, c4, rfl, hO.base (by omega)⟩, hb⟩
end Go.Proofs.Ytjahmejmkijkaaa
