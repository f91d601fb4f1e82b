/-
  MERGED TEXTS: R7 R8.
-/
import Derived.Test.YtihgakbopkaemaaK4
import Derived.Test.YtihgakbopkaemaaK45
import Derived.Test.YtihgakbopkaemaaK27
namespace Go.Proofs.Ytihgakbopkaemaa
open Go.RowKit
theorem OI.blk_ge {w : World} {B : Nat} {A : Option Addr} {c : Nat} {l : List Int} (h : OI w B A c l) {a : Addr} (ha : A = some a) : B ≤ a.block := by
  subst ha
  rcases h.2 with ⟨hv, hn⟩ | ⟨b, cap, cur, hv, hb, hg, _⟩
  · cases hv
  · injection hv with hA _ _
    injection hA with hA
    rw [hA]
    exact hb
theorem used_quiet0 (A : Option Addr) (c : Nat) (g : List Bs.T) (A' : Option Addr) (c' : Nat) (r : List Int) (p : Int) (lo hi lo' hi' : Nat) (w : World) (h : RG w lo hi A g) (h' : RI w lo' hi' A' r) (hF : Bs.fine g = true) (hr : ∀ x ∈ r, 0 ≤ x ∧ x < g.length) (hl : r.length ≤ 1000000) (n : Nat) :
    Calls Try.prog 98 #[.slice A g.length c, .slice A' r.length c', .int .i64 p] (w.drewN n) fun e w' => e = .returned (.int .i64 (Bs.usedC g r p)) ∧ ∃ k, w' = w.drewN k :=
  (used_any A c g A' c' r p lo hi lo' hi' (w.drewN n) h h' hF hr hl).mono fun _ _ ⟨h1, h2⟩ => ⟨h1, n, h2.symm⟩
set_option maxRecDepth 20000 in
set_option maxHeartbeats 3200000 in
theorem admitS_any (A : Option Addr) (c : Nat) (g : List Bs.T) (A1 : Option Addr) (c1 : Nat) (m : List Int) (A2 : Option Addr) (c2 : Nat) (r : List Int) (A3 : Option Addr) (c3 : Nat) (l : List Int) (wk : Int) (lo hi l1 h1 l2 h2 l3 h3 : Nat) (w : World) (h : RG w lo hi A g) (hh : hi ≤ w.heap.size) (hm : RI w l1 h1 A1 m) (hh1 : h1 ≤ w.heap.size) (h' : RI w l2 h2 A2 r) (hh2 : h2 ≤ w.heap.size) (h'' : RI w l3 h3 A3 l) (hh3 : h3 ≤ w.heap.size) (hok : Bs.admV g m r l wk = true) :
    Calls Try.prog 117 #[.slice A g.length c, .slice A1 m.length c1, .slice A2 r.length c2, .slice A3 l.length c3, .int .i64 wk] w (RetI w (Bs.admC g m r wk l)) := by
  obtain ⟨hrun, hwk, hin, hid⟩ := Bs.admV_iff.1 hok
  unfold Bs.runOk at hrun
  simp only [Bool.and_eq_true] at hrun
  obtain ⟨⟨⟨hv, hroom⟩, hig⟩, hfit⟩ := hrun
  have hF := valid_fine hv
  have h8 := Bs.fine_len hF
  have hrl := Bs.inG_len hig
  have hrr := Bs.inG_mem hig
  have hlr : ∀ x ∈ l, 0 ≤ x ∧ x < g.length := fun x hx => by have := Bs.allInB_mem hin hx; omega
  have hdist : Bs.Dist g.length l := ⟨by have := (Bs.idle_nodup l.length (Nat.le_refl _) hid).1; rwa [List.take_length] at this, hlr⟩
  have hl8 := hdist.le
  have HM3 := Lib.hid (Bs.roomOk_len hroom)
  have hal : Below w.heap.size w (w.alloc (.cells #[] 3)) := (Below.refl _ _).alloc (Nat.le_refl _) _
  have C1 := Lib.hid (copyInts_ri A2 c2 r l2 h2 (w.alloc (.cells #[] 3)) (h'.below hal hh2) (Nat.le_trans hh2 hal.size) (by omega))
  have CU := Lib.hid (fun (An : Option Addr) (cn : Nat) (nw : List Int) (p : Int) (lo' hi' : Nat) W (hb : Below w.heap.size w W) (hn : RI W lo' hi' An nw) (hr : ∀ x ∈ nw, 0 ≤ x ∧ x < g.length) (hl : nw.length ≤ 1000000) => used_quiet0 A c g An cn nw p lo hi lo' hi' W (h.below hb hh) hn hF hr hl)
  have HG := Lib.hid h
  have HL := Lib.hid h''
  have HM := Lib.hid hm
  have HLR := Lib.hid hlr
  have HT := Lib.hid (fun i hi => Bs.fine_task hF (i := i) hi)
  have HIN := Lib.hid (fun k hk => adm_in (m := m) (wk := wk) hrr hlr k hk)
  have HAU := Lib.hid (fun p k hk => adm_units (m := m) (wk := wk) hF hrr hlr (by omega) (by omega) p k hk)
  have HAL := Lib.hid (fun k hk => Bs.admK_len g m r wk l k hk)
  have HFIT := Lib.hid (fun k hk => Bs.adm_fits (wk := wk) (l := l) hfit k hk)
  have HFS := Lib.hid (fun (r : List Int) v hv h => Bs.fits_step (m := m) (r := r) (v := v) hF hv h)
  clear hok hin hid hv hroom hig hfit hF hrr hlr hdist h hm h' h''
  go_enter Try.func117, Try.ntmps117
  go_wp2_with fail
  with_reducible refine (C1.out).mono ?_
  rintro e w2 ⟨⟨A5, c5, rfl, ho5⟩, hb2⟩
  have HO5 := Lib.hid (ho5.base hal.size)
  have HO0 := Lib.hid ((OI.new w w.heap.size (Nat.le_refl _)).below hb2 (Nat.le_refl _))
  have HB2 := Lib.hid (hal.trans (hb2.mono hal.size))
  have HAP := Lib.hid (show Apart (some ⟨w.heap.size, 0, none⟩) A5 from by
    intro a a' e1 e2 e
    have h1 := ho5.blk_ge e2
    rw [World.size_alloc] at h1
    have h2 : a.block = w.heap.size := by rw [← Option.some.inj e1]
    omega)
  clear ho5 hb2 hal C1
  go_wp2
  go_loopw [11, 12, 13] (fun vo vn i wr => ∃ (k : Nat) (Ao : Option Addr) (co : Nat) (o : List Int) (An : Option Addr) (cn : Nat) (nw : List Int), k ≤ l.length ∧ i = .int .i64 k ∧ o = Bs.admK g m r wk l k ∧ vo = .slice Ao o.length co ∧ nw = r ++ o ∧ vn = .slice An nw.length cn ∧ OI wr w.heap.size Ao co o ∧ OI wr w.heap.size An cn nw ∧ Apart Ao An ∧ Below w.heap.size w wr) (fun _ _ i _ => l.length - (intOf i).toNat)
  case atStart => exact ⟨0, _, _, [], _, _, r, Nat.zero_le _, rfl, rfl, rfl, by simp, rfl, HO0.out, HO5.out, HAP.out, HB2.out⟩
  case round =>
    obtain ⟨k, Ao, co, o, An, cn, nw, hk, rfl, ho, rfl, hnw, rfl, hO, hN, hap, hb⟩ := hrel
    have sr := hb.size
    have gl := HAL.out k hk
    rw [← ho] at gl
    have HNL := Lib.hid (show nw.length = r.length + o.length from by rw [hnw, List.length_append])
    by_cases hlt : k < l.length
    · by_cases hcnt : (nw.length : Int) < wk
      · obtain ⟨b, ob, rfl, _, hb3, hc⟩ := (HL.out.below hb hh3).at_ hlt
        have hx := HLR.out _ (List.getElem_mem hlt)
        have HYES := Lib.hid (fun h => Bs.admK_yes (g := g) (m := m) (r := r) (wk := wk) hlt h)
        have HNO := Lib.hid (fun h => Bs.admK_no (g := g) (m := m) (r := r) (wk := wk) hlt h)
        have hfk := HFIT.out k hk
        have hik := HIN.out k hk
        rw [← ho] at hfk hik HYES HNO
        rw [← hnw] at hfk hik
        obtain ⟨v, hv⟩ : ∃ v : Nat, l[k] = (v : Int) := ⟨l[k].toNat, by omega⟩
        rw [hv] at hc hx HYES HNO
        have hvl : v < g.length := by omega
        have hst := HFS.out nw v hvl hfk
        have hu := HT.out v hvl
        obtain ⟨pv, hpv⟩ : ∃ pv : Nat, g[v].pool = (pv : Int) := ⟨g[v].pool.toNat, by omega⟩
        obtain ⟨bg, og, N, cN, rfl, _, hgh, q0, q1, q2, q3, hlN, hcN, hNN⟩ := (HG.out.below hb hh) v hvl
        rw [hpv] at hst hu q2
        rw [Int.toNat_natCast] at hst
        have hp3 : pv < m.length := by have := HM3.out; omega
        obtain ⟨bm, om, rfl, _, hbm, hcm⟩ := (HM.out.below hb hh1).at_ hp3
        rw [← Bs.giZ_at hp3] at hcm
        have hau := HAU.out (pv : Int) k hk
        rw [← ho, ← hnw] at hau
        have hbmw : bm < wr.heap.size := by omega
        have hbw : b < wr.heap.size := by omega
        have HW1 := Lib.hid (hb.alloc sr (.cells #[.int .i64 g[v].time, .slice N g[v].needs.length cN, .int .i64 (pv : Int), .int .i64 g[v].units] 35))
        have hN1 := hN.alloc (.cells #[.int .i64 g[v].time, .slice N g[v].needs.length cN, .int .i64 (pv : Int), .int .i64 g[v].units] 35)
        have hO1 := hO.alloc (.cells #[.int .i64 g[v].time, .slice N g[v].needs.length cN, .int .i64 (pv : Int), .int .i64 g[v].units] 35)
        have C5 := fun n => Lib.hid (CU.out An cn nw (pv : Int) _ _ _ HW1.out hN1.ri hik (by have := HNL.out; omega) n)
        have hok : Bs.admOk g m r wk o v = decide (Bs.usedC g nw (pv : Int) + g[v].units ≤ Bs.giZ m pv) := by
          unfold Bs.admOk
          rw [← List.append_assoc, ← hnw, hst, show decide ((r.length : Int) + (o.length : Int) < wk) = true from by have := HNL.out; simp; omega, Bool.true_and]
        have hB1 := Blk.new wr 35 #[.int .i64 g[v].time, .slice N g[v].needs.length cN, .int .i64 (pv : Int), .int .i64 g[v].units]
        have e2 : (wr.alloc (.cells #[.int .i64 g[v].time, .slice N g[v].needs.length cN, .int .i64 (pv : Int), .int .i64 g[v].units] 35)).cell? ⟨wr.heap.size, 2, none⟩ = some (.int .i64 (pv : Int)) := hB1.cell 2
        have e3 : (wr.alloc (.cells #[.int .i64 g[v].time, .slice N g[v].needs.length cN, .int .i64 (pv : Int), .int .i64 g[v].units] 35)).cell? ⟨wr.heap.size, 3, none⟩ = some (.int .i64 g[v].units) := hB1.cell 3
        have hcm1 := (World.cell?_alloc_lt wr (.cells #[.int .i64 g[v].time, .slice N g[v].needs.length cN, .int .i64 (pv : Int), .int .i64 g[v].units] 35) ⟨bm, om + pv, none⟩ hbmw).trans hcm
        have hc1 := (World.cell?_alloc_lt wr (.cells #[.int .i64 g[v].time, .slice N g[v].needs.length cN, .int .i64 (pv : Int), .int .i64 g[v].units] 35) ⟨b, ob + k, none⟩ hbw).trans hc
        have hx1 : w.heap.size ≤ (wr.alloc (.cells #[.int .i64 g[v].time, .slice N g[v].needs.length cN, .int .i64 (pv : Int), .int .i64 g[v].units] 35)).heap.size := HW1.out.size
        have HX := Lib.hid (And.intro ho hnw)
        have HOK := Lib.hid hok
        have HN := Lib.hid hN1
        have HO := Lib.hid hO1
        have HAP := Lib.hid hap
        have i0 : (0 : Int) ≤ (v : Int) := by omega
        have i1 : (v : Int) < (g.length : Int) := by omega
        have j0 : (0 : Int) ≤ (pv : Int) := by omega
        have j1 : (pv : Int) < (m.length : Int) := by omega
        have d1 : (k : Int) < (l.length : Int) := by omega
        clear hB1 hb hN hO hN1 hO1 hap ho hnw hst hfk hik hok hpv hv hNN
        generalize Bs.usedC g nw (pv : Int) = u at *
        generalize g[v].units = uv at *
        generalize Bs.giZ m pv = mp at *
        by_cases hfit : u + uv ≤ mp
        · have hyes := HYES.out (by rw [HOK.out]; simpa using hfit)
          have HY := Lib.hid hyes
          have d2 : decide (u + uv ≤ mp) = true := by simpa using hfit
          clear hyes hfit
          go_wp2_with fail
          generalize wr.alloc (.cells #[.int .i64 g[v].time, .slice N g[v].needs.length cN, .int .i64 (pv : Int), .int .i64 uv] 35) = W1 at *
          clear q0 q1 q2 q3 hcm hc
          go_quiet ((go_at_call 98; exact ((C5 _).out)))
          have HO2 := Lib.hid (HO.out.drewN nq)
          have HN2 := Lib.hid (HN.out.drewN nq)
          have HW2 := Lib.hid (HW1.out.drewN nq)
          have hcx : (W1.drewN nq).cell? ⟨b, ob + k, none⟩ = some (.int .i64 (v : Int)) := hc1
          have hx2 : w.heap.size ≤ (W1.drewN nq).heap.size := hx1
          have hb2 : b < (W1.drewN nq).heap.size := by show b < W1.heap.size; omega
          clear hc1 hx1 e2 e3 hcm1 HO HN HW1 C5
          generalize W1.drewN nq = W2 at *
          have HOa := Lib.hid (HO2.out.alloc (.cells #[.int .i64 (v : Int)] 3))
          have HNa := Lib.hid (HN2.out.alloc (.cells #[.int .i64 (v : Int)] 3))
          have hca := (World.cell?_alloc_lt W2 (.cells #[.int .i64 (v : Int)] 3) ⟨b, ob + k, none⟩ hb2).trans hcx
          have HWa := Lib.hid (HW2.out.alloc hx2 (.cells #[.int .i64 (v : Int)] 3))
          have HCA := Lib.hid hca
          clear hca
          go_wp2_with (first
            | (at_builtin; refine push_at rfl _ _ rfl w.heap.size Ao co o (v : Int) rfl HOa.out W2.heap.size 1 rfl (by simp [go_sem]) (by omega) (by simp; omega) ?_; intro A6 c6 w6 ho6 hb6 hk6 hs6; obtain ⟨hn6, ha6⟩ := hk6 _ _ _ _ HNa.out HAP.out.symm; have hc6 := (hb6.cell (p := ⟨b, ob + k, none⟩) (show b < w.heap.size by omega)).trans HCA.out; have HW6 := Lib.hid (HWa.out.trans hb6); have hx6 := HW6.out.size; have HO6 := Lib.hid (ho6.alloc (.cells #[.int .i64 (v : Int)] 3)); have HN6 := Lib.hid (hn6.alloc (.cells #[.int .i64 (v : Int)] 3)); have HA6 := Lib.hid ha6; clear ho6 hn6 ha6 hk6 hb6)
            | (at_builtin; refine push_at rfl _ _ rfl w.heap.size An cn nw (v : Int) rfl HN6.out w6.heap.size 1 rfl (by simp [go_sem]) (by have := HNL.out; omega) (by simp; omega) ?_; intro A7 c7 w7 ho7 hb7 hk7 hs7; obtain ⟨hn7, ha7⟩ := hk7 _ _ _ _ HO6.out HA6.out.symm; have HW7 := Lib.hid ((HW6.out.alloc hx6 (.cells #[.int .i64 (v : Int)] 3)).trans hb7); have HO7 := Lib.hid hn7; have HN7 := Lib.hid ho7; have HA7 := Lib.hid ha7; clear ho7 hn7 ha7 hk7 hb7))
          go_wp2
          go_roundw
          case rel => exact ⟨k + 1, A6, c6, o ++ [(v : Int)], A7, c7, nw ++ [(v : Int)], by omega, by go_num, HY.out.symm, by rw [List.length_append]; rfl, by rw [HX.out.2, List.append_assoc], by rw [List.length_append]; rfl, HO7.out, HN7.out, HA7.out, HW7.out⟩
          case measure => simp [intOf]; omega
        · have hno := HNO.out (by rw [HOK.out]; simpa using hfit)
          have HN0 := Lib.hid hno
          have d2 : decide (u + uv ≤ mp) = false := by simpa using hfit
          clear hno hfit
          go_wp2_with fail
          generalize wr.alloc (.cells #[.int .i64 g[v].time, .slice N g[v].needs.length cN, .int .i64 (pv : Int), .int .i64 uv] 35) = W1 at *
          clear q0 q1 q2 q3 hcm hc
          go_quiet ((go_at_call 98; exact ((C5 _).out)))
          go_wp2
          go_roundw
          case rel => exact ⟨k + 1, Ao, co, o, An, cn, nw, by omega, by go_num, HN0.out.symm, rfl, HX.out.2, rfl, HO.out.drewN _, HN.out.drewN _, HAP.out, HW1.out.drewN _⟩
          case measure => simp [intOf]; omega
      · have hful := Bs.adm_full (g := g) (m := m) (r := r) (wk := wk) (l := l) (l.length - k) k (by omega) (by rw [← ho]; have := HNL.out; omega)
        rw [← ho] at hful
        have HF := Lib.hid hful
        have d1 : (k : Int) < (l.length : Int) := by omega
        have d2 : ¬ (nw.length : Int) < wk := hcnt
        clear hful ho hnw
        go_wp2
        go_ret
        rw [← HF.out]
        exact ⟨⟨Ao, co, rfl, hO⟩, hb⟩
    · obtain rfl : k = l.length := by omega
      have HX := Lib.hid (show o = Bs.admC g m r wk l from ho)
      clear ho hnw
      go_wp2
      go_ret
      rw [← HX.out]
      exact ⟨⟨Ao, co, rfl, hO⟩, hb⟩
end Go.Proofs.Ytihgakbopkaemaa
namespace Go.Proofs.Ytihgakbopkaemaa
open Go.RowKit
theorem RI.takeS {w : World} {lo hi : Nat} {A : Option Addr} {l : List Int} (h : RI w lo hi A l) (k : Nat) : RI w lo hi A (l.take k) := by
  intro j hj
  rw [List.length_take] at hj
  obtain ⟨b, o, e, h1, h2, hc⟩ := h j (by omega)
  exact ⟨b, o, e, h1, h2, by rw [hc, List.getElem_take]⟩
theorem isIn_q (A : Option Addr) (c : Nat) (l : List Int) (k : Nat) (n : Int) (lo hi : Nat) (w : World) (h : RI w lo hi A l) (hl : l.length ≤ 9223372036854775807) (hk : l.length = k) (i j : Nat) :
    Calls Try.prog 101 #[.slice A k c, .int .i64 n] (w.drewN (i + j)) fun e w' => e = .returned (.bool (l.contains n)) ∧ ∃ m, w' = w.drewN (i + m) := by
  subst hk
  exact (isIn_any A c l n lo hi (w.drewN (i + j)) h hl).mono fun _ _ ⟨h1, h2⟩ => ⟨h1, j, h2.symm⟩
end Go.Proofs.Ytihgakbopkaemaa
