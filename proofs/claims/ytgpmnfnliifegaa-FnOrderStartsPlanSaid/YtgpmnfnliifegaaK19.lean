/-
  MERGED TEXTS: R31 R32 R33.
-/
import Derived.Test.YtgpmnfnliifegaaK15
import Derived.Test.YtgpmnfnliifegaaK20
import Derived.Test.YtgpmnfnliifegaaK36
namespace Go.Proofs.Ytgpmnfnliifegaa
open Go.RowKit
theorem seaV_at (g : List Bs.T) (m : List Int) (wk : Int) : Bs.seaV g m wk = (Bs.valid g && decide (g.length ≤ 5) && Bs.roomOk m && decide (1 ≤ wk ∧ wk ≤ 4)) := by
  unfold Bs.seaV Bs.canV
  cases Bs.valid g <;> cases Bs.roomOk m <;> cases decide (1 ≤ wk ∧ wk ≤ 4) <;> cases decide (g.length ≤ 5) <;> rfl
set_option maxHeartbeats 800000 in
theorem validSearchS_any (A : Option Addr) (c : Nat) (g : List Bs.T) (A1 : Option Addr) (c1 : Nat) (m : List Int) (wk : Int) (lo hi l1 h1 : Nat) (w : World) (h : RG w lo hi A g) (hh : hi ≤ w.heap.size) (hm : RI w l1 h1 A1 m) (hh1 : h1 ≤ w.heap.size) (hl : g.length ≤ 9223372036854775807) (hml : m.length ≤ 9223372036854775807) :
    Calls Try.prog 70 #[.slice A g.length c, .slice A1 m.length c1, .int .i64 wk] w fun e w' => e = .returned (.bool (Bs.seaV g m wk)) ∧ Below w.heap.size w w' := by
  have q1 := validGraphS_any A c g lo hi w h hh hl
  have q2 := fun W (hb : Below w.heap.size w W) => validRoom_any A1 c1 m l1 h1 W (hm.below hb hh1) hml
  have q3 := fun W => inRange_any wk 1 4 W
  have HE := Lib.hid (seaV_at g m wk)
  clear h hm
  generalize Bs.valid g = v1 at *
  generalize Bs.roomOk m = v2 at *
  generalize decide (1 ≤ wk ∧ wk ≤ 4) = v3 at *
  have C1 := Lib.hid q1
  have C2 := Lib.hid q2
  have C3 := Lib.hid q3
  clear q1 q2 q3
  cases v1
  · go_enter Try.func70, Try.ntmps70
    go_wp2_with fail
    with_reducible refine (C1.out).mono ?_
    rintro e w1 ⟨rfl, hb⟩
    have HB := Lib.hid hb
    clear hb
    go_wp2
    go_ret
    exact ⟨ret_bool (by rw [HE.out]; rfl), HB.out⟩
  by_cases h5 : g.length ≤ 5
  rotate_left
  · have d1 : decide ((g.length : Int) ≤ 5) = false := by simp; omega
    have d2 : decide (g.length ≤ 5) = false := by simp [h5]
    go_enter Try.func70, Try.ntmps70
    go_wp2_with fail
    with_reducible refine (C1.out).mono ?_
    rintro e w1 ⟨rfl, hb⟩
    have HB := Lib.hid hb
    clear hb
    go_wp2
    go_ret
    exact ⟨ret_bool (by rw [HE.out, d2]; rfl), HB.out⟩
  have d1 : decide ((g.length : Int) ≤ 5) = true := by simp; omega
  have d2 : decide (g.length ≤ 5) = true := by simp [h5]
  cases v2
  · go_enter Try.func70, Try.ntmps70
    go_wp2_with fail
    with_reducible refine (C1.out).mono ?_
    rintro e w1 ⟨rfl, hb⟩
    have HB := Lib.hid hb
    clear hb
    go_wp2_with fail
    with_reducible refine (C2.out _ HB.out).mono ?_
    rintro e w2 ⟨rfl, rfl⟩
    go_wp2
    go_ret
    exact ⟨ret_bool (by rw [HE.out, d2]; rfl), HB.out⟩
  · go_enter Try.func70, Try.ntmps70
    go_wp2_with fail
    with_reducible refine (C1.out).mono ?_
    rintro e w1 ⟨rfl, hb⟩
    have HB := Lib.hid hb
    clear hb
    go_wp2_with fail
    with_reducible refine (C2.out _ HB.out).mono ?_
    rintro e w2 ⟨rfl, rfl⟩
    go_wp2_with fail
    with_reducible refine (C3.out _).mono ?_
    rintro e w2 ⟨rfl, rfl⟩
    go_wp2
    go_ret
    exact ⟨ret_bool (by rw [HE.out, d2]; rfl), HB.out⟩
theorem inRange_q (n lo hi : Int) (w : World) (i j : Nat) :
    Calls Try.prog 46 #[.int .i64 n, .int .i64 lo, .int .i64 hi] (w.drewN (i + j)) fun e w' => e = .returned (.bool (decide (lo ≤ n ∧ n ≤ hi))) ∧ ∃ m, w' = w.drewN (i + m) :=
  (inRange_any n lo hi (w.drewN (i + j))).mono fun _ _ ⟨h1, h2⟩ => ⟨h1, j, h2.symm⟩
theorem allDone_q (A : Option Addr) (c : Nat) (l : List Int) (A' : Option Addr) (c' : Nat) (d : List Int) (k : Nat) (lo hi lo' hi' : Nat) (w : World) (h : RI w lo hi A l) (h' : RI w lo' hi' A' d) (hl : l.length ≤ 9223372036854775807) (hd : d.length ≤ 9223372036854775807) (hk : d.length = k) (i j : Nat) :
    Calls Try.prog 76 #[.slice A l.length c, .slice A' k c'] (w.drewN (i + j)) fun e w' => e = .returned (.bool (l.all fun x => d.contains x)) ∧ ∃ m, w' = w.drewN (i + m) := by
  subst hk
  exact (allDone_any A c l A' c' d lo hi lo' hi' (w.drewN (i + j)) h h' hl hd).mono fun _ _ ⟨h1, h2⟩ => ⟨h1, j, h2.symm⟩
set_option maxRecDepth 20000 in
set_option maxHeartbeats 3200000 in
theorem isOrderS_any (A : Option Addr) (c : Nat) (g : List Bs.T) (A1 : Option Addr) (c1 : Nat) (l : List Int) (lo hi l1 h1 : Nat) (w : World) (h : RG w lo hi A g) (hm : RI w l1 h1 A1 l) (hlc : l.length ≤ c1) (hF : Bs.fine g = true) :
    Calls Try.prog 81 #[.slice A g.length c, .slice A1 l.length c1] w fun e w' => e = .returned (.bool (Bs.isOrd g l)) ∧ ∃ n, w' = w.drewN n := by
  have hgl := Bs.fine_len hF
  by_cases hlen : l.length = g.length
  · have hq : ((l.length : Int) != (g.length : Int)) = false := by simp [hlen]
    have hl8 : l.length ≤ 8 := by omega
    have HG := Lib.hid h
    have HM := Lib.hid hm
    have HNO := Lib.hid (fun k (hk : k < l.length) (ht : Bs.tOk g l k = false) => Bs.isOrd_no (g := g) hk ht)
    have HYES := Lib.hid (fun ht => Bs.isOrd_yes (g := g) (l := l) hlen ht)
    have hw : IntKind.i64.wrap ((g.length : Int) - 1) = (g.length : Int) - 1 := IntWalk.i64_in _ ⟨by omega, by omega⟩
    have HNL := Lib.hid (fun v (hv : v < g.length) => Bs.fine_needs_len hF hv)
    clear h hm hF hlen
    go_enter Try.func81, Try.ntmps81
    go_wp2
    go_loopw [5] (fun i wr => ∃ (k n : Nat), k ≤ l.length ∧ i = .int .i64 k ∧ (∀ j, j < k → Bs.tOk g l j = true) ∧ wr = w.drewN n) (fun i _ => l.length - (intOf i).toNat)
    case atStart => exact ⟨0, 0, Nat.zero_le _, rfl, fun j hj => by omega, rfl⟩
    case round =>
      obtain ⟨k, n, hk, rfl, hT, rfl⟩ := hrel
      by_cases hlt : k < l.length
      · obtain ⟨b, o, rfl, _, _, hc⟩ := HM.out.at_ hlt
        have htk : Bs.tOk g l k = (decide (0 ≤ l[k] ∧ l[k] ≤ (g.length : Int) - 1) && Bs.okNext g (l.take k) l[k].toNat) := by unfold Bs.tOk; rw [Bs.giZ_at hlt]
        have hlk : (l.take k).length = k := by rw [List.length_take]; omega
        have q1 := fun j => inRange_q l[k] 0 ((g.length : Int) - 1) w n j
        have q2 := fun j => isIn_q (some ⟨b, o, none⟩) c1 (l.take k) k l[k] l1 h1 w (HM.out.takeS k) (by omega) hlk n j
        have HT2 := Lib.hid (fun (he : Bs.tOk g l k = true) => show ∀ j, j < k + 1 → Bs.tOk g l j = true from fun j hj => by
          by_cases e : j = k
          · subst e; exact he
          · exact hT j (by omega))
        have HN := Lib.hid (HNO.out k hlt)
        have HMT := Lib.hid (HM.out.takeS k)
        have HLK := Lib.hid hlk
        obtain ⟨x, hx⟩ : ∃ x, x = l[k] := ⟨_, rfl⟩
        rw [← hx] at hc htk q1 q2
        clear hx hT hlk
        have i0 : (0 : Int) ≤ (k : Int) := by omega
        have i1 : (k : Int) < (l.length : Int) := by omega
        have i2 : (k : Int) ≤ (c1 : Int) := by omega
        by_cases hr : 0 ≤ x ∧ x < (g.length : Int)
        · have d2 : decide (0 ≤ x ∧ x ≤ (g.length : Int) - 1) = true := by simp; omega
          rw [d2] at q1
          rw [d2, Bool.true_and] at htk
          obtain ⟨v, rfl⟩ : ∃ v : Nat, x = (v : Int) := ⟨x.toNat, by omega⟩
          rw [Int.toNat_natCast] at htk
          have hv : v < g.length := by omega
          rw [Bs.okNext_eq hv] at htk
          obtain ⟨bg, og, N, cN, rfl, _, hgh, k0, k1, k2, k3, hlN, hcN, hN⟩ := HG.out v hv
          have hnl := HNL.out v hv
          have q3 := fun j => allDone_q N cN g[v].needs (some ⟨b, o, none⟩) c1 (l.take k) k lo hi l1 h1 w hN HMT.out (by omega) (by have := HLK.out; omega) HLK.out n j
          have v0 : (0 : Int) ≤ (v : Int) := by omega
          have v1 : (v : Int) < (g.length : Int) := by omega
          clear d2 hN k0 k2 k3
          generalize (l.take k).contains (v : Int) = b1 at *
          generalize (g[v].needs.all fun x => (l.take k).contains x) = b2 at *
          have HTK := Lib.hid htk
          have C1 := fun j => Lib.hid (q1 j)
          clear htk q1
          cases b1
          · cases b2
            · have C2 := fun j => Lib.hid (q2 j)
              have C3 := fun j => Lib.hid (q3 j)
              clear q2 q3
              go_wp2
              go_quiet ((first | (go_at_call 46; with_reducible exact (C1 _).out) | (go_at_call 75; with_reducible exact (C2 _).out) | (go_at_call 76; with_reducible exact (C3 _).out)))
              go_wp2
              go_ret
              exact ⟨ret_bool (HN.out (HTK.out.trans rfl)).symm, _, by first | rfl | rw [World.drewN_drewN]⟩
            · have C2 := fun j => Lib.hid (q2 j)
              have C3 := fun j => Lib.hid (q3 j)
              clear q2 q3
              go_wp2
              go_quiet ((first | (go_at_call 46; with_reducible exact (C1 _).out) | (go_at_call 75; with_reducible exact (C2 _).out) | (go_at_call 76; with_reducible exact (C3 _).out)))
              go_wp2
              go_roundw
              case rel => exact ⟨k + 1, _, by omega, by go_num, HT2.out (HTK.out.trans rfl), by first | rfl | rw [World.drewN_drewN]⟩
              case measure => simp [intOf]; omega
          · have C2 := fun j => Lib.hid (q2 j)
            clear q2 q3
            go_wp2
            go_quiet ((first | (go_at_call 46; with_reducible exact (C1 _).out) | (go_at_call 75; with_reducible exact (C2 _).out)))
            go_wp2
            go_ret
            exact ⟨ret_bool (HN.out (HTK.out.trans rfl)).symm, _, by first | rfl | rw [World.drewN_drewN]⟩
        · have d2 : decide (0 ≤ x ∧ x ≤ (g.length : Int) - 1) = false := by simp only [decide_eq_false_iff_not]; omega
          rw [d2] at q1
          rw [d2, Bool.false_and] at htk
          have HTK := Lib.hid htk
          have C1 := fun j => Lib.hid (q1 j)
          clear htk q1 q2 d2 hr
          go_wp2
          go_quiet ((go_at_call 46; with_reducible exact (C1 _).out))
          go_wp2
          go_ret
          exact ⟨ret_bool (HN.out HTK.out).symm, _, by first | rfl | rw [World.drewN_drewN]⟩
      · obtain rfl : k = l.length := by omega
        have HT := Lib.hid hT
        clear hT
        go_wp2
        go_ret
        exact ⟨ret_bool (HYES.out HT.out).symm, _, rfl⟩
  · have hq : ((l.length : Int) != (g.length : Int)) = true := by simp; omega
    have HE := Lib.hid (Bs.isOrd_len (g := g) hlen)
    clear h hm hF hlen
    go_enter Try.func81, Try.ntmps81
    go_wp2
    go_ret
    exact ⟨ret_bool HE.out.symm, 0, rfl⟩
end Go.Proofs.Ytgpmnfnliifegaa
namespace Go.Proofs.Ytgpmnfnliifegaa
open Go.RowKit
theorem fitW_no {g : List Bs.T} {m : List Int} {wk : Int} {S : List Int} {a : Nat} {now : Int} {d : Nat} (hd : (d : Int) < Bs.timeOf g a) (h : Bs.wOk g m wk S a (now + d) = false) : Bs.fitW g m wk S a now = false := by
  unfold Bs.fitW
  rw [List.all_eq_false]
  exact ⟨d, by rw [List.mem_range]; omega, by rw [h]; simp⟩
theorem fitW_yes {g : List Bs.T} {m : List Int} {wk : Int} {S : List Int} {a : Nat} {now : Int} (h : ∀ d : Nat, (d : Int) < Bs.timeOf g a → Bs.wOk g m wk S a (now + d) = true) : Bs.fitW g m wk S a now = true := by
  unfold Bs.fitW
  rw [List.all_eq_true]
  intro d hd
  rw [List.mem_range] at hd
  exact h d (by omega)
set_option maxRecDepth 20000 in
set_option maxHeartbeats 1600000 in
theorem fitsS_any (A : Option Addr) (c : Nat) (g : List Bs.T) (A1 : Option Addr) (c1 : Nat) (m : List Int) (wk : Int) (A2 : Option Addr) (c2 : Nat) (S : List Int) (a : Nat) (now : Int) (lo hi l1 h1 l2 h2 : Nat) (w : World) (h : RG w lo hi A g) (hh : hi ≤ w.heap.size) (hm : RI w l1 h1 A1 m) (hh1 : h1 ≤ w.heap.size) (hs : RI w l2 h2 A2 S) (hh2 : h2 ≤ w.heap.size) (hF : Bs.fine g = true) (hroom : Bs.roomOk m = true) (hSl : S.length = g.length) (hSb : ∀ i, i < g.length → 0 ≤ Bs.giZ S i ∧ Bs.giZ S i ≤ 100000) (ha : a < g.length) (hn : 0 ≤ now ∧ now ≤ 100000) :
    Calls Try.prog 111 #[.slice A g.length c, .slice A1 m.length c1, .int .i64 wk, .slice A2 S.length c2, .int .i64 (a : Int), .int .i64 now] w fun e w' => e = .returned (.bool (Bs.fitW g m wk S a now)) ∧ Below w.heap.size w w' := by
  have hgl := Bs.fine_len hF
  have HM3 := Lib.hid (Bs.roomOk_len hroom)
  have hta := Bs.fine_time' hF ha
  have hpu := Bs.fine_task hF (i := a) ha
  obtain ⟨pv, hpv⟩ : ∃ pv : Nat, g[a].pool = (pv : Int) := ⟨g[a].pool.toNat, by omega⟩
  rw [hpv] at hpu
  have hp3 : pv < m.length := by have := HM3.out; omega
  have HG := Lib.hid h
  have HM := Lib.hid hm
  have HU := Lib.hid (fun r hr => Bs.usedC_bd hF (pv : Int) r hr)
  have HRA := Lib.hid (fun (t : Int) W (hb : Below w.heap.size w W) => runningAtS_any A c g A2 c2 S t lo hi l2 h2 W (h.below hb hh) (Nat.le_trans hh hb.size) (hs.below hb hh2) (Nat.le_trans hh2 hb.size) hF (by omega) (by omega) hSb)
  have CU := Lib.hid (fun (An : Option Addr) (cn : Nat) (nw : List Int) (lo' hi' : Nat) W (hb : Below w.heap.size w W) (hn : RI W lo' hi' An nw) (hr : ∀ x ∈ nw, 0 ≤ x ∧ x < g.length) (hl : nw.length ≤ 1000000) => used_quiet0 A c g An cn nw (pv : Int) lo hi lo' hi' W (h.below hb hh) hn hF hr hl)
  have HE := Lib.hid (fun (t : Int) => show Bs.wOk g m wk S a t = (decide (((Bs.runAt g S t).length : Int) < wk) && decide (Bs.usedC g (Bs.runAt g S t) (pv : Int) + g[a].units ≤ Bs.giZ m pv)) from by
    unfold Bs.wOk
    rw [Bs.pool_at ha, Bs.units_at ha, hpv, Int.toNat_natCast])
  have hte := time_at ha
  have HNO := Lib.hid (fun (d : Nat) hd hw => fitW_no (g := g) (m := m) (wk := wk) (S := S) (a := a) (now := now) (d := d) hd hw)
  have HYES := Lib.hid (fun hw => fitW_yes (g := g) (m := m) (wk := wk) (S := S) (a := a) (now := now) hw)
  rw [hte] at HNO HYES
  have i0 : (0 : Int) ≤ (a : Int) := by omega
  have i1 : (a : Int) < (g.length : Int) := by omega
  have j0 : (0 : Int) ≤ (pv : Int) := by omega
  have j1 : (pv : Int) < (m.length : Int) := by omega
  obtain ⟨bg, og, N, cN, rfl, _, hgh, k0, _, k2, k3, _, _, _⟩ := h a ha
  obtain ⟨bm, om, rfl, _, hbm, hcm⟩ := hm.at_ hp3
  rw [← Bs.giZ_at hp3] at hcm
  rw [hpv] at k2
  have K := Lib.hid (fun W (hb : Below w.heap.size w W) => show W.cell? ⟨bg, og + a * 4, none⟩ = some (.int .i64 g[a].time) ∧ W.cell? ⟨bg, og + a * 4 + 2, none⟩ = some (.int .i64 (pv : Int)) ∧ W.cell? ⟨bg, og + a * 4 + 3, none⟩ = some (.int .i64 g[a].units) ∧ W.cell? ⟨bm, om + pv, none⟩ = some (.int .i64 (Bs.giZ m pv)) from
    ⟨(hb.cell (p := ⟨bg, og + a * 4, none⟩) (by show bg < _; omega)).trans k0, (hb.cell (p := ⟨bg, og + a * 4 + 2, none⟩) (by show bg < _; omega)).trans k2, (hb.cell (p := ⟨bg, og + a * 4 + 3, none⟩) (by show bg < _; omega)).trans k3, (hb.cell (p := ⟨bm, om + pv, none⟩) (by show bm < _; omega)).trans hcm⟩)
  clear h hm hs hF hroom hSb k0 k2 k3 hcm hte HG HM hpv hSl
  generalize g[a].time = ta at *
  generalize g[a].units = ua at *
  generalize Bs.giZ m pv = mp at *
  have hw1 : IntKind.i64.wrap (now + ta) = now + ta := IntWalk.i64_in _ ⟨by omega, by omega⟩
  go_enter Try.func111, Try.ntmps111
  go_wp2
  go_loopw [13] (fun i wr => ∃ (d : Nat), (d : Int) ≤ ta ∧ i = .int .i64 (now + d) ∧ (∀ e : Nat, e < d → Bs.wOk g m wk S a (now + e) = true) ∧ Below w.heap.size w wr) (fun i _ => (now + ta - intOf i).toNat)
  case atStart => exact ⟨0, by omega, by simp, fun e he => by omega, Below.refl _ _⟩
  case round =>
    obtain ⟨d, hd, rfl, hD, hb⟩ := hrel
    obtain ⟨k0, k2, k3, hcm⟩ := K.out wr hb
    by_cases hlt : (d : Int) < ta
    · have d1 : decide (now + (d : Int) < now + ta) = true := by simp; omega
      have C1 := Lib.hid (HRA.out (now + (d : Int)) wr hb)
      have hwe := HE.out (now + (d : Int))
      have hri := Bs.runAt_in (g := g) (S := S) (now := now + (d : Int))
      have hrl := Bs.runAt_len g S (now + (d : Int))
      have HNO2 := Lib.hid (HNO.out d hlt)
      have HD := Lib.hid (fun (hx : Bs.wOk g m wk S a (now + (d : Int)) = true) => show ∀ e : Nat, e < d + 1 → Bs.wOk g m wk S a (now + e) = true from fun e he => by
        by_cases hed : e = d
        · subst hed; exact hx
        · exact hD e (by omega))
      generalize Bs.runAt g S (now + (d : Int)) = R at *
      have hub := HU.out R hri
      have HB := Lib.hid hb
      have HRI := Lib.hid hri
      clear hD hb hri HRA HNO HYES HE
      go_wp2_with fail
      with_reducible refine (C1.out).mono ?_
      rintro e w1 ⟨⟨A3, c3, rfl, ho3⟩, hb1⟩
      have HB1 := Lib.hid (HB.out.trans (hb1.mono HB.out.size))
      obtain ⟨k0', k2', k3', hcm'⟩ := K.out w1 HB1.out
      have C5 := fun n => Lib.hid (CU.out A3 c3 R _ _ w1 HB1.out ho3.ri HRI.out (by omega) n)
      clear hb1 C1 HB k0 k2 k3 hcm ho3
      generalize Bs.usedC g R (pv : Int) = u at *
      have hw2 : IntKind.i64.wrap (u + ua) = u + ua := IntWalk.i64_in _ ⟨by omega, by omega⟩
      by_cases g1 : (R.length : Int) < wk
      · have d2 : decide ((R.length : Int) < wk) = true := by simp [g1]
        have d3 : decide ((R.length : Int) ≥ wk) = false := by simp; omega
        have d4 : decide (wk ≤ (R.length : Int)) = false := by simp; omega
        by_cases g2 : u + ua ≤ mp
        · have d5 : decide (u + ua ≤ mp) = true := by simp [g2]
          have d6 : decide (u + ua > mp) = false := by simp; omega
          have d7 : decide (mp < u + ua) = false := by simp; omega
          rw [d2, d5] at hwe
          have HS := Lib.hid (HD.out (hwe.trans rfl))
          clear hwe g1 g2
          go_wp2
          go_quiet ((go_at_call 122; exact ((C5 _).out)))
          go_wp2
          go_roundw
          case rel => exact ⟨d + 1, by omega, by go_num, HS.out, HB1.out.drewN _⟩
          case measure => simp [intOf]; omega
        · have d5 : decide (u + ua ≤ mp) = false := by simp; omega
          have d6 : decide (u + ua > mp) = true := by simp; omega
          have d7 : decide (mp < u + ua) = true := by simp; omega
          rw [d2, d5] at hwe
          have HS := Lib.hid (HNO2.out (hwe.trans rfl))
          clear hwe g1 g2
          go_wp2
          go_quiet ((go_at_call 122; exact ((C5 _).out)))
          go_wp2
          go_ret
          exact ⟨ret_bool HS.out.symm, HB1.out.drewN _⟩
      · have d2 : decide ((R.length : Int) < wk) = false := by simp; omega
        have d3 : decide ((R.length : Int) ≥ wk) = true := by simp; omega
        have d4 : decide (wk ≤ (R.length : Int)) = true := by simp; omega
        rw [d2, Bool.false_and] at hwe
        have HS := Lib.hid (HNO2.out hwe)
        clear hwe g1
        go_wp2
        go_quiet (fail)
        go_wp2
        go_ret
        exact ⟨ret_bool HS.out.symm, HB1.out.drewN _⟩
    · have d1 : decide (now + (d : Int) < now + ta) = false := by simp; omega
      have HY := Lib.hid (HYES.out (fun e he => hD e (by omega)))
      have HB := Lib.hid hb
      clear hD hb
      go_wp2
      go_ret
      exact ⟨ret_bool HY.out.symm, HB.out⟩
end Go.Proofs.Ytgpmnfnliifegaa
namespace Go.Proofs.Ytgpmnfnliifegaa
open Go.RowKit
set_option maxRecDepth 40000 in
set_option maxHeartbeats 3200000 in
theorem orderS_any (A : Option Addr) (c : Nat) (g : List Bs.T) (A1 : Option Addr) (c1 : Nat) (m : List Int) (wk : Int) (A2 : Option Addr) (c2 : Nat) (l : List Int) (lo hi l1 h1 l2 h2 : Nat) (w : World) (h : RG w lo hi A g) (hh : hi ≤ w.heap.size) (hm : RI w l1 h1 A1 m) (hh1 : h1 ≤ w.heap.size) (hs : RI w l2 h2 A2 l) (hh2 : h2 ≤ w.heap.size) (hF : Bs.fine g = true) (hroom : Bs.roomOk m = true) (hw1 : 1 ≤ wk) (ho : Bs.isOrd g l = true) :
    Calls Try.prog 72 #[.slice A g.length c, .slice A1 m.length c1, .int .i64 wk, .slice A2 l.length c2] w (RetI w (Bs.osK g m wk l l.length)) := by
  have h8 := Bs.fine_len hF
  have hmk := make_ints g.length (by omega) w
  obtain ⟨hlen, hat⟩ := Bs.isOrd_at ho
  have hl8 : l.length ≤ 8 := by omega
  have HP := Lib.hid (fun k (hk : k ≤ l.length) => Bs.Pla.all (m := m) (wk := wk) hF hroom hw1 ho k hk)
  have HFT := Lib.hid (fun (S : List Int) (hSl : S.length = g.length) (hSb : ∀ i, i < g.length → 0 ≤ Bs.giZ S i ∧ Bs.giZ S i ≤ 100000) (v : Nat) (hv : v < g.length) (t : Int) (ht : 0 ≤ t ∧ t ≤ 100000) W (hb : Below w.heap.size w W) (hA : Arr W w.heap.size S) => show Calls Try.prog 111 #[.slice A g.length c, .slice A1 m.length c1, .int .i64 wk, .slice (some ⟨w.heap.size, 0, none⟩) g.length g.length, .int .i64 (v : Int), .int .i64 t] W fun e w' => e = .returned (.bool (Bs.fitW g m wk S v t)) ∧ Below W.heap.size W w' from by
    have q := fitsS_any A c g A1 c1 m wk (some ⟨w.heap.size, 0, none⟩) g.length S v t lo hi l1 h1 _ _ W (h.below hb hh) (Nat.le_trans hh hb.size) (hm.below hb hh1) (Nat.le_trans hh1 hb.size) (hA.ri (by omega)) (Nat.le_refl _) hF hroom hSl hSb hv ht
    rw [hSl] at q
    exact q)
  have HLS := Lib.hid (fun (S L : List Int) (hp : Bs.Pla g m wk S L) (v : Nat) (hv : v < g.length) hn => hp.lst hF hroom hw1 (a := v) hv hn)
  have HPS := Lib.hid (fun (S L : List Int) (hp : Bs.Pla g m wk S L) => And.intro (hp.sm hF) (fun i => hp.b hF i))
  have HTT := Lib.hid (fun i (hi : i < g.length) => Bs.fine_time' hF hi)
  have HNI := Lib.hid (fun v (hv : v < g.length) => And.intro (Bs.inG_mem (Bs.fine_inG hF hv)) (Bs.fine_needs_len hF hv))
  have HAT := Lib.hid hat
  have HG := Lib.hid h
  have HL := Lib.hid hs
  have ha0 := Lib.hid (show Arr (w.alloc (.cells (intsA (List.replicate g.length 0)) 3)) w.heap.size (fillS g.length 0) from by unfold fillS; simp only [List.replicate_zero, List.nil_append, Nat.sub_zero]; exact Blk.new w _ _)
  have hb0 := Lib.hid (show Below w.heap.size w (w.alloc (.cells (intsA (List.replicate g.length 0)) 3)) from (Below.refl _ _).alloc (Nat.le_refl _) _)
  clear hF hroom ho hat hlen h hm hs
  generalize (.cells (intsA (List.replicate g.length 0)) 3 : Obj) = ob at *
  go_enter Try.func72, Try.ntmps72
  go_wp2
  go_loopw [10] (fun i wr => ∃ (k : Nat), k ≤ g.length ∧ i = .int .i64 k ∧ Arr wr w.heap.size (fillS g.length k) ∧ Below w.heap.size w wr) (fun i _ => g.length - (intOf i).toNat)
  case atStart => exact ⟨0, Nat.zero_le _, rfl, ha0.out, hb0.out⟩
  case round =>
    obtain ⟨k, hk, rfl, hA, hb⟩ := hrel
    clear ha0 hb0 hmk
    by_cases hlt : k < g.length
    · have hfl := fillS_len (n := g.length) (k := k) (by omega)
      have kc := hA.at_ (i := k) (by omega)
      have kf := hA.frozen k
      have hs := hA.set_ k 200
      rw [fillS_succ hlt] at hs
      have HS := Lib.hid hs
      have HB := Lib.hid hb
      have i0 : (0 : Int) ≤ (k : Int) := by omega
      have i1 : (k : Int) < (g.length : Int) := by omega
      clear hs hA hb hfl
      go_wp2
      go_roundw
      case rel => exact ⟨k + 1, by omega, by go_num, HS.out, HB.out.setCell (Nat.le_refl _) _⟩
      case measure => simp [intOf]; omega
    · obtain rfl : k = g.length := by omega
      have hA2 : Arr wr w.heap.size (Bs.osK g m wk l 0) := by
        have e : fillS g.length g.length = Bs.osK g m wk l 0 := by unfold fillS; simp [Bs.osK]
        rw [← e]
        exact hA
      have HA2 := Lib.hid hA2
      have HB2 := Lib.hid hb
      clear hA hA2 hb
      go_wp2
      go_loopw [11] (fun i wr => ∃ (k : Nat), k ≤ l.length ∧ i = .int .i64 k ∧ Arr wr w.heap.size (Bs.osK g m wk l k) ∧ Below w.heap.size w wr) (fun i _ => l.length - (intOf i).toNat)
      case atStart => exact ⟨0, Nat.zero_le _, rfl, HA2.out, HB2.out⟩
      case round =>
        clear HA2 HB2
        obtain ⟨k, hk, rfl, hA, hb⟩ := hrel
        have hpk := HP.out k hk
        by_cases hlt : k < l.length
        · obtain ⟨b, o, rfl, _, _, hc⟩ := (HL.out.below hb hh2).at_ hlt
          obtain ⟨hx, hok⟩ := HAT.out k hlt
          have hos := Bs.osK_succ (g := g) (m := m) (wk := wk) hlt
          have hstep : Bs.osStep g m wk (Bs.osK g m wk l k) l[k] = (Bs.osK g m wk l k).set l[k].toNat (Bs.seekT g m wk (Bs.osK g m wk l k) l[k].toNat) := rfl
          rw [hstep] at hos
          have hneed : ∀ y ∈ Bs.need g l[k].toNat, y ∈ l.take k := by
            intro y hy
            unfold Bs.okNext at hok
            rw [Bool.and_eq_true, List.all_eq_true] at hok
            simpa using hok.2 y hy
          obtain ⟨x, hxe⟩ : ∃ x, x = l[k] := ⟨_, rfl⟩
          rw [← hxe] at hc hx hos hneed
          obtain ⟨v, rfl⟩ : ∃ v : Nat, x = (v : Int) := ⟨x.toNat, by omega⟩
          rw [Int.toNat_natCast] at hos hneed
          have hv : v < g.length := by omega
          obtain ⟨hLst, hR0, hR1, ht0, ht1⟩ := HLS.out _ _ hpk v hv hneed
          obtain ⟨hsm, hSb⟩ := HPS.out _ _ hpk
          obtain ⟨hni, hnl⟩ := HNI.out v hv
          have hSl := hpk.len
          have hne : Bs.needsOv g (Bs.giZ (Bs.osK g m wk l k)) v = Bs.maxL (g[v].needs.map (Bs.ovF g (Bs.giZ (Bs.osK g m wk l k)))) := by rw [← need_at hv]; rfl
          generalize Bs.osK g m wk l k = S at *
          have hR160 : Bs.seekT g m wk S v ≤ 160 := by omega
          have ht160 : Bs.needsOv g (Bs.giZ S) v ≤ 160 := by omega
          have HOS := Lib.hid hos
          have HGE := Lib.hid hLst.ge
          have HFIT := Lib.hid hLst.fit
          have HNO := Lib.hid hLst.no
          have HNE := Lib.hid hne
          have HSB := Lib.hid hSb
          have HSL := Lib.hid hSl
          have HNI2 := Lib.hid hni
          have HA := Lib.hid hA
          have HB := Lib.hid hb
          have i0 : (0 : Int) ≤ (v : Int) := by omega
          have i1 : (v : Int) < (g.length : Int) := by omega
          have j0 : (0 : Int) ≤ (k : Int) := by omega
          have j1 : (k : Int) < (l.length : Int) := by omega
          obtain ⟨bg, og, N, cN, rfl, _, hgh, k0, k1, _, _, hlN, hcN, hN⟩ := (HG.out.below hb hh) v hv
          clear hxe hok hpk hneed hsm hni hos hLst hne hSb hSl hA hb hstep hN k0 hR1 ht1
          generalize Bs.seekT g m wk S v = R at *
          generalize Bs.needsOv g (Bs.giZ S) v = t0 at *
          go_wp2
          go_loopw [13, 14] (fun s i wr => ∃ (p : Nat) (t : Int), p ≤ g[v].needs.length ∧ s = .int .i64 t ∧ i = .int .i64 p ∧ t = Bs.maxL ((g[v].needs.take p).map (Bs.ovF g (Bs.giZ S))) ∧ Arr wr w.heap.size S ∧ Below w.heap.size w wr) (fun _ i _ => g[v].needs.length - (intOf i).toNat)
          case atStart => exact ⟨0, 0, Nat.zero_le _, rfl, rfl, by simp [Bs.maxL], HA.out, HB.out⟩
          case round =>
            clear HA HB k1 hc
            obtain ⟨p, t, hp, rfl, rfl, ht, hA, hb⟩ := hrel
            have hG := HG.out.below hb hh
            obtain ⟨bg', og', N', cN', hA', _, _, k0, k1, _, _, hlN, hcN, hN⟩ := hG v hv
            obtain ⟨rfl, rfl⟩ : bg' = bg ∧ og' = og := by injection hA' with e; injection e with e1 e2 _; exact ⟨e1.symm, e2.symm⟩
            by_cases hplt : p < g[v].needs.length
            · obtain ⟨bN, oN, rfl, _, _, hcN2⟩ := hN.at_ hplt
              have hx2 := HNI2.out _ (List.getElem_mem hplt)
              have hst : Bs.maxL ((g[v].needs.take (p + 1)).map (Bs.ovF g (Bs.giZ S))) = max t (Bs.ovF g (Bs.giZ S) g[v].needs[p]) := by
                rw [List.take_succ_eq_append_getElem hplt, List.map_append, ht]
                exact Bs.maxL_append _ _
              obtain ⟨y, hy⟩ : ∃ y : Nat, g[v].needs[p] = (y : Int) := ⟨g[v].needs[p].toNat, by omega⟩
              rw [hy] at hcN2 hx2 hst
              have hyl : y < g.length := by omega
              obtain ⟨bg2, og2, N2, cN2, hA2, _, _, y0, _⟩ := hG y hyl
              obtain ⟨rfl, rfl⟩ : bg2 = bg' ∧ og2 = og' := by injection hA2 with e; injection e with e1 e2 _; exact ⟨e1.symm, e2.symm⟩
              have ys := hA.at_ (i := y) (by rw [HSL.out]; exact hyl)
              have hyt := HTT.out y hyl
              have hys := HSB.out y
              have hov : Bs.ovF g (Bs.giZ S) (y : Int) = Bs.giZ S y + g[y].time := by unfold Bs.ovF; rw [Int.toNat_natCast, time_at hyl]
              rw [hov] at hst
              have HS := Lib.hid hst
              have HA := Lib.hid hA
              have HB := Lib.hid hb
              have e0 : (0 : Int) ≤ (y : Int) := by omega
              have e1 : (y : Int) < (g.length : Int) := by omega
              have f0 : (0 : Int) ≤ (p : Int) := by omega
              have f1 : (p : Int) < (g[v].needs.length : Int) := by omega
              clear ht hA hb hst hy hov hN hG hA' hA2 k0
              generalize g[y].time = ty at *
              generalize Bs.giZ S y = sy at *
              have hw : IntKind.i64.wrap (sy + ty) = sy + ty := IntWalk.i64_in _ ⟨by omega, by omega⟩
              go_wp2
              go_quiet (fail)
              go_wp2
              go_roundw
              case rel => exact ⟨p + 1, max t (sy + ty), by omega, by first | rfl | (congr 1; split <;> omega) | (congr 1; omega), by go_num, HS.out.symm, HA.out.drewN _, HB.out.drewN _⟩
              case measure => simp [intOf]; omega
            · have e : g[v].needs.take p = g[v].needs := List.take_of_length_le (by omega)
              rw [e, ← HNE.out] at ht
              have ht2 := ht.symm
              clear ht
              subst ht2
              have HA := Lib.hid hA
              have HB := Lib.hid hb
              have htR := HGE.out
              clear hA hb e hN hG hA' k0
              go_wp2
              go_loopw [13] (fun i wr => ∃ (t : Int), i = .int .i64 t ∧ t0 ≤ t ∧ t ≤ R ∧ Arr wr w.heap.size S ∧ Below w.heap.size w wr) (fun i _ => (R - intOf i).toNat)
              case atStart => exact ⟨t0, rfl, Int.le_refl _, htR, HA.out, HB.out⟩
              case round =>
                clear HA HB
                obtain ⟨t, rfl, h1t, h2t, hA, hb⟩ := hrel
                have c4 := HFT.out S HSL.out (fun i _ => by have := HSB.out i; omega) v hv t (by omega) wr hb hA
                cases hf : Bs.fitW g m wk S v t
                · have hneR : t ≠ R := by
                    rintro rfl
                    have := HFIT.out
                    rw [hf] at this
                    cases this
                  rw [hf] at c4
                  have C4 := Lib.hid c4
                  have HA := Lib.hid hA
                  have HB := Lib.hid hb
                  clear c4 hA hb hf
                  go_wp2_with fail
                  with_reducible refine (C4.out).mono ?_
                  rintro e w3 ⟨rfl, hb3⟩
                  have HA3 := Lib.hid (HA.out.below hb3 HA.out.lt)
                  have HB3 := Lib.hid (HB.out.trans (hb3.mono HB.out.size))
                  clear hb3 C4 HA HB
                  go_wp2
                  go_roundw
                  case rel => exact ⟨t + 1, by go_num, by omega, by omega, HA3.out, HB3.out⟩
                  case measure => simp [intOf]; omega
                · have htR2 : t = R := by
                    rcases Int.lt_or_le t R with e | e
                    · exfalso
                      have := HNO.out t h1t e
                      rw [hf] at this
                      cases this
                    · omega
                  rw [hf] at c4
                  have C4 := Lib.hid c4
                  have HA := Lib.hid hA
                  have HB := Lib.hid hb
                  clear c4 hA hb hf HFIT HNO HGE HFT
                  subst htR2
                  go_wp2_with fail
                  with_reducible refine (C4.out).mono ?_
                  rintro e w3 ⟨rfl, hb3⟩
                  have hA3 := HA.out.below hb3 HA.out.lt
                  have HB3 := Lib.hid (HB.out.trans (hb3.mono HB.out.size))
                  have kc := hA3.at_ (i := v) (by rw [HSL.out]; exact hv)
                  have kf := hA3.frozen v
                  have hs3 := hA3.set_ v t
                  rw [← HOS.out] at hs3
                  have HS3 := Lib.hid hs3
                  clear hb3 C4 HA HB hA3 hs3
                  go_wp2
                  go_roundw
                  case rel => exact ⟨k + 1, by omega, by go_num, HS3.out, HB3.out.setCell (Nat.le_refl _) _⟩
                  case measure => simp [intOf]; omega
        · obtain rfl : k = l.length := by omega
          have hlnn := hpk.len
          have hO := hA.oi (B := w.heap.size) (Nat.le_refl _) (by omega)
          have HO := Lib.hid hO
          have HB := Lib.hid hb
          clear hO hA hb hpk
          go_wp2
          go_ret
          refine ⟨⟨_, _, ?_, HO.out⟩, HB.out⟩
          rw [hlnn]
          rfl
theorem OrderStartsS_any (A : Option Addr) (c : Nat) (g : List Bs.T) (A1 : Option Addr) (c1 : Nat) (m : List Int) (A2 : Option Addr) (c2 : Nat) (l : List Int) (wk : Int) (lo hi l1 h1 l2 h2 : Nat) (w : World) (h : RG w lo hi A g) (hh : hi ≤ w.heap.size) (hm : RI w l1 h1 A1 m) (hh1 : h1 ≤ w.heap.size) (hs : RI w l2 h2 A2 l) (hh2 : h2 ≤ w.heap.size) (hl : g.length ≤ 9223372036854775807) (hml : m.length ≤ 9223372036854775807) (hlc : l.length ≤ c2) (_hsl : l.length ≤ 9223372036854775807) :
    Calls Try.prog 34 #[.slice A g.length c, .slice A1 m.length c1, .int .i64 wk, .slice A2 l.length c2] w (RetI w (Bs.osL g m wk l)) := by
  have q1 := validSearchS_any A c g A1 c1 m wk lo hi l1 h1 w h hh hm hh1 hl hml
  cases hv : Bs.seaV g m wk
  · rw [hv] at q1
    have C1 := Lib.hid q1
    have HV := Lib.hid (Bs.osL_no1 (l := l) hv)
    clear q1 hv h hm hs
    go_enter Try.func34, Try.ntmps34
    go_wp2_with fail
    with_reducible refine (C1.out).mono ?_
    rintro e w1 ⟨rfl, hb⟩
    have HB := Lib.hid hb
    clear hb
    go_wp2
    go_ret
    exact RetI.nil HB.out HV.out
  have hcv : Bs.canV g m wk = true := by unfold Bs.seaV at hv; rw [Bool.and_eq_true] at hv; exact hv.1
  obtain ⟨hval, hroom, hw1, hw4⟩ := Bs.canV_iff.1 hcv
  have hF := valid_fine hval
  have q2 := fun W (hb : Below w.heap.size w W) => isOrderS_any A c g A2 c2 l lo hi l2 h2 W (h.below hb hh) (hs.below hb hh2) hlc hF
  rw [hv] at q1
  have C1 := Lib.hid q1
  cases ho : Bs.isOrd g l
  · rw [ho] at q2
    have C2 := Lib.hid q2
    have HV := Lib.hid (Bs.osL_no2 (m := m) (wk := wk) ho)
    clear q1 q2 hv h hm hs hcv hval hroom hF ho
    go_enter Try.func34, Try.ntmps34
    go_wp2_with fail
    with_reducible refine (C1.out).mono ?_
    rintro e w1 ⟨rfl, hb⟩
    have HB := Lib.hid hb
    have C3 := Lib.hid (C2.out w1 hb)
    clear hb C2
    go_wp2_with fail
    with_reducible refine (C3.out).mono ?_
    rintro e w2 ⟨rfl, n, rfl⟩
    go_wp2
    go_ret
    exact RetI.nil (HB.out.drewN n) HV.out
  rw [ho] at q2
  have C2 := Lib.hid q2
  have HV := Lib.hid (Bs.osL_yes (m := m) (wk := wk) hv ho)
  have C4 := Lib.hid (fun W (hb : Below w.heap.size w W) => orderS_any A c g A1 c1 m wk A2 c2 l lo hi l1 h1 l2 h2 W (h.below hb hh) (Nat.le_trans hh hb.size) (hm.below hb hh1) (Nat.le_trans hh1 hb.size) (hs.below hb hh2) (Nat.le_trans hh2 hb.size) hF hroom hw1 ho)
  clear q1 q2 hv h hm hs hcv hval hroom hF ho
  go_enter Try.func34, Try.ntmps34
  go_wp2_with fail
  with_reducible refine (C1.out).mono ?_
  rintro e w1 ⟨rfl, hb⟩
  have HB := Lib.hid hb
  have C3 := Lib.hid (C2.out w1 hb)
  clear hb C2
  go_wp2_with fail
  with_reducible refine (C3.out).mono ?_
  rintro e w2 ⟨rfl, n, rfl⟩
  have HB2 := Lib.hid (HB.out.drewN n)
  clear HB C3
  go_wp2_with fail
  with_reducible refine (C4.out _ HB2.out).mono ?_
  intro e w3 hr
  obtain ⟨⟨A3, c3, rfl, ho3⟩, hb3⟩ := RetI.after HB2.out hr HV.out.symm
  go_wp2
  go_ret
  exact ⟨⟨A3, c3, rfl, ho3⟩, hb3⟩
end Go.Proofs.Ytgpmnfnliifegaa
