/-
  WALKS: does a task fit from a time on, of the model.
-/
import Derived.Test.YtfdaeomlgpflhaaR31
import Derived.Test.YtfdaeomlgpflhaaR7
namespace Go.Proofs.Ytfdaeomlgpflhaa
open Go.RowKit
theorem fitW_no {g : List Bs.T} {m : List Int} {wk : Int} {S : List Int} {a : Nat} {now : Int} {d : Nat} (hd : (d : Int) < Bs.timeOf g a) (h : Bs.wOk g m wk S a (now + d) = false) : Bs.fitW g m wk S a now = false := by
  unfold Bs.fitW
  rw [List.all_eq_false]
  exact ⟨d, by rw [List.mem_range]; omega, by rw [h]; simp⟩
theorem fitW_yes {g : List Bs.T} {m : List Int} {wk : Int} {S : List Int} {a : Nat} {now : Int} (h : ∀ d : Nat, (d : Int) < Bs.timeOf g a → Bs.wOk g m wk S a (now + d) = true) : Bs.fitW g m wk S a now = true := by
  unfold Bs.fitW
  rw [List.all_eq_true]
  intro d hd
  rw [List.mem_range] at hd
  exact h d (by omega)
set_option maxRecDepth 20000 in
set_option maxHeartbeats 1600000 in
theorem fitsS_any (A : Option Addr) (c : Nat) (g : List Bs.T) (A1 : Option Addr) (c1 : Nat) (m : List Int) (wk : Int) (A2 : Option Addr) (c2 : Nat) (S : List Int) (a : Nat) (now : Int) (lo hi l1 h1 l2 h2 : Nat) (w : World) (h : RG w lo hi A g) (hh : hi ≤ w.heap.size) (hm : RI w l1 h1 A1 m) (hh1 : h1 ≤ w.heap.size) (hs : RI w l2 h2 A2 S) (hh2 : h2 ≤ w.heap.size) (hF : Bs.fine g = true) (hroom : Bs.roomOk m = true) (hSl : S.length = g.length) (hSb : ∀ i, i < g.length → 0 ≤ Bs.giZ S i ∧ Bs.giZ S i ≤ 100000) (ha : a < g.length) (hn : 0 ≤ now ∧ now ≤ 100000) :
    Calls Try.prog 100 #[.slice A g.length c, .slice A1 m.length c1, .int .i64 wk, .slice A2 S.length c2, .int .i64 (a : Int), .int .i64 now] w fun e w' => e = .returned (.bool (Bs.fitW g m wk S a now)) ∧ Below w.heap.size w w' := by
  have hgl := Bs.fine_len hF
  have HM3 := Lib.hid (Bs.roomOk_len hroom)
  have hta := Bs.fine_time' hF ha
  have hpu := Bs.fine_task hF (i := a) ha
  obtain ⟨pv, hpv⟩ : ∃ pv : Nat, g[a].pool = (pv : Int) := ⟨g[a].pool.toNat, by omega⟩
  rw [hpv] at hpu
  have hp3 : pv < m.length := by have := HM3.out; omega
  have HG := Lib.hid h
  have HM := Lib.hid hm
  have HU := Lib.hid (fun r hr => Bs.usedC_bd hF (pv : Int) r hr)
  have HRA := Lib.hid (fun (t : Int) W (hb : Below w.heap.size w W) => runningAtS_any A c g A2 c2 S t lo hi l2 h2 W (h.below hb hh) (Nat.le_trans hh hb.size) (hs.below hb hh2) (Nat.le_trans hh2 hb.size) hF (by omega) (by omega) hSb)
  have CU := Lib.hid (fun (An : Option Addr) (cn : Nat) (nw : List Int) (lo' hi' : Nat) W (hb : Below w.heap.size w W) (hn : RI W lo' hi' An nw) (hr : ∀ x ∈ nw, 0 ≤ x ∧ x < g.length) (hl : nw.length ≤ 1000000) => used_quiet0 A c g An cn nw (pv : Int) lo hi lo' hi' W (h.below hb hh) hn hF hr hl)
  have HE := Lib.hid (fun (t : Int) => show Bs.wOk g m wk S a t = (decide (((Bs.runAt g S t).length : Int) < wk) && decide (Bs.usedC g (Bs.runAt g S t) (pv : Int) + g[a].units ≤ Bs.giZ m pv)) from by
    unfold Bs.wOk
    rw [Bs.pool_at ha, Bs.units_at ha, hpv, Int.toNat_natCast])
  have hte := time_at ha
  have HNO := Lib.hid (fun (d : Nat) hd hw => fitW_no (g := g) (m := m) (wk := wk) (S := S) (a := a) (now := now) (d := d) hd hw)
  have HYES := Lib.hid (fun hw => fitW_yes (g := g) (m := m) (wk := wk) (S := S) (a := a) (now := now) hw)
  rw [hte] at HNO HYES
  have i0 : (0 : Int) ≤ (a : Int) := by omega
  have i1 : (a : Int) < (g.length : Int) := by omega
  have j0 : (0 : Int) ≤ (pv : Int) := by omega
  have j1 : (pv : Int) < (m.length : Int) := by omega
  obtain ⟨bg, og, N, cN, rfl, _, hgh, k0, _, k2, k3, _, _, _⟩ := h a ha
  obtain ⟨bm, om, rfl, _, hbm, hcm⟩ := hm.at_ hp3
  rw [← Bs.giZ_at hp3] at hcm
  rw [hpv] at k2
  have K := Lib.hid (fun W (hb : Below w.heap.size w W) => show W.cell? ⟨bg, og + a * 4, none⟩ = some (.int .i64 g[a].time) ∧ W.cell? ⟨bg, og + a * 4 + 2, none⟩ = some (.int .i64 (pv : Int)) ∧ W.cell? ⟨bg, og + a * 4 + 3, none⟩ = some (.int .i64 g[a].units) ∧ W.cell? ⟨bm, om + pv, none⟩ = some (.int .i64 (Bs.giZ m pv)) from
    ⟨(hb.cell (p := ⟨bg, og + a * 4, none⟩) (by show bg < _; omega)).trans k0, (hb.cell (p := ⟨bg, og + a * 4 + 2, none⟩) (by show bg < _; omega)).trans k2, (hb.cell (p := ⟨bg, og + a * 4 + 3, none⟩) (by show bg < _; omega)).trans k3, (hb.cell (p := ⟨bm, om + pv, none⟩) (by show bm < _; omega)).trans hcm⟩)
  clear h hm hs hF hroom hSb k0 k2 k3 hcm hte HG HM hpv hSl
  generalize g[a].time = ta at *
  generalize g[a].units = ua at *
  generalize Bs.giZ m pv = mp at *
  have hw1 : IntKind.i64.wrap (now + ta) = now + ta := IntWalk.i64_in _ ⟨by omega, by omega⟩
  go_enter Try.func100, Try.ntmps100
  go_wp2
  go_loopw [13] (fun i wr => ∃ (d : Nat), (d : Int) ≤ ta ∧ i = .int .i64 (now + d) ∧ (∀ e : Nat, e < d → Bs.wOk g m wk S a (now + e) = true) ∧ Below w.heap.size w wr) (fun i _ => (now + ta - intOf i).toNat)
  case atStart => exact ⟨0, by omega, by simp, fun e he => by omega, Below.refl _ _⟩
  case round =>
    obtain ⟨d, hd, rfl, hD, hb⟩ := hrel
    obtain ⟨k0, k2, k3, hcm⟩ := K.out wr hb
    by_cases hlt : (d : Int) < ta
    · have d1 : decide (now + (d : Int) < now + ta) = true := by simp; omega
      have C1 := Lib.hid (HRA.out (now + (d : Int)) wr hb)
      have hwe := HE.out (now + (d : Int))
      have hri := Bs.runAt_in (g := g) (S := S) (now := now + (d : Int))
      have hrl := Bs.runAt_len g S (now + (d : Int))
      have HNO2 := Lib.hid (HNO.out d hlt)
      have HD := Lib.hid (fun (hx : Bs.wOk g m wk S a (now + (d : Int)) = true) => show ∀ e : Nat, e < d + 1 → Bs.wOk g m wk S a (now + e) = true from fun e he => by
        by_cases hed : e = d
        · subst hed; exact hx
        · exact hD e (by omega))
      generalize Bs.runAt g S (now + (d : Int)) = R at *
      have hub := HU.out R hri
      have HB := Lib.hid hb
      have HRI := Lib.hid hri
      clear hD hb hri HRA HNO HYES HE
      go_wp2_with fail
      with_reducible refine (C1.out).mono ?_
      rintro e w1 ⟨⟨A3, c3, rfl, ho3⟩, hb1⟩
      have HB1 := Lib.hid (HB.out.trans (hb1.mono HB.out.size))
      obtain ⟨k0', k2', k3', hcm'⟩ := K.out w1 HB1.out
      have C5 := fun n => Lib.hid (CU.out A3 c3 R _ _ w1 HB1.out ho3.ri HRI.out (by omega) n)
      clear hb1 C1 HB k0 k2 k3 hcm ho3
      generalize Bs.usedC g R (pv : Int) = u at *
      have hw2 : IntKind.i64.wrap (u + ua) = u + ua := IntWalk.i64_in _ ⟨by omega, by omega⟩
      by_cases g1 : (R.length : Int) < wk
      · have d2 : decide ((R.length : Int) < wk) = true := by simp [g1]
        have d3 : decide ((R.length : Int) ≥ wk) = false := by simp; omega
        have d4 : decide (wk ≤ (R.length : Int)) = false := by simp; omega
        by_cases g2 : u + ua ≤ mp
        · have d5 : decide (u + ua ≤ mp) = true := by simp [g2]
          have d6 : decide (u + ua > mp) = false := by simp; omega
          have d7 : decide (mp < u + ua) = false := by simp; omega
          rw [d2, d5] at hwe
          have HS := Lib.hid (HD.out (hwe.trans rfl))
          clear hwe g1 g2
          go_wp2
          go_quiet ((go_at_call 108; exact ((C5 _).out)))
          go_wp2
          go_roundw
          case rel => exact ⟨d + 1, by omega, by go_num, HS.out, HB1.out.drewN _⟩
          case measure => simp [intOf]; omega
        · have d5 : decide (u + ua ≤ mp) = false := by simp; omega
          have d6 : decide (u + ua > mp) = true := by simp; omega
          have d7 : decide (mp < u + ua) = true := by simp; omega
          rw [d2, d5] at hwe
          have HS := Lib.hid (HNO2.out (hwe.trans rfl))
          clear hwe g1 g2
          go_wp2
          go_quiet ((go_at_call 108; exact ((C5 _).out)))
          go_wp2
          go_ret
          exact ⟨ret_bool HS.out.symm, HB1.out.drewN _⟩
      · have d2 : decide ((R.length : Int) < wk) = false := by simp; omega
        have d3 : decide ((R.length : Int) ≥ wk) = true := by simp; omega
        have d4 : decide (wk ≤ (R.length : Int)) = true := by simp; omega
        rw [d2, Bool.false_and] at hwe
        have HS := Lib.hid (HNO2.out hwe)
        clear hwe g1
        go_wp2
        go_quiet (fail)
        go_wp2
        go_ret
        exact ⟨ret_bool HS.out.symm, HB1.out.drewN _⟩
    · have d1 : decide (now + (d : Int) < now + ta) = false := by simp; omega
      have HY := Lib.hid (HYES.out (fun e he => hD e (by omega)))
      have HB := Lib.hid hb
      clear hD hb
      go_wp2
      go_ret
      exact ⟨ret_bool HY.out.symm, HB.out⟩
end Go.Proofs.Ytfdaeomlgpflhaa
