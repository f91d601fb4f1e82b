/-
  MERGED TEXTS: R20 R21 R23 R24.
-/
import Derived.Test.YtihgakbopkaemaaK36
import Derived.Test.YtihgakbopkaemaaK16
import Derived.Test.YtihgakbopkaemaaR9
import Derived.Test.YtihgakbopkaemaaK45
import Derived.Deep.RegionHeld
namespace Go.Proofs.Ytihgakbopkaemaa
open Go.RowKit
set_option maxHeartbeats 800000 in
theorem runningAtS_any (A : Option Addr) (c : Nat) (g : List Bs.T) (A1 : Option Addr) (c1 : Nat) (S : List Int) (now : Int) (lo hi l1 h1 : Nat) (w : World) (h : RG w lo hi A g) (hh : hi ≤ w.heap.size) (hs : RI w l1 h1 A1 S) (hh1 : h1 ≤ w.heap.size) (hF : Bs.fine g = true) (hSl : g.length ≤ S.length) (hSc : S.length ≤ 9223372036854775807) (hSb : ∀ i, i < g.length → 0 ≤ Bs.giZ S i ∧ Bs.giZ S i ≤ 100000) :
    Calls Try.prog 50 #[.slice A g.length c, .slice A1 S.length c1, .int .i64 now] w (RetI w (Bs.runAt g S now)) := by
  have hgl := Bs.fine_len hF
  have HO0 := Lib.hid (OI.new w w.heap.size (Nat.le_refl _))
  have HL0 := Lib.hid ((Below.refl w.heap.size w).alloc (Nat.le_refl _) (.cells #[] 3))
  have HT := Lib.hid (fun i (hi : i < g.length) => Bs.fine_time' hF hi)
  have HSB := Lib.hid hSb
  have HG := Lib.hid h
  have HI := Lib.hid hs
  have HE := Lib.hid (show Bs.runAt g S now = Bs.pick g.length (Bs.runAp g S now) from rfl)
  clear h hs hSb hF
  go_enter Try.func50, Try.ntmps50
  go_wp2
  go_loopw [7, 8] (fun vo i wr => ∃ (k : Nat) (A' : Option Addr) (c' : Nat) (o : List Int), k ≤ g.length ∧ vo = .slice A' o.length c' ∧ i = .int .i64 k ∧ o = Bs.pick k (Bs.runAp g S now) ∧ OI wr w.heap.size A' c' o ∧ Below w.heap.size w wr) (fun _ i _ => g.length - (intOf i).toNat)
  case atStart => exact ⟨0, _, _, [], Nat.zero_le _, rfl, rfl, rfl, HO0.out, HL0.out⟩
  case round =>
    obtain ⟨k, A', c', o, hk, rfl, rfl, ho, hO, hb⟩ := hrel
    clear HO0 HL0
    by_cases hlt : k < g.length
    · have hks : k < S.length := by omega
      obtain ⟨b, o1, rfl, _, hbh, hc⟩ := (HI.out.below hb hh1).at_ hks
      obtain ⟨bg, og, N, cN, rfl, _, hgh, k0, _, _, _, hnc, hcN, hN⟩ := (HG.out.below hb hh) k hlt
      rw [← Bs.giZ_at hks] at hc
      have hsb := HSB.out k hlt
      have htb := HT.out k hlt
      have hp := Bs.pick_succ k (Bs.runAp g S now)
      rw [← ho] at hp
      have hpe : Bs.runAp g S now k = (decide (Bs.giZ S k ≤ now) && decide (now < Bs.giZ S k + g[k].time)) := by rw [← time_at hlt]; rfl
      rw [hpe] at hp
      have hol := Bs.pick_len k (Bs.runAp g S now)
      rw [← ho] at hol
      have HOL := Lib.hid hol
      have HO := Lib.hid hO
      have HBb := Lib.hid hb
      have sr := hb.size
      have i0 : (0 : Int) ≤ (k : Int) := by omega
      have i1 : (k : Int) < (S.length : Int) := by omega
      have i2 : (k : Int) < (g.length : Int) := by omega
      clear ho hpe hO hb hol hN
      generalize g[k].time = tk at *
      generalize Bs.giZ S k = sk at *
      have hw : IntKind.i64.wrap (sk + tk) = sk + tk := IntWalk.i64_in _ ⟨by omega, by omega⟩
      by_cases g1 : sk ≤ now
      · have d1 : decide (sk ≤ now) = true := by simp [g1]
        by_cases g2 : now < sk + tk
        · have d2 : decide (now < sk + tk) = true := by simp [g2]
          rw [d1, d2] at hp
          simp only [Bool.and_self, if_true] at hp
          have HP := Lib.hid hp.symm
          clear hp
          go_wp2
          go_quiet (fail)
          have HO1 := Lib.hid (HO.out.drewN nq)
          have HBb1 := Lib.hid (HBb.out.drewN nq)
          clear hc k0
          generalize wr.drewN nq = W1 at *
          have HO2 := Lib.hid (HO1.out.alloc (.cells #[.int .i64 (k : Int)] 3))
          have s1 := HBb1.out.size
          have HBb2 := Lib.hid (HBb1.out.alloc s1 (.cells #[.int .i64 (k : Int)] 3))
          go_wp2_with (first
            | (at_builtin; refine push_int rfl _ _ rfl w.heap.size A' c' o (k : Int) rfl HO2.out W1.heap.size 1 rfl (by simp [go_sem]) (by have := HOL.out; omega) (by simp; omega) ?_; intro A6 c6 w6 ho6 hb6 _; have HO6 := Lib.hid ho6; have HBb6 := Lib.hid (HBb2.out.trans (hb6.mono (Nat.le_refl _))); clear ho6 hb6))
          go_roundw
          case rel => exact ⟨k + 1, A6, c6, o ++ [(k : Int)], by omega, by rw [List.length_append]; rfl, by go_num, HP.out, HO6.out, HBb6.out⟩
          case measure => simp [intOf]; omega
        · have d2 : decide (now < sk + tk) = false := by simp; omega
          rw [d1, d2] at hp
          simp only [Bool.and_false, Bool.false_eq_true, if_false] at hp
          have HP := Lib.hid hp.symm
          clear hp
          go_wp2
          go_quiet (fail)
          go_wp2
          go_roundw
          case rel => exact ⟨k + 1, A', c', o, by omega, rfl, by go_num, HP.out, HO.out.drewN _, HBb.out.drewN _⟩
          case measure => simp [intOf]; omega
      · have d1 : decide (sk ≤ now) = false := by simp; omega
        rw [d1] at hp
        simp only [Bool.false_and, Bool.false_eq_true, if_false] at hp
        have HP := Lib.hid hp.symm
        clear hp
        go_wp2
        go_quiet (fail)
        go_wp2
        go_roundw
        case rel => exact ⟨k + 1, A', c', o, by omega, rfl, by go_num, HP.out, HO.out.drewN _, HBb.out.drewN _⟩
        case measure => simp [intOf]; omega
    · obtain rfl : k = g.length := by omega
      have HO := Lib.hid hO
      have HBb := Lib.hid hb
      have HQ := Lib.hid ho
      clear hO hb ho
      go_wp2
      go_ret
      rw [HE.out, ← HQ.out]
      exact ⟨⟨A', c', rfl, HO.out⟩, HBb.out⟩
end Go.Proofs.Ytihgakbopkaemaa
namespace Go.Proofs.Ytihgakbopkaemaa
open Go.RowKit
theorem need_no {g : List Bs.T} {S : List Int} {k : Nat} (hk : k < g.length) {x : Int} (hx : x ∈ g[k].needs) (h : ¬ Bs.giZ S x.toNat + Bs.timeOf g x.toNat ≤ Bs.giZ S k) : Bs.needOkB g S k = false := by
  unfold Bs.needOkB
  rw [need_at hk, List.all_eq_false]
  exact ⟨x, hx, by rw [decide_eq_true_eq]; exact h⟩
theorem need_yes {g : List Bs.T} {S : List Int} {k : Nat} (hk : k < g.length) (h : ∀ j (hj : j < g[k].needs.length), Bs.giZ S g[k].needs[j].toNat + Bs.timeOf g g[k].needs[j].toNat ≤ Bs.giZ S k) : Bs.needOkB g S k = true := by
  unfold Bs.needOkB
  rw [need_at hk, List.all_eq_true]
  intro x hx
  obtain ⟨j, hj, rfl⟩ := List.mem_iff_getElem.1 hx
  rw [decide_eq_true_eq]
  exact h j hj
theorem stV_no3 {g : List Bs.T} {m S : List Int} {wk : Int} (h : Bs.stK g m wk S g.length = false) : Bs.stV g m wk S = false := by unfold Bs.stV; rw [h]; simp
set_option maxHeartbeats 1600000 in
theorem validStartsS_any (A : Option Addr) (c : Nat) (g : List Bs.T) (A1 : Option Addr) (c1 : Nat) (m : List Int) (A2 : Option Addr) (c2 : Nat) (S : List Int) (wk : Int) (lo hi l1 h1 l2 h2 : Nat) (w : World) (h : RG w lo hi A g) (hh : hi ≤ w.heap.size) (hm : RI w l1 h1 A1 m) (hh1 : h1 ≤ w.heap.size) (hs : RI w l2 h2 A2 S) (hh2 : h2 ≤ w.heap.size) (hl : g.length ≤ 9223372036854775807) (hml : m.length ≤ 9223372036854775807) (hsl : S.length ≤ 9223372036854775807) :
    Calls Try.prog 36 #[.slice A g.length c, .slice A1 m.length c1, .int .i64 wk, .slice A2 S.length c2] w fun e w' => e = .returned (.bool (Bs.stV g m wk S)) ∧ Below w.heap.size w w' := by
  have q1 := validGraphS_any A c g lo hi w h hh hl
  have q2 := fun W (hb : Below w.heap.size w W) => validRoom_any A1 c1 m l1 h1 W (hm.below hb hh1) hml
  have q3 := fun W => inRange_any wk 1 4 W
  have q4 := fun W (hb : Below w.heap.size w W) => allIn_any A2 c2 S 0 200 l2 h2 W (hs.below hb hh2) hsl
  cases hv : Bs.valid g
  · rw [hv] at q1
    have C1 := Lib.hid q1
    have HV := Lib.hid (Bs.stV_no1 (S := S) (Bs.canV_no1 (m := m) (wk := wk) hv))
    clear q1 q2 q3 q4 hv h hm hs
    go_enter Try.func36, Try.ntmps36
    go_wp2_with fail
    with_reducible refine (C1.out).mono ?_
    rintro e w1 ⟨rfl, hb⟩
    have HB := Lib.hid hb
    clear hb
    go_wp2
    go_ret
    exact ⟨ret_bool HV.out.symm, HB.out⟩
  rw [hv] at q1
  have C1 := Lib.hid q1
  cases hr : Bs.roomOk m
  · rw [hr] at q2
    have C2 := Lib.hid q2
    have HV := Lib.hid (Bs.stV_no1 (S := S) (Bs.canV_no2 (g := g) (wk := wk) hr))
    clear q1 q2 q3 q4 hv hr h hm hs
    go_enter Try.func36, Try.ntmps36
    go_wp2_with fail
    with_reducible refine (C1.out).mono ?_
    rintro e w1 ⟨rfl, hb⟩
    have HB := Lib.hid hb
    clear hb
    go_wp2_with fail
    with_reducible refine (C2.out _ HB.out).mono ?_
    rintro e w2 ⟨rfl, rfl⟩
    go_wp2
    go_ret
    exact ⟨ret_bool HV.out.symm, HB.out⟩
  rw [hr] at q2
  have C2 := Lib.hid q2
  cases hwk : decide (1 ≤ wk ∧ wk ≤ 4)
  · rw [hwk] at q3
    have C3 := Lib.hid q3
    have HV := Lib.hid (Bs.stV_no1 (S := S) (Bs.canV_no3 (g := g) (m := m) hwk))
    clear q1 q2 q3 q4 hv hr hwk h hm hs
    go_enter Try.func36, Try.ntmps36
    go_wp2_with fail
    with_reducible refine (C1.out).mono ?_
    rintro e w1 ⟨rfl, hb⟩
    have HB := Lib.hid hb
    clear hb
    go_wp2_with fail
    with_reducible refine (C2.out _ HB.out).mono ?_
    rintro e w2 ⟨rfl, rfl⟩
    go_wp2_with fail
    with_reducible refine (C3.out _).mono ?_
    rintro e w2 ⟨rfl, rfl⟩
    go_wp2
    go_ret
    exact ⟨ret_bool HV.out.symm, HB.out⟩
  rw [hwk] at q3
  have C3 := Lib.hid q3
  have hcan := Bs.canV_yes hv hr hwk
  by_cases hlen : S.length = g.length
  rotate_left
  · have HV := Lib.hid (Bs.stV_no2 (m := m) (wk := wk) (show Bs.clkV g S = false from by unfold Bs.clkV; simp [hlen]))
    have hq : ((S.length : Int) != (g.length : Int)) = true := by simp; omega
    have hq2 : (S.length != g.length) = true := by simp [hlen]
    clear q1 q2 q3 q4 hv hr hwk h hm hs hcan
    go_enter Try.func36, Try.ntmps36
    go_wp2_with fail
    with_reducible refine (C1.out).mono ?_
    rintro e w1 ⟨rfl, hb⟩
    have HB := Lib.hid hb
    clear hb
    go_wp2_with fail
    with_reducible refine (C2.out _ HB.out).mono ?_
    rintro e w2 ⟨rfl, rfl⟩
    go_wp2_with fail
    with_reducible refine (C3.out _).mono ?_
    rintro e w2 ⟨rfl, rfl⟩
    go_wp2
    go_ret
    exact ⟨ret_bool HV.out.symm, HB.out⟩
  have hq : ((S.length : Int) != (g.length : Int)) = false := by simp [hlen]
  have hq2 : (S.length != g.length) = false := by simp [hlen]
  cases hin : Bs.allInB S 0 200
  · rw [hin] at q4
    have C4 := Lib.hid q4
    have HV := Lib.hid (Bs.stV_no2 (m := m) (wk := wk) (show Bs.clkV g S = false from by unfold Bs.clkV; rw [hin]; simp))
    clear q1 q2 q3 q4 hv hr hwk h hm hs hcan hlen hin
    go_enter Try.func36, Try.ntmps36
    go_wp2_with fail
    with_reducible refine (C1.out).mono ?_
    rintro e w1 ⟨rfl, hb⟩
    have HB := Lib.hid hb
    clear hb
    go_wp2_with fail
    with_reducible refine (C2.out _ HB.out).mono ?_
    rintro e w2 ⟨rfl, rfl⟩
    go_wp2_with fail
    with_reducible refine (C3.out _).mono ?_
    rintro e w2 ⟨rfl, rfl⟩
    go_wp2_with fail
    with_reducible refine (C4.out _ HB.out).mono ?_
    rintro e w2 ⟨rfl, rfl⟩
    go_wp2
    go_ret
    exact ⟨ret_bool HV.out.symm, HB.out⟩
  rw [hin] at q4
  have C4 := Lib.hid q4
  have hk : Bs.clkV g S = true := by unfold Bs.clkV; rw [hin]; simp [hlen]
  have hF := valid_fine hv
  have h8 := Bs.fine_len hF
  have hsb : ∀ i, i < g.length → 0 ≤ Bs.giZ S i ∧ Bs.giZ S i ≤ 100000 := fun i _ => by have := Bs.clk_at hk i; omega
  have C5 := Lib.hid (fun now W (hb : Below w.heap.size w W) => runningAtS_any A c g A2 c2 S now lo hi l2 h2 W (h.below hb hh) (Nat.le_trans hh hb.size) (hs.below hb hh2) (Nat.le_trans hh2 hb.size) hF (by omega) hsl hsb)
  have C6 := Lib.hid (fun (A' : Option Addr) (c' : Nat) (r : List Int) (l3 h3 : Nat) W (hb : Below w.heap.size w W) (h3r : RI W l3 h3 A' r) (hh3 : h3 ≤ W.heap.size) (hrl : r.length ≤ 8) => validRunningS_any A c g A1 c1 m A' c' r lo hi l1 h1 l3 h3 W (h.below hb hh) (Nat.le_trans hh hb.size) (hm.below hb hh1) (Nat.le_trans hh1 hb.size) h3r hh3 hl hml (by omega))
  have HROK := Lib.hid (fun now => show Bs.runOk g m (Bs.runAt g S now) = Bs.fitsC g m (Bs.runAt g S now) from runOk_at hv hr (Bs.inG_pick g _))
  have HSY := Lib.hid (Bs.stV_yes hcan hk)
  have HSN := Lib.hid (fun h => stV_no3 (g := g) (m := m) (wk := wk) (S := S) h)
  have HKN := Lib.hid (fun i (hi : i < g.length) h => Bs.stK_no (g := g) (m := m) (wk := wk) (S := S) (i := i) hi h)
  have HKS := Lib.hid (Bs.stK_succ g m wk S)
  have HTT := Lib.hid (fun i (hi : i < g.length) => Bs.fine_time' hF hi)
  have HNI := Lib.hid (fun i (hi : i < g.length) => Bs.inG_mem (Bs.fine_inG hF hi))
  have HNL := Lib.hid (fun i (hi : i < g.length) => Bs.fine_needs_len hF hi)
  have HSB := Lib.hid hsb
  have HG := Lib.hid h
  have HI := Lib.hid hs
  have HLEN := Lib.hid hlen
  clear q1 q2 q3 q4 hv hr hwk h hm hs hcan hlen hin hk hF hsb
  go_enter Try.func36, Try.ntmps36
  go_wp2_with fail
  with_reducible refine (C1.out).mono ?_
  rintro e w1 ⟨rfl, hb⟩
  have HB := Lib.hid hb
  clear hb
  go_wp2_with fail
  with_reducible refine (C2.out _ HB.out).mono ?_
  rintro e w2 ⟨rfl, rfl⟩
  go_wp2_with fail
  with_reducible refine (C3.out _).mono ?_
  rintro e w2 ⟨rfl, rfl⟩
  go_wp2_with fail
  with_reducible refine (C4.out _ HB.out).mono ?_
  rintro e w2 ⟨rfl, rfl⟩
  clear C1 C2 C3 C4
  go_wp2
  go_loopw [9] (fun i wr => ∃ (k : Nat), k ≤ g.length ∧ i = .int .i64 k ∧ Bs.stK g m wk S k = true ∧ Below w.heap.size w wr) (fun i _ => g.length - (intOf i).toNat)
  case atStart => exact ⟨0, Nat.zero_le _, rfl, rfl, HB.out⟩
  case round =>
    obtain ⟨k, hk, rfl, hst, hb⟩ := hrel
    have HST := Lib.hid hst
    clear hst HB
    by_cases hlt : k < g.length
    · have hks : k < S.length := by have := HLEN.out; omega
      have HBr := Lib.hid hb
      have i0 : (0 : Int) ≤ (k : Int) := by omega
      have i1 : (k : Int) < (S.length : Int) := by omega
      have i2 : (k : Int) < (g.length : Int) := by omega
      have hnl := HNL.out k hlt
      have hsk := HSB.out k hlt
      have hkn := HKN.out k hlt
      have HKN1 := Lib.hid (fun h => HSN.out (hkn h))
      have hgz := Bs.giZ_at hks
      obtain ⟨sk, hskv⟩ : ∃ sk, sk = Bs.giZ S k := ⟨_, rfl⟩
      rw [← hskv] at hsk
      have HSK := Lib.hid hskv
      have HGZ := Lib.hid (hskv.trans hgz)
      clear hkn hgz hskv hb
      go_wp2
      go_loopw [10] (fun ip w2 => ∃ (p : Nat), p ≤ g[k].needs.length ∧ ip = .int .i64 p ∧ (∀ j (hj : j < g[k].needs.length), j < p → Bs.giZ S g[k].needs[j].toNat + Bs.timeOf g g[k].needs[j].toNat ≤ sk) ∧ Below w.heap.size w w2) (fun ip _ => g[k].needs.length - (intOf ip).toNat)
      case atStart => exact ⟨0, Nat.zero_le _, rfl, by intro j _ hj; omega, HBr.out⟩
      case round =>
        obtain ⟨p, hp, rfl, hall, hb2⟩ := hrel
        have HALL := Lib.hid hall
        have HB2 := Lib.hid hb2
        clear hall
        obtain ⟨b, o1, rfl, _, hbh, hc⟩ := (HI.out.below hb2 hh2).at_ hks
        obtain ⟨bg, og, N, cN, rfl, _, hgh, _, n1, _, _, hnc, hcN, hN⟩ := (HG.out.below hb2 hh) k hlt
        rw [← HGZ.out] at hc
        by_cases hplt : p < g[k].needs.length
        · obtain ⟨bn, on, rfl, _, _, hcn⟩ := hN.at_ hplt
          have hx := HNI.out k hlt _ (List.getElem_mem hplt)
          have HMEM := Lib.hid (List.getElem_mem hplt)
          have HJ := Lib.hid (fun (hle : Bs.giZ S g[k].needs[p].toNat + Bs.timeOf g g[k].needs[p].toNat ≤ sk) => show ∀ j (hj : j < g[k].needs.length), j < p + 1 → Bs.giZ S g[k].needs[j].toNat + Bs.timeOf g g[k].needs[j].toNat ≤ sk from by
            intro j hj hjp
            by_cases e : j = p
            · subst e; exact hle
            · exact HALL.out j hj (by omega))
          have HNO := Lib.hid (fun (hle : ¬ Bs.giZ S g[k].needs[p].toNat + Bs.timeOf g g[k].needs[p].toNat ≤ sk) => HKN1.out (by rw [need_no hlt (List.getElem_mem hplt) (by rw [← HSK.out]; exact hle)]; rfl))
          obtain ⟨x, hxv⟩ : ∃ x : Nat, g[k].needs[p] = (x : Int) := ⟨g[k].needs[p].toNat, by omega⟩
          rw [hxv] at hx hcn HJ HNO
          rw [Int.toNat_natCast] at HJ HNO
          have hxl : x < g.length := by omega
          have hxs : x < S.length := by have := HLEN.out; omega
          obtain ⟨b', o', e', _, _, hcx⟩ := (HI.out.below hb2 hh2).at_ hxs
          cases e'
          obtain ⟨bg', og', N', cN', eg', _, _, t0, _, _, _, _, _, _⟩ := (HG.out.below hb2 hh) x hxl
          cases eg'
          rw [← Bs.giZ_at hxs] at hcx
          rw [time_at hxl] at HJ HNO
          have hsx := HSB.out x hxl
          have htx := HTT.out x hxl
          have j0 : (0 : Int) ≤ (x : Int) := by omega
          have j1 : (x : Int) < (S.length : Int) := by omega
          have j2 : (x : Int) < (g.length : Int) := by omega
          have p1 : (p : Int) < (g[k].needs.length : Int) := by omega
          clear hN hb2 HMEM hxv
          generalize g[x].time = tx at *
          generalize Bs.giZ S x = sx at *
          have hw : IntKind.i64.wrap (sx + tx) = sx + tx := IntWalk.i64_in _ ⟨by omega, by omega⟩
          by_cases hle : sx + tx ≤ sk
          · have HJJ := Lib.hid (HJ.out hle)
            have hgt : decide (sx + tx > sk) = false := by simp; omega
            have hgt2 : decide (sk < sx + tx) = false := by simp; omega
            clear HNO HJ
            go_wp2
            go_quiet (fail)
            go_wp2
            go_roundw
            case rel => exact ⟨p + 1, by omega, by go_num, HJJ.out, HB2.out.drewN _⟩
            case measure => simp [intOf]; omega
          · have HNN := Lib.hid (HNO.out hle)
            have hgt : decide (sx + tx > sk) = true := by simp; omega
            have hgt2 : decide (sk < sx + tx) = true := by simp; omega
            clear HNO HJ
            go_wp2
            go_quiet (fail)
            go_wp2
            go_ret
            exact ⟨ret_bool HNN.out.symm, HB2.out.drewN _⟩
        · obtain rfl : p = g[k].needs.length := by omega
          have HNY := Lib.hid (show Bs.needOkB g S k = true from need_yes hlt (fun j hj => by rw [← HSK.out]; exact HALL.out j hj hj))
          have hks2 := HKS.out k
          rw [HST.out, HNY.out, ← HSK.out] at hks2
          rw [HNY.out, ← HSK.out] at HKN1
          have hfn : Bs.fitN g m wk (Bs.runAt g S sk) = (decide (((Bs.runAt g S sk).length : Int) ≤ wk) && Bs.fitsC g m (Bs.runAt g S sk)) := rfl
          rw [hfn] at hks2 HKN1
          have hrl := Bs.runAt_len g S sk
          have C7 := Lib.hid (C5.out sk wr HB2.out)
          have hrok := HROK.out sk
          have KS := Lib.hid hks2
          have ROK := Lib.hid hrok
          clear hN hb2 hks2 hfn hrok HSK C5
          generalize Bs.runAt g S sk = R at *
          go_wp2_with fail
          with_reducible refine (C7.out).mono ?_
          rintro e w5 ⟨⟨A5, c5, rfl, ho5⟩, hb5⟩
          have HO5 := Lib.hid ho5.ri
          have HB5 := Lib.hid (HB2.out.trans (hb5.mono HB2.out.size))
          have C8 := Lib.hid (C6.out A5 c5 R _ _ w5 HB5.out ho5.ri (Nat.le_refl _) (by omega))
          clear ho5 hb5 C7 C6
          by_cases hn : wk < (R.length : Int)
          · have HNN := Lib.hid (HKN1.out (by simp; omega))
            have hn2 : decide ((R.length : Int) > wk) = true := by simp; omega
            go_wp2
            go_ret
            exact ⟨ret_bool HNN.out.symm, HB5.out⟩
          · have hn2 : decide ((R.length : Int) > wk) = false := by simp; omega
            have hn3 : decide (wk < (R.length : Int)) = false := by simp; omega
            have hff : Bs.fitsC g m R = true ∨ Bs.fitsC g m R = false := by cases Bs.fitsC g m R <;> simp
            rcases hff with hff | hff
            · have c8 := C8.out
              rw [ROK.out, hff] at c8
              have C9 := Lib.hid c8
              have HS2 := Lib.hid (show Bs.stK g m wk S (k + 1) = true from by rw [KS.out, hff]; simp; omega)
              clear hff c8 C8
              go_wp2_with fail
              with_reducible refine (C9.out).mono ?_
              rintro e w8 ⟨rfl, hb8⟩
              have HB8 := Lib.hid (HB5.out.trans (hb8.mono HB5.out.size))
              clear hb8
              go_wp2
              go_roundw
              case rel => exact ⟨k + 1, by omega, by go_num, HS2.out, HB8.out⟩
              case measure => simp [intOf]; omega
            · have c8 := C8.out
              rw [ROK.out, hff] at c8
              have C9 := Lib.hid c8
              have HNN := Lib.hid (HKN1.out (by rw [hff]; simp))
              clear hff c8 C8
              go_wp2_with fail
              with_reducible refine (C9.out).mono ?_
              rintro e w8 ⟨rfl, hb8⟩
              have HB8 := Lib.hid (HB5.out.trans (hb8.mono HB5.out.size))
              clear hb8
              go_wp2
              go_ret
              exact ⟨ret_bool HNN.out.symm, HB8.out⟩
    · obtain rfl : k = g.length := by omega
      have HQ := Lib.hid (show Bs.stV g m wk S = true from by rw [HSY.out, HST.out])
      go_wp2
      go_ret
      exact ⟨ret_bool HQ.out.symm, hb⟩
theorem runL_k (g : List Bs.T) (m : List Int) (wk : Int) (S : List Int) (now : Int) : (Bs.runL g m wk S now).length ≤ 1000 := by
  cases hv : Bs.stV g m wk S
  · rw [Bs.runL_no hv]; simp
  · rw [Bs.runL_yes hv]
    have h1 := Bs.runAt_len g S now
    have h2 := Bs.fine_len (valid_fine (Bs.canV_iff.1 (Bs.stV_iff.1 hv).1).1)
    omega
theorem RunningAtS_any (A : Option Addr) (c : Nat) (g : List Bs.T) (A1 : Option Addr) (c1 : Nat) (m : List Int) (A2 : Option Addr) (c2 : Nat) (S : List Int) (wk now : Int) (lo hi l1 h1 l2 h2 : Nat) (w : World) (h : RG w lo hi A g) (hh : hi ≤ w.heap.size) (hm : RI w l1 h1 A1 m) (hh1 : h1 ≤ w.heap.size) (hs : RI w l2 h2 A2 S) (hh2 : h2 ≤ w.heap.size) (hl : g.length ≤ 9223372036854775807) (hml : m.length ≤ 9223372036854775807) (hsl : S.length ≤ 9223372036854775807) :
    Calls Try.prog 23 #[.slice A g.length c, .slice A1 m.length c1, .int .i64 wk, .slice A2 S.length c2, .int .i64 now] w (RetI w (Bs.runL g m wk S now)) := by
  have q1 := validStartsS_any A c g A1 c1 m A2 c2 S wk lo hi l1 h1 l2 h2 w h hh hm hh1 hs hh2 hl hml hsl
  cases hv : Bs.stV g m wk S
  · rw [hv] at q1
    have C1 := Lib.hid q1
    have HV := Lib.hid (Bs.runL_no (now := now) hv)
    clear q1 hv h hm hs
    go_enter Try.func23, Try.ntmps23
    go_wp2_with fail
    with_reducible refine (C1.out).mono ?_
    rintro e w1 ⟨rfl, hb⟩
    have HB := Lib.hid hb
    clear hb
    go_wp2
    go_ret
    exact RetI.nil HB.out HV.out
  rw [hv] at q1
  have C1 := Lib.hid q1
  have HV := Lib.hid (Bs.runL_yes (now := now) hv)
  obtain ⟨hcan, hk, _⟩ := Bs.stV_iff.1 hv
  have hF := valid_fine (Bs.canV_iff.1 hcan).1
  have hlen := Bs.clk_len hk
  have C2 := Lib.hid (fun W (hb : Below w.heap.size w W) => runningAtS_any A c g A2 c2 S now lo hi l2 h2 W (h.below hb hh) (Nat.le_trans hh hb.size) (hs.below hb hh2) (Nat.le_trans hh2 hb.size) hF (by omega) hsl (fun i _ => by have := Bs.clk_at hk i; omega))
  clear q1 hv h hm hs hk hF hlen hcan
  go_enter Try.func23, Try.ntmps23
  go_wp2_with fail
  with_reducible refine (C1.out).mono ?_
  rintro e w1 ⟨rfl, hb⟩
  have HB := Lib.hid hb
  have s3 := hb.size
  clear hb
  go_wp2_with fail
  with_reducible refine (C2.out _ HB.out).mono ?_
  rintro e w5 ⟨⟨A5, c5, rfl, ho5⟩, hb5⟩
  have HO5 := Lib.hid (ho5.base s3)
  have HB5 := Lib.hid (HB.out.trans (hb5.mono s3))
  clear ho5 hb5
  go_wp2
  go_ret
  rw [HV.out]
  exact ⟨⟨A5, c5, rfl, HO5.out⟩, HB5.out⟩
end Go.Proofs.Ytihgakbopkaemaa
namespace Go.Proofs.Ytihgakbopkaemaa
open Go.RowKit
theorem gi_giZ (l : List Int) (i : Nat) : Bs.gi l i = Bs.giZ l i := by
  unfold Bs.gi Bs.giZ
  rw [List.getD_eq_getElem?_getD]
  cases l[i]? <;> rfl
theorem Arr.at_ {w : World} {b : Nat} {l : List Int} (h : Arr w b l) {i : Nat} (hi : i < l.length) : w.cell? ⟨b, i, none⟩ = some (.int .i64 (Bs.giZ l i)) := by rw [← gi_giZ]; exact h.cell hi
theorem Arr.alloc {w : World} {b : Nat} {l : List Int} (h : Arr w b l) (o : Obj) : Arr (w.alloc o) b l := Blk.alloc h o
theorem Arr.ri {w : World} {b : Nat} {l : List Int} (h : Arr w b l) (hl : l.length ≤ 1000000) : RI w b w.heap.size (some ⟨b, 0, none⟩) l := (h.oi (Nat.le_refl _) hl).ri
def fillS (n k : Nat) : List Int := List.replicate k 200 ++ List.replicate (n - k) 0
theorem fillS_len {n k : Nat} (h : k ≤ n) : (fillS n k).length = n := by unfold fillS; simp; omega
theorem fillS_succ {n k : Nat} (h : k < n) : (fillS n k).set k 200 = fillS n (k + 1) := by
  unfold fillS
  obtain ⟨d, hd⟩ : ∃ d, n - k = d + 1 := ⟨n - k - 1, by omega⟩
  rw [List.set_append_right _ _ (by simp), hd, show n - (k + 1) = d from by omega, List.replicate_succ' (n := k)]
  simp [List.replicate_succ]
theorem filter_takeP {q : Int → Bool} {l : List Int} {k : Nat} (hk : k < l.length) : (l.take (k + 1)).filter q = (l.take k).filter q ++ (if q l[k] then [l[k]] else []) := by
  rw [List.take_succ_eq_append_getElem hk, List.filter_append]
  by_cases h : q l[k] <;> simp [h]
set_option maxRecDepth 40000 in
set_option maxHeartbeats 3200000 in
theorem planS_any (A : Option Addr) (c : Nat) (g : List Bs.T) (A1 : Option Addr) (c1 : Nat) (m : List Int) (wk : Int) (lo hi l1 h1 : Nat) (w : World) (h : RG w lo hi A g) (hh : hi ≤ w.heap.size) (hm : RI w l1 h1 A1 m) (hh1 : h1 ≤ w.heap.size) (hv : Bs.canV g m wk = true) :
    Calls Try.prog 111 #[.slice A g.length c, .slice A1 m.length c1, .int .i64 wk] w (RetI w (Bs.planC g m wk)) := by
  obtain ⟨hval, hroom, hw1, hw4⟩ := Bs.canV_iff.1 hv
  have hF := valid_fine hval
  have h8 := Bs.fine_len hF
  have hmk := make_ints g.length (by omega) w
  have HR := Lib.hid (fun (A' : Option Addr) (c' : Nat) (d : List Int) (l2 h2 : Nat) W (hb : Below w.heap.size w W) (hd : RI W l2 h2 A' d) (hh2 : h2 ≤ W.heap.size) (hdl : d.length ≤ 8) => ready_any A c g A' c' d lo hi l2 h2 W (h.below hb hh) (Nat.le_trans hh hb.size) hd hh2 (by omega) (by omega))
  have HRA := Lib.hid (fun (S : List Int) (now : Nat) (hp : Bs.PI g m S now) (hn : now < 200) W (hb : Below w.heap.size w W) (hs : Arr W w.heap.size S) => show Calls Try.prog 50 #[.slice A g.length c, .slice (some ⟨w.heap.size, 0, none⟩) g.length g.length, .int .i64 (now : Int)] W (RetI W (Bs.runAt g S now)) from by
    have q := runningAtS_any A c g (some ⟨w.heap.size, 0, none⟩) g.length S now lo hi _ _ W (h.below hb hh) (Nat.le_trans hh hb.size) (hs.ri (by rw [hp.len]; omega)) (Nat.le_refl _) hF (by rw [hp.len]; exact Nat.le_refl _) (by rw [hp.len]; omega) (hp.b (by omega))
    rw [hp.len] at q
    exact q)
  have HBT := Lib.hid (fun (S : List Int) (now : Int) (A' : Option Addr) (c' : Nat) (l2 h2 : Nat) W (hb : Below w.heap.size w W) (hd : RI W l2 h2 A' (Bs.planList g S now)) (hh2 : h2 ≤ W.heap.size) => byTail_any A c g A' c' (Bs.planList g S now) lo hi l2 h2 W (h.below hb hh) (Nat.le_trans hh hb.size) hd hh2 hval (fun x hx => Bs.planList_in hx) (Bs.planList_nodup g S now))
  have HAD := Lib.hid (fun (S : List Int) (now : Nat) (hp : Bs.PI g m S now) (hn : now < 200) (A2 : Option Addr) (c2 : Nat) (l2 h2 : Nat) (A3 : Option Addr) (c3 : Nat) (l3 h3 : Nat) W (hb : Below w.heap.size w W) (hr : RI W l2 h2 A2 (Bs.runAt g S now)) (hh2 : h2 ≤ W.heap.size) (hl : RI W l3 h3 A3 (Bs.planOrd g S now)) (hh3 : h3 ≤ W.heap.size) => admitS_any A c g A1 c1 m A2 c2 (Bs.runAt g S now) A3 c3 (Bs.planOrd g S now) wk lo hi l1 h1 l2 h2 l3 h3 W (h.below hb hh) (Nat.le_trans hh hb.size) (hm.below hb hh1) (Nat.le_trans hh1 hb.size) hr hh2 hl hh3 (hp.adm hn hval hroom ⟨hw1, hw4⟩))
  have HPI := Lib.hid (fun k hk => Bs.PI.all (g := g) (m := m) (wk := wk) hval hroom k hk)
  have HEQ := Lib.hid (fun (S o : List Int) (now : Int) hs hm => Bs.planOrd_eq (g := g) (S := S) (o := o) (now := now) hF hs hm)
  have HNM := Lib.hid (fun (S : List Int) (now : Int) x hx => Bs.planList_in (Bs.planNext_mem (g := g) (m := m) (wk := wk) (S := S) (now := now) (x := x) hF hx))
  have HNL := Lib.hid (fun (S : List Int) (now : Int) => Bs.planNext_len (g := g) (m := m) (wk := wk) (S := S) (now := now) hF)
  have HTT := Lib.hid (fun i (hi : i < g.length) => Bs.fine_time' hF hi)
  have HG := Lib.hid h
  have ha0 := Lib.hid (show Arr (w.alloc (.cells (intsA (List.replicate g.length 0)) 3)) w.heap.size (fillS g.length 0) from by unfold fillS; simp only [List.replicate_zero, List.nil_append, Nat.sub_zero]; exact Blk.new w _ _)
  have hb0 := Lib.hid (show Below w.heap.size w (w.alloc (.cells (intsA (List.replicate g.length 0)) 3)) from (Below.refl _ _).alloc (Nat.le_refl _) _)
  clear hv hval hroom hF h hm
  generalize (.cells (intsA (List.replicate g.length 0)) 3 : Obj) = ob at *
  go_enter Try.func111, Try.ntmps111
  go_wp2
  go_loopw [8] (fun i wr => ∃ (k : Nat), k ≤ g.length ∧ i = .int .i64 k ∧ Arr wr w.heap.size (fillS g.length k) ∧ Below w.heap.size w wr) (fun i _ => g.length - (intOf i).toNat)
  case atStart => exact ⟨0, Nat.zero_le _, rfl, ha0.out, hb0.out⟩
  case round =>
    obtain ⟨k, hk, rfl, hA, hb⟩ := hrel
    clear ha0 hb0 hmk
    by_cases hlt : k < g.length
    · have hfl := fillS_len (n := g.length) (k := k) (by omega)
      have kc := hA.at_ (i := k) (by omega)
      have kf := hA.frozen k
      have hs := hA.set_ k 200
      rw [fillS_succ hlt] at hs
      have HS := Lib.hid hs
      have HB := Lib.hid hb
      have i0 : (0 : Int) ≤ (k : Int) := by omega
      have i1 : (k : Int) < (g.length : Int) := by omega
      clear hs hA hb hfl
      go_wp2
      go_roundw
      case rel => exact ⟨k + 1, by omega, by go_num, HS.out, HB.out.setCell (Nat.le_refl _) _⟩
      case measure => simp [intOf]; omega
    · obtain rfl : k = g.length := by omega
      have hA2 : Arr wr w.heap.size (Bs.planK g m wk 0) := by
        have e : fillS g.length g.length = Bs.planK g m wk 0 := by unfold fillS; simp [Bs.planK]
        rw [← e]
        exact hA
      have HA2 := Lib.hid hA2
      have HB2 := Lib.hid hb
      clear hA hA2 hb
      go_wp2
      go_loopw [9] (fun i wr => ∃ (now : Nat), now ≤ 200 ∧ i = .int .i64 now ∧ Arr wr w.heap.size (Bs.planK g m wk now) ∧ Below w.heap.size w wr) (fun i _ => 200 - (intOf i).toNat)
      case atStart => exact ⟨0, by omega, rfl, HA2.out, HB2.out⟩
      case round =>
        clear HA2 HB2
        obtain ⟨now, hnow, rfl, hA, hb⟩ := hrel
        by_cases hlt : now < 200
        · have hd1 : decide ((now : Int) < 200) = true := by simp; omega
          have hd2 : decide (now < 200) = true := by simp [hlt]
          have hpi := HPI.out now hnow
          have HSTEP := Lib.hid (show Bs.planK g m wk (now + 1) = Bs.setAll (Bs.planK g m wk now) now (Bs.planNext g m wk (Bs.planK g m wk now) now) from rfl)
          generalize Bs.planK g m wk now = S at *
          have hSl := hpi.len
          have HSL := Lib.hid hSl
          have HP := Lib.hid hpi
          have HSB := Lib.hid (hpi.b hnow)
          have sW := hA.lt
          have HA := Lib.hid hA
          have HB := Lib.hid hb
          have HO0 := Lib.hid (OI.new wr wr.heap.size (Nat.le_refl _))
          have HA0 := Lib.hid (hA.alloc (.cells #[] 3))
          have HB0 := Lib.hid (hb.alloc hb.size (.cells #[] 3))
          clear hA hb hpi hSl
          obtain ⟨W0, hW0⟩ : ∃ W0, W0 = wr := ⟨_, rfl⟩
          rw [← hW0] at HA HB HO0 HA0 HB0 sW ⊢
          clear hW0 wr
          go_wp2
          go_loopw [10, 11] (fun vo i wr => ∃ (k : Nat) (A' : Option Addr) (c' : Nat) (o : List Int), k ≤ g.length ∧ vo = .slice A' o.length c' ∧ i = .int .i64 k ∧ o = Bs.pick k (fun i => decide (Bs.giZ S i + Bs.timeOf g i ≤ (now : Int))) ∧ OI wr W0.heap.size A' c' o ∧ Arr wr w.heap.size S ∧ Below w.heap.size w wr ∧ W0.heap.size ≤ wr.heap.size) (fun _ i _ => g.length - (intOf i).toNat)
          case atStart => exact ⟨0, _, _, [], Nat.zero_le _, rfl, rfl, rfl, HO0.out, HA0.out, HB0.out, by simp⟩
          case round =>
            clear HO0 HA0 HB0
            obtain ⟨k, A', c', o, hk, rfl, rfl, ho, hO, hA, hb, hs0⟩ := hrel
            by_cases hklt : k < g.length
            · obtain ⟨bg, og, N, cN, rfl, _, hgh, k0, _, _, _, hnc, hcN, hN⟩ := (HG.out.below hb hh) k hklt
              have hc := hA.at_ (i := k) (by rw [HSL.out]; exact hklt)
              have hsb := HSB.out k hklt
              have htb := HTT.out k hklt
              have hp := Bs.pick_succ k (fun i => decide (Bs.giZ S i + Bs.timeOf g i ≤ (now : Int)))
              rw [← ho, time_at hklt] at hp
              have hol := Bs.pick_len k (fun i => decide (Bs.giZ S i + Bs.timeOf g i ≤ (now : Int)))
              rw [← ho] at hol
              have HOL := Lib.hid hol
              have HO := Lib.hid hO
              have HA := Lib.hid hA
              have HBb := Lib.hid hb
              have i0 : (0 : Int) ≤ (k : Int) := by omega
              have i2 : (k : Int) < (g.length : Int) := by omega
              clear ho hO hb hA hol hN
              generalize g[k].time = tk at *
              generalize Bs.giZ S k = sk at *
              have hw : IntKind.i64.wrap (sk + tk) = sk + tk := IntWalk.i64_in _ ⟨by omega, by omega⟩
              by_cases g1 : sk + tk ≤ (now : Int)
              · have d1 : decide (sk + tk ≤ (now : Int)) = true := by simp [g1]
                rw [d1] at hp
                simp only [if_true] at hp
                have HPk := Lib.hid hp.symm
                clear hp
                go_wp2
                go_quiet (fail)
                have HO1 := Lib.hid (HO.out.drewN nq)
                have HA1 := Lib.hid (HA.out.drewN nq)
                have HBb1 := Lib.hid (HBb.out.drewN nq)
                have hs1 : W0.heap.size ≤ (wr.drewN nq).heap.size := hs0
                clear hc k0 HO HA HBb
                generalize wr.drewN nq = W1 at *
                have HO2 := Lib.hid (HO1.out.alloc (.cells #[.int .i64 (k : Int)] 3))
                have s1 := HBb1.out.size
                have HA2 := Lib.hid (HA1.out.alloc (.cells #[.int .i64 (k : Int)] 3))
                have HBb2 := Lib.hid (HBb1.out.alloc s1 (.cells #[.int .i64 (k : Int)] 3))
                go_wp2_with (first
                  | (at_builtin; refine push_int rfl _ _ rfl W0.heap.size A' c' o (k : Int) rfl HO2.out W1.heap.size 1 rfl (by simp [go_sem]) (by have := HOL.out; omega) (by simp; omega) ?_; intro A6 c6 w6 ho6 hb6 _; have HO6 := Lib.hid ho6; have HA6 := Lib.hid (HA2.out.below hb6 sW); have HBb6 := Lib.hid (HBb2.out.trans (hb6.mono HB.out.size)); have s6 := hb6.size; rw [World.size_alloc] at s6; clear ho6 hb6))
                go_roundw
                case rel => exact ⟨k + 1, A6, c6, o ++ [(k : Int)], by omega, by rw [List.length_append]; rfl, by go_num, HPk.out, HO6.out, HA6.out, HBb6.out, by omega⟩
                case measure => simp [intOf]; omega
              · have d1 : decide (sk + tk ≤ (now : Int)) = false := by simp; omega
                rw [d1] at hp
                simp only [Bool.false_eq_true, if_false] at hp
                have HPk := Lib.hid hp.symm
                clear hp
                go_wp2
                go_quiet (fail)
                go_wp2
                go_roundw
                case rel => exact ⟨k + 1, A', c', o, by omega, rfl, by go_num, HPk.out, HO.out.drewN _, HA.out.drewN _, HBb.out.drewN _, hs0⟩
                case measure => simp [intOf]; omega
            · obtain rfl : k = g.length := by omega
              have HDE := Lib.hid (show Bs.readyC g o = Bs.readyC g (Bs.planDone g S (now : Int)) from by rw [ho]; rfl)
              have hol := Bs.pick_len g.length (fun i => decide (Bs.giZ S i + Bs.timeOf g i ≤ (now : Int)))
              rw [← ho] at hol
              have HO1 := Lib.hid (hO.alloc (.cells #[] 3))
              have HA1 := Lib.hid (hA.alloc (.cells #[] 3))
              have HB1 := Lib.hid (hb.alloc hb.size (.cells #[] 3))
              have hZ := OI.new wr wr.heap.size (Nat.le_refl _)
              have s0 := hb.size
              clear ho hO hA hb
              go_wp2_with fail
              have C3 := Lib.hid (HR.out A' c' o _ _ _ HB1.out HO1.out.ri (Nat.le_refl _) (by omega))
              with_reducible refine (C3.out).mono ?_
              rintro e w4 ⟨⟨A4, c4, rfl, ho4⟩, hb4⟩
              have s4 := hb4.size
              rw [World.size_alloc] at s4
              have HC4 := Lib.hid ho4.ri
              have HA4 := Lib.hid (HA1.out.below hb4 (by rw [World.size_alloc]; omega))
              have HB4 := Lib.hid (HB1.out.trans (hb4.mono HB1.out.size))
              rw [HDE.out] at HC4 ⊢
              obtain ⟨R, hR⟩ : ∃ R, R = Bs.readyC g (Bs.planDone g S (now : Int)) := ⟨_, rfl⟩
              have hrl := Bs.readyC_len g (Bs.planDone g S (now : Int))
              have HRI := Lib.hid (fun x hx => Bs.ready_in (g := g) (d := Bs.planDone g S (now : Int)) (x := x) hx)
              have HLS := Lib.hid (show Bs.planList g S (now : Int) = R.filter (fun x => Bs.giZ S x.toNat == 200) from by rw [hR]; rfl)
              rw [← hR] at hrl HRI HC4 ⊢
              clear ho4 hb4 C3 HDE hR hZ HO1 HA1 HB1
              go_wp2
              go_loopw [12, 14] (fun vo i wr => ∃ (k : Nat) (A' : Option Addr) (c' : Nat) (o : List Int), k ≤ R.length ∧ vo = .slice A' o.length c' ∧ i = .int .i64 k ∧ o = (R.take k).filter (fun x => Bs.giZ S x.toNat == 200) ∧ OZ wr w4.heap.size A' c' o ∧ RI wr (W0.heap.size + 1) w4.heap.size A4 R ∧ Arr wr w.heap.size S ∧ Below w.heap.size w wr ∧ w4.heap.size ≤ wr.heap.size) (fun _ i _ => R.length - (intOf i).toNat)
              case atStart => exact ⟨0, _, _, [], Nat.zero_le _, rfl, rfl, by simp, .inl ⟨rfl, rfl⟩, HC4.out.more (by rw [World.size_alloc]; omega) (Nat.le_refl _), HA4.out, HB4.out, Nat.le_refl _⟩
              case round =>
                clear HC4 HA4 HB4
                obtain ⟨k, A5, c5, q, hk, rfl, rfl, hq, hO, hRI, hA, hb, hs5⟩ := hrel
                by_cases hklt : k < R.length
                · obtain ⟨br, or_, rfl, _, hbr, hcr⟩ := hRI.at_ hklt
                  have hx := HRI.out _ (List.getElem_mem hklt)
                  have hft := filter_takeP (q := fun x => Bs.giZ S x.toNat == 200) hklt
                  rw [← hq] at hft
                  have hql : q.length ≤ k := by rw [hq]; have := List.length_filter_le (fun x => Bs.giZ S x.toNat == 200) (R.take k); rw [List.length_take] at this; omega
                  obtain ⟨x, hxv⟩ : ∃ x : Nat, R[k] = (x : Int) := ⟨R[k].toNat, by omega⟩
                  rw [hxv] at hx hcr hft
                  rw [Int.toNat_natCast] at hft
                  have hxs : x < S.length := by rw [HSL.out]; omega
                  have hcs := hA.at_ hxs
                  have HO := Lib.hid hO
                  have HRr := Lib.hid hRI
                  have HA := Lib.hid hA
                  have HBb := Lib.hid hb
                  have HQL := Lib.hid hql
                  have i0 : (0 : Int) ≤ (k : Int) := by omega
                  have i1 : (k : Int) < (R.length : Int) := by omega
                  have i2 : (0 : Int) ≤ (x : Int) := by omega
                  have i3 : (x : Int) < (g.length : Int) := by omega
                  clear hq hO hRI hA hb hql hxv
                  generalize Bs.giZ S x = sx at *
                  by_cases hsx : sx = 200
                  · have d1 : (sx == 200) = true := by simp [hsx]
                    have hsx2 : (sx == (200 : Int)) = true := d1
                    rw [d1] at hft
                    simp only [if_true] at hft
                    have HFT := Lib.hid hft.symm
                    have HO2 := Lib.hid (HO.out.alloc (.cells #[.int .i64 (x : Int)] 3))
                    have HA2 := Lib.hid (HA.out.alloc (.cells #[.int .i64 (x : Int)] 3))
                    have HBb2 := Lib.hid (HBb.out.alloc HBb.out.size (.cells #[.int .i64 (x : Int)] 3))
                    clear hft hsx
                    go_wp2_with (first
                      | (at_builtin; refine push_z rfl _ _ rfl w4.heap.size A5 c5 q (x : Int) rfl HO2.out wr.heap.size 1 rfl (by simp [go_sem]) (by have := HQL.out; omega) (by simp; omega) ?_; intro A6 c6 w6 ho6 hb6; have HO6 := Lib.hid ho6; have HA6 := Lib.hid (HA2.out.below hb6 (by omega)); have HBb6 := Lib.hid (HBb2.out.trans (hb6.mono (by omega))); have HR6 := Lib.hid ((HRr.out.below ((Below.refl w4.heap.size wr).alloc hs5 (.cells #[.int .i64 (x : Int)] 3)) (Nat.le_refl _)).below hb6 (Nat.le_refl _)); have s6 := hb6.size; rw [World.size_alloc] at s6; clear ho6 hb6))
                    go_roundw
                    case rel => exact ⟨k + 1, A6, c6, q ++ [(x : Int)], by omega, by rw [List.length_append]; rfl, by go_num, HFT.out, .inr HO6.out, HR6.out, HA6.out, HBb6.out, by omega⟩
                    case measure => simp [intOf]; omega
                  · have d1 : (sx == 200) = false := by simp [hsx]
                    rw [d1] at hft
                    simp only [Bool.false_eq_true, if_false, List.append_nil] at hft
                    have HFT := Lib.hid hft.symm
                    clear hft hsx
                    go_wp2
                    go_roundw
                    case rel => exact ⟨k + 1, A5, c5, q, by omega, rfl, by go_num, HFT.out, HO.out, HRr.out, HA.out, HBb.out, hs5⟩
                    case measure => simp [intOf]; omega
                · obtain rfl : k = R.length := by omega
                  rw [List.take_length, ← HLS.out] at hq
                  have HQ := Lib.hid hO.ri
                  have HA := Lib.hid hA
                  have HBb := Lib.hid hb
                  have C5 := Lib.hid (HRA.out S now HP.out hlt wr hb hA)
                  have HQE := Lib.hid hq
                  have s5 := hb.size
                  clear hO hRI hA hb hq HR HLS HRI
                  go_wp2_with fail
                  with_reducible refine (C5.out).mono ?_
                  rintro e w5 ⟨⟨A6, c6, rfl, ho6⟩, hb6⟩
                  have s6 := hb6.size
                  have HR6 := Lib.hid ho6.ri
                  have HA6 := Lib.hid (HA.out.below hb6 HA.out.lt)
                  have HB6 := Lib.hid (HBb.out.trans (hb6.mono s5))
                  have HQ6 := Lib.hid (HQ.out.below hb6 (Nat.le_refl _))
                  clear ho6 hb6 C5 HA HBb HQ
                  have hq6 := HQ6.out
                  rw [HQE.out] at hq6
                  have c7 := HBT.out S (now : Int) A5 c5 _ _ w5 HB6.out hq6 s6
                  rw [← HQE.out] at c7
                  have C7 := Lib.hid c7
                  clear c7 hq6
                  go_wp2_with fail
                  with_reducible refine (C7.out).mono ?_
                  rintro e w7 ⟨⟨A7, c7, o7, rfl, ho7, hs7, hm7⟩, hb7⟩
                  have e7 := HEQ.out S o7 (now : Int) hs7 (fun x => by rw [hm7, HQE.out])
                  have s7 := hb7.size
                  have HO7 := Lib.hid ho7.ri
                  have HA7 := Lib.hid (HA6.out.below hb7 HA6.out.lt)
                  have HB7 := Lib.hid (HB6.out.trans (hb7.mono HB6.out.size))
                  have HR7 := Lib.hid (HR6.out.below hb7 (Nat.le_refl _))
                  clear ho7 hb7 hs7 hm7 C7 HA6 HB6 HR6 HQ6
                  have ho7' := HO7.out
                  rw [e7] at ho7'
                  have c8 := HAD.out S now HP.out hlt A6 c6 _ _ A7 c7 _ _ w7 HB7.out HR7.out s7 ho7' (Nat.le_refl _)
                  rw [← e7] at c8
                  have C8 := Lib.hid c8
                  have HE8 := Lib.hid (show Bs.admC g m (Bs.runAt g S now) wk o7 = Bs.planNext g m wk S now from by rw [e7]; rfl)
                  clear c8 ho7' e7
                  go_wp2_with fail
                  with_reducible refine (C8.out).mono ?_
                  rintro e w8 ⟨⟨A8, c8, rfl, ho8⟩, hb8⟩
                  have s8 := hb8.size
                  rw [HE8.out] at ho8 ⊢
                  have HO8 := Lib.hid ho8.ri
                  have HA8 := Lib.hid (HA7.out.below hb8 HA7.out.lt)
                  have HB8 := Lib.hid (HB7.out.trans (hb8.mono HB7.out.size))
                  have HNI := Lib.hid (HNM.out S (now : Int))
                  have hXl := HNL.out S (now : Int)
                  clear ho8 hb8 C8 HE8 HA7 HB7 HR7 HO7 HRA HBT HAD
                  generalize Bs.planNext g m wk S now = X at *
                  have s9 := HA8.out.lt
                  have hsz7 : w.heap.size < w7.heap.size := by omega
                  go_wp2
                  go_loopw [16] (fun i wr => ∃ (k : Nat), k ≤ X.length ∧ i = .int .i64 k ∧ Arr wr w.heap.size (Bs.setAll S now (X.take k)) ∧ RI wr w7.heap.size w8.heap.size A8 X ∧ Below w.heap.size w wr) (fun i _ => X.length - (intOf i).toNat)
                  case atStart => exact ⟨0, Nat.zero_le _, rfl, HA8.out, HO8.out, HB8.out⟩
                  case round =>
                    clear HA8 HO8 HB8
                    obtain ⟨k, hk, rfl, hA, hXI, hb⟩ := hrel
                    by_cases hklt : k < X.length
                    · obtain ⟨bx, ox, rfl, hbx1, _, hcx⟩ := hXI.at_ hklt
                      have hx := HNI.out _ (List.getElem_mem hklt)
                      have hsn := Bs.setAll_snoc S now (X.take k) X[k]
                      rw [← List.take_succ_eq_append_getElem hklt] at hsn
                      obtain ⟨x, hxv⟩ : ∃ x : Nat, X[k] = (x : Int) := ⟨X[k].toNat, by omega⟩
                      rw [hxv] at hx hcx hsn
                      rw [Int.toNat_natCast] at hsn
                      have hxl : x < (Bs.setAll S now (X.take k)).length := by rw [Bs.setAll_len, HSL.out]; omega
                      have kc := hA.at_ hxl
                      have kf := hA.frozen x
                      have hA2 := hA.set_ x (now : Int)
                      rw [← hsn] at hA2
                      have HA2 := Lib.hid hA2
                      have HX2 := Lib.hid (show RI (wr.setCell ⟨w.heap.size, x, none⟩ (.int .i64 (now : Int))) w7.heap.size w8.heap.size _ X from hXI.keep (fun p hp _ => World.cell?_setCell_far _ _ _ _ (show (⟨w.heap.size, x, none⟩ : Addr).block ≠ p.block from by show w.heap.size ≠ p.block; omega)))
                      have HB2 := Lib.hid (hb.setCell (p := ⟨w.heap.size, x, none⟩) (Nat.le_refl _) (.int .i64 (now : Int)))
                      have i0 : (0 : Int) ≤ (k : Int) := by omega
                      have i1 : (k : Int) < (X.length : Int) := by omega
                      have i2 : (0 : Int) ≤ (x : Int) := by omega
                      have i3 : (x : Int) < (g.length : Int) := by omega
                      clear hA hA2 hXI hb hsn hxl hxv
                      go_wp2
                      go_roundw
                      case rel => exact ⟨k + 1, by omega, by go_num, HA2.out, HX2.out, HB2.out⟩
                      case measure => simp [intOf]; omega
                    · obtain rfl : k = X.length := by omega
                      rw [List.take_length, ← HSTEP.out] at hA
                      have HA := Lib.hid hA
                      have HBb := Lib.hid hb
                      clear hA hb hXI
                      go_wp2
                      go_roundw
                      case rel => exact ⟨now + 1, by omega, by go_num, HA.out, HBb.out⟩
                      case measure => simp [intOf]; omega
        · obtain rfl : now = 200 := by omega
          have HE := Lib.hid (show Bs.planK g m wk 200 = Bs.planC g m wk from rfl)
          have HPL := Lib.hid (HPI.out 200 (Nat.le_refl _)).len
          have hO := hA.oi (B := w.heap.size) (Nat.le_refl _) (by rw [HPL.out]; omega)
          rw [HE.out] at hO
          have hlen : (Bs.planC g m wk).length = g.length := HPL.out
          rw [hlen] at hO
          have HO := Lib.hid hO
          have HB := Lib.hid hb
          have HLEN := Lib.hid hlen
          clear hA hb hO hlen
          go_wp2
          go_ret
          exact ⟨⟨some ⟨w.heap.size, 0, none⟩, g.length, by rw [HLEN.out]; rfl, HO.out⟩, HB.out⟩
end Go.Proofs.Ytihgakbopkaemaa
namespace Go.Proofs.Ytihgakbopkaemaa
open Go.RowKit
theorem PlanStartsS_any (A : Option Addr) (c : Nat) (g : List Bs.T) (A1 : Option Addr) (c1 : Nat) (m : List Int) (wk : Int) (lo hi l1 h1 : Nat) (w : World) (h : RG w lo hi A g) (hh : hi ≤ w.heap.size) (hm : RI w l1 h1 A1 m) (hh1 : h1 ≤ w.heap.size) (hl : g.length ≤ 9223372036854775807) (hml : m.length ≤ 9223372036854775807) :
    Calls Try.prog 94 #[.slice A g.length c, .slice A1 m.length c1, .int .i64 wk] w (RetI w (Bs.planL g m wk)) := by
  have q1 := validGraphS_any A c g lo hi w h hh hl
  have q2 := fun W (hb : Below w.heap.size w W) => validRoom_any A1 c1 m l1 h1 W (hm.below hb hh1) hml
  have q3 := fun W => inRange_any wk 1 4 W
  cases hv : Bs.valid g
  · rw [hv] at q1
    have C1 := Lib.hid q1
    have HV := Lib.hid (Bs.planL_no (Bs.canV_no1 (m := m) (wk := wk) hv))
    clear q1 q2 q3 hv h hm
    go_enter Try.func94, Try.ntmps94
    go_wp2_with fail
    with_reducible refine (C1.out).mono ?_
    rintro e w1 ⟨rfl, hb⟩
    have HB := Lib.hid hb
    clear hb
    go_wp2
    go_ret
    exact RetI.nil HB.out HV.out
  rw [hv] at q1
  have C1 := Lib.hid q1
  cases hr : Bs.roomOk m
  · rw [hr] at q2
    have C2 := Lib.hid q2
    have HV := Lib.hid (Bs.planL_no (Bs.canV_no2 (g := g) (wk := wk) hr))
    clear q1 q2 q3 hv hr h hm
    go_enter Try.func94, Try.ntmps94
    go_wp2_with fail
    with_reducible refine (C1.out).mono ?_
    rintro e w1 ⟨rfl, hb⟩
    have HB := Lib.hid hb
    clear hb
    go_wp2_with fail
    with_reducible refine (C2.out _ HB.out).mono ?_
    rintro e w2 ⟨rfl, rfl⟩
    go_wp2
    go_ret
    exact RetI.nil HB.out HV.out
  rw [hr] at q2
  have C2 := Lib.hid q2
  cases hwk : decide (1 ≤ wk ∧ wk ≤ 4)
  · rw [hwk] at q3
    have C3 := Lib.hid q3
    have HV := Lib.hid (Bs.planL_no (Bs.canV_no3 (g := g) (m := m) hwk))
    clear q1 q2 q3 hv hr hwk h hm
    go_enter Try.func94, Try.ntmps94
    go_wp2_with fail
    with_reducible refine (C1.out).mono ?_
    rintro e w1 ⟨rfl, hb⟩
    have HB := Lib.hid hb
    clear hb
    go_wp2_with fail
    with_reducible refine (C2.out _ HB.out).mono ?_
    rintro e w2 ⟨rfl, rfl⟩
    go_wp2_with fail
    with_reducible refine (C3.out _).mono ?_
    rintro e w2 ⟨rfl, rfl⟩
    go_wp2
    go_ret
    exact RetI.nil HB.out HV.out
  rw [hwk] at q3
  have C3 := Lib.hid q3
  have hcan := Bs.canV_yes hv hr hwk
  have HV := Lib.hid (Bs.planL_yes hcan)
  have C4 := Lib.hid (fun W (hb : Below w.heap.size w W) => planS_any A c g A1 c1 m wk lo hi l1 h1 W (h.below hb hh) (Nat.le_trans hh hb.size) (hm.below hb hh1) (Nat.le_trans hh1 hb.size) hcan)
  clear q1 q2 q3 hv hr hwk h hm hcan
  go_enter Try.func94, Try.ntmps94
  go_wp2_with fail
  with_reducible refine (C1.out).mono ?_
  rintro e w1 ⟨rfl, hb⟩
  have HB := Lib.hid hb
  have s1 := hb.size
  clear hb
  go_wp2_with fail
  with_reducible refine (C2.out _ HB.out).mono ?_
  rintro e w2 ⟨rfl, rfl⟩
  go_wp2_with fail
  with_reducible refine (C3.out _).mono ?_
  rintro e w2 ⟨rfl, rfl⟩
  go_wp2_with fail
  with_reducible refine (C4.out _ HB.out).mono ?_
  rintro e w5 ⟨⟨A5, c5, rfl, ho5⟩, hb5⟩
  have HO5 := Lib.hid (ho5.base s1)
  have HB5 := Lib.hid (HB.out.trans (hb5.mono s1))
  clear ho5 hb5
  go_wp2
  go_ret
  rw [HV.out]
  exact ⟨⟨A5, c5, rfl, HO5.out⟩, HB5.out⟩
end Go.Proofs.Ytihgakbopkaemaa
