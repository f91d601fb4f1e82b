/-
  WALKS: valid beginnings, ends, what runs, of the model: the whole functions.
-/
import Derived.Test.YtfdaeomlgpflhaaR20
namespace Go.Proofs.Ytfdaeomlgpflhaa
open Go.RowKit
theorem need_no {g : List Bs.T} {S : List Int} {k : Nat} (hk : k < g.length) {x : Int} (hx : x ∈ g[k].needs) (h : ¬ Bs.giZ S x.toNat + Bs.timeOf g x.toNat ≤ Bs.giZ S k) : Bs.needOkB g S k = false := by
  unfold Bs.needOkB
  rw [need_at hk, List.all_eq_false]
  exact ⟨x, hx, by rw [decide_eq_true_eq]; exact h⟩
theorem need_yes {g : List Bs.T} {S : List Int} {k : Nat} (hk : k < g.length) (h : ∀ j (hj : j < g[k].needs.length), Bs.giZ S g[k].needs[j].toNat + Bs.timeOf g g[k].needs[j].toNat ≤ Bs.giZ S k) : Bs.needOkB g S k = true := by
  unfold Bs.needOkB
  rw [need_at hk, List.all_eq_true]
  intro x hx
  obtain ⟨j, hj, rfl⟩ := List.mem_iff_getElem.1 hx
  rw [decide_eq_true_eq]
  exact h j hj
theorem stV_no3 {g : List Bs.T} {m S : List Int} {wk : Int} (h : Bs.stK g m wk S g.length = false) : Bs.stV g m wk S = false := by unfold Bs.stV; rw [h]; simp
set_option maxHeartbeats 1600000 in
theorem validStartsS_any (A : Option Addr) (c : Nat) (g : List Bs.T) (A1 : Option Addr) (c1 : Nat) (m : List Int) (A2 : Option Addr) (c2 : Nat) (S : List Int) (wk : Int) (lo hi l1 h1 l2 h2 : Nat) (w : World) (h : RG w lo hi A g) (hh : hi ≤ w.heap.size) (hm : RI w l1 h1 A1 m) (hh1 : h1 ≤ w.heap.size) (hs : RI w l2 h2 A2 S) (hh2 : h2 ≤ w.heap.size) (hl : g.length ≤ 9223372036854775807) (hml : m.length ≤ 9223372036854775807) (hsl : S.length ≤ 9223372036854775807) :
    Calls Try.prog 39 #[.slice A g.length c, .slice A1 m.length c1, .int .i64 wk, .slice A2 S.length c2] w fun e w' => e = .returned (.bool (Bs.stV g m wk S)) ∧ Below w.heap.size w w' := by
  have q1 := validGraphS_any A c g lo hi w h hh hl
  have q2 := fun W (hb : Below w.heap.size w W) => validRoom_any A1 c1 m l1 h1 W (hm.below hb hh1) hml
  have q3 := fun W => inRange_any wk 1 4 W
  have q4 := fun W (hb : Below w.heap.size w W) => allIn_any A2 c2 S 0 200 l2 h2 W (hs.below hb hh2) hsl
  cases hv : Bs.valid g
  · rw [hv] at q1
    have C1 := Lib.hid q1
    have HV := Lib.hid (Bs.stV_no1 (S := S) (Bs.canV_no1 (m := m) (wk := wk) hv))
    clear q1 q2 q3 q4 hv h hm hs
    go_enter Try.func39, Try.ntmps39
    go_wp2_with fail
    with_reducible refine (C1.out).mono ?_
    rintro e w1 ⟨rfl, hb⟩
    have HB := Lib.hid hb
    clear hb
    go_wp2
    go_ret
    exact ⟨ret_bool HV.out.symm, HB.out⟩
  rw [hv] at q1
  have C1 := Lib.hid q1
  cases hr : Bs.roomOk m
  · rw [hr] at q2
    have C2 := Lib.hid q2
    have HV := Lib.hid (Bs.stV_no1 (S := S) (Bs.canV_no2 (g := g) (wk := wk) hr))
    clear q1 q2 q3 q4 hv hr h hm hs
    go_enter Try.func39, Try.ntmps39
    go_wp2_with fail
    with_reducible refine (C1.out).mono ?_
    rintro e w1 ⟨rfl, hb⟩
    have HB := Lib.hid hb
    clear hb
    go_wp2_with fail
    with_reducible refine (C2.out _ HB.out).mono ?_
    rintro e w2 ⟨rfl, rfl⟩
    go_wp2
    go_ret
    exact ⟨ret_bool HV.out.symm, HB.out⟩
  rw [hr] at q2
  have C2 := Lib.hid q2
  cases hwk : decide (1 ≤ wk ∧ wk ≤ 4)
  · rw [hwk] at q3
    have C3 := Lib.hid q3
    have HV := Lib.hid (Bs.stV_no1 (S := S) (Bs.canV_no3 (g := g) (m := m) hwk))
    clear q1 q2 q3 q4 hv hr hwk h hm hs
    go_enter Try.func39, Try.ntmps39
    go_wp2_with fail
    with_reducible refine (C1.out).mono ?_
    rintro e w1 ⟨rfl, hb⟩
    have HB := Lib.hid hb
    clear hb
    go_wp2_with fail
    with_reducible refine (C2.out _ HB.out).mono ?_
    rintro e w2 ⟨rfl, rfl⟩
    go_wp2_with fail
    with_reducible refine (C3.out _).mono ?_
    rintro e w2 ⟨rfl, rfl⟩
    go_wp2
    go_ret
    exact ⟨ret_bool HV.out.symm, HB.out⟩
  rw [hwk] at q3
  have C3 := Lib.hid q3
  have hcan := Bs.canV_yes hv hr hwk
  by_cases hlen : S.length = g.length
  rotate_left
  · have HV := Lib.hid (Bs.stV_no2 (m := m) (wk := wk) (show Bs.clkV g S = false from by unfold Bs.clkV; simp [hlen]))
    have hq : ((S.length : Int) != (g.length : Int)) = true := by simp; omega
    have hq2 : (S.length != g.length) = true := by simp [hlen]
    clear q1 q2 q3 q4 hv hr hwk h hm hs hcan
    go_enter Try.func39, Try.ntmps39
    go_wp2_with fail
    with_reducible refine (C1.out).mono ?_
    rintro e w1 ⟨rfl, hb⟩
    have HB := Lib.hid hb
    clear hb
    go_wp2_with fail
    with_reducible refine (C2.out _ HB.out).mono ?_
    rintro e w2 ⟨rfl, rfl⟩
    go_wp2_with fail
    with_reducible refine (C3.out _).mono ?_
    rintro e w2 ⟨rfl, rfl⟩
    go_wp2
    go_ret
    exact ⟨ret_bool HV.out.symm, HB.out⟩
  have hq : ((S.length : Int) != (g.length : Int)) = false := by simp [hlen]
  have hq2 : (S.length != g.length) = false := by simp [hlen]
  cases hin : Bs.allInB S 0 200
  · rw [hin] at q4
    have C4 := Lib.hid q4
    have HV := Lib.hid (Bs.stV_no2 (m := m) (wk := wk) (show Bs.clkV g S = false from by unfold Bs.clkV; rw [hin]; simp))
    clear q1 q2 q3 q4 hv hr hwk h hm hs hcan hlen hin
    go_enter Try.func39, Try.ntmps39
    go_wp2_with fail
    with_reducible refine (C1.out).mono ?_
    rintro e w1 ⟨rfl, hb⟩
    have HB := Lib.hid hb
    clear hb
    go_wp2_with fail
    with_reducible refine (C2.out _ HB.out).mono ?_
    rintro e w2 ⟨rfl, rfl⟩
    go_wp2_with fail
    with_reducible refine (C3.out _).mono ?_
    rintro e w2 ⟨rfl, rfl⟩
    go_wp2_with fail
    with_reducible refine (C4.out _ HB.out).mono ?_
    rintro e w2 ⟨rfl, rfl⟩
    go_wp2
    go_ret
    exact ⟨ret_bool HV.out.symm, HB.out⟩
  rw [hin] at q4
  have C4 := Lib.hid q4
  have hk : Bs.clkV g S = true := by unfold Bs.clkV; rw [hin]; simp [hlen]
  have hF := valid_fine hv
  have h8 := Bs.fine_len hF
  have hsb : ∀ i, i < g.length → 0 ≤ Bs.giZ S i ∧ Bs.giZ S i ≤ 100000 := fun i _ => by have := Bs.clk_at hk i; omega
  have C5 := Lib.hid (fun now W (hb : Below w.heap.size w W) => runningAtS_any A c g A2 c2 S now lo hi l2 h2 W (h.below hb hh) (Nat.le_trans hh hb.size) (hs.below hb hh2) (Nat.le_trans hh2 hb.size) hF (by omega) hsl hsb)
  have C6 := Lib.hid (fun (A' : Option Addr) (c' : Nat) (r : List Int) (l3 h3 : Nat) W (hb : Below w.heap.size w W) (h3r : RI W l3 h3 A' r) (hh3 : h3 ≤ W.heap.size) (hrl : r.length ≤ 8) => validRunningS_any A c g A1 c1 m A' c' r lo hi l1 h1 l3 h3 W (h.below hb hh) (Nat.le_trans hh hb.size) (hm.below hb hh1) (Nat.le_trans hh1 hb.size) h3r hh3 hl hml (by omega))
  have HROK := Lib.hid (fun now => show Bs.runOk g m (Bs.runAt g S now) = Bs.fitsC g m (Bs.runAt g S now) from runOk_at hv hr (Bs.inG_pick g _))
  have HSY := Lib.hid (Bs.stV_yes hcan hk)
  have HSN := Lib.hid (fun h => stV_no3 (g := g) (m := m) (wk := wk) (S := S) h)
  have HKN := Lib.hid (fun i (hi : i < g.length) h => Bs.stK_no (g := g) (m := m) (wk := wk) (S := S) (i := i) hi h)
  have HKS := Lib.hid (Bs.stK_succ g m wk S)
  have HTT := Lib.hid (fun i (hi : i < g.length) => Bs.fine_time' hF hi)
  have HNI := Lib.hid (fun i (hi : i < g.length) => Bs.inG_mem (Bs.fine_inG hF hi))
  have HNL := Lib.hid (fun i (hi : i < g.length) => Bs.fine_needs_len hF hi)
  have HSB := Lib.hid hsb
  have HG := Lib.hid h
  have HI := Lib.hid hs
  have HLEN := Lib.hid hlen
  clear q1 q2 q3 q4 hv hr hwk h hm hs hcan hlen hin hk hF hsb
  go_enter Try.func39, Try.ntmps39
  go_wp2_with fail
  with_reducible refine (C1.out).mono ?_
  rintro e w1 ⟨rfl, hb⟩
  have HB := Lib.hid hb
  clear hb
  go_wp2_with fail
  with_reducible refine (C2.out _ HB.out).mono ?_
  rintro e w2 ⟨rfl, rfl⟩
  go_wp2_with fail
  with_reducible refine (C3.out _).mono ?_
  rintro e w2 ⟨rfl, rfl⟩
  go_wp2_with fail
  with_reducible refine (C4.out _ HB.out).mono ?_
  rintro e w2 ⟨rfl, rfl⟩
  clear C1 C2 C3 C4
  go_wp2
  go_loopw [9] (fun i wr => ∃ (k : Nat), k ≤ g.length ∧ i = .int .i64 k ∧ Bs.stK g m wk S k = true ∧ Below w.heap.size w wr) (fun i _ => g.length - (intOf i).toNat)
  case atStart => exact ⟨0, Nat.zero_le _, rfl, rfl, HB.out⟩
  case round =>
    obtain ⟨k, hk, rfl, hst, hb⟩ := hrel
    have HST := Lib.hid hst
    clear hst HB
    by_cases hlt : k < g.length
    · have hks : k < S.length := by have := HLEN.out; omega
      have HBr := Lib.hid hb
      have i0 : (0 : Int) ≤ (k : Int) := by omega
      have i1 : (k : Int) < (S.length : Int) := by omega
      have i2 : (k : Int) < (g.length : Int) := by omega
      have hnl := HNL.out k hlt
      have hsk := HSB.out k hlt
      have hkn := HKN.out k hlt
      have HKN1 := Lib.hid (fun h => HSN.out (hkn h))
      have hgz := Bs.giZ_at hks
      obtain ⟨sk, hskv⟩ : ∃ sk, sk = Bs.giZ S k := ⟨_, rfl⟩
      rw [← hskv] at hsk
      have HSK := Lib.hid hskv
      have HGZ := Lib.hid (hskv.trans hgz)
      clear hkn hgz hskv hb
      go_wp2
      go_loopw [10] (fun ip w2 => ∃ (p : Nat), p ≤ g[k].needs.length ∧ ip = .int .i64 p ∧ (∀ j (hj : j < g[k].needs.length), j < p → Bs.giZ S g[k].needs[j].toNat + Bs.timeOf g g[k].needs[j].toNat ≤ sk) ∧ Below w.heap.size w w2) (fun ip _ => g[k].needs.length - (intOf ip).toNat)
      case atStart => exact ⟨0, Nat.zero_le _, rfl, by intro j _ hj; omega, HBr.out⟩
      case round =>
        obtain ⟨p, hp, rfl, hall, hb2⟩ := hrel
        have HALL := Lib.hid hall
        have HB2 := Lib.hid hb2
        clear hall
        obtain ⟨b, o1, rfl, _, hbh, hc⟩ := (HI.out.below hb2 hh2).at_ hks
        obtain ⟨bg, og, N, cN, rfl, _, hgh, _, n1, _, _, hnc, hcN, hN⟩ := (HG.out.below hb2 hh) k hlt
        rw [← HGZ.out] at hc
        by_cases hplt : p < g[k].needs.length
        · obtain ⟨bn, on, rfl, _, _, hcn⟩ := hN.at_ hplt
          have hx := HNI.out k hlt _ (List.getElem_mem hplt)
          have HMEM := Lib.hid (List.getElem_mem hplt)
          have HJ := Lib.hid (fun (hle : Bs.giZ S g[k].needs[p].toNat + Bs.timeOf g g[k].needs[p].toNat ≤ sk) => show ∀ j (hj : j < g[k].needs.length), j < p + 1 → Bs.giZ S g[k].needs[j].toNat + Bs.timeOf g g[k].needs[j].toNat ≤ sk from by
            intro j hj hjp
            by_cases e : j = p
            · subst e; exact hle
            · exact HALL.out j hj (by omega))
          have HNO := Lib.hid (fun (hle : ¬ Bs.giZ S g[k].needs[p].toNat + Bs.timeOf g g[k].needs[p].toNat ≤ sk) => HKN1.out (by rw [need_no hlt (List.getElem_mem hplt) (by rw [← HSK.out]; exact hle)]; rfl))
          obtain ⟨x, hxv⟩ : ∃ x : Nat, g[k].needs[p] = (x : Int) := ⟨g[k].needs[p].toNat, by omega⟩
          rw [hxv] at hx hcn HJ HNO
          rw [Int.toNat_natCast] at HJ HNO
          have hxl : x < g.length := by omega
          have hxs : x < S.length := by have := HLEN.out; omega
          obtain ⟨b', o', e', _, _, hcx⟩ := (HI.out.below hb2 hh2).at_ hxs
          cases e'
          obtain ⟨bg', og', N', cN', eg', _, _, t0, _, _, _, _, _, _⟩ := (HG.out.below hb2 hh) x hxl
          cases eg'
          rw [← Bs.giZ_at hxs] at hcx
          rw [time_at hxl] at HJ HNO
          have hsx := HSB.out x hxl
          have htx := HTT.out x hxl
          have j0 : (0 : Int) ≤ (x : Int) := by omega
          have j1 : (x : Int) < (S.length : Int) := by omega
          have j2 : (x : Int) < (g.length : Int) := by omega
          have p1 : (p : Int) < (g[k].needs.length : Int) := by omega
          clear hN hb2 HMEM hxv
          generalize g[x].time = tx at *
          generalize Bs.giZ S x = sx at *
          have hw : IntKind.i64.wrap (sx + tx) = sx + tx := IntWalk.i64_in _ ⟨by omega, by omega⟩
          by_cases hle : sx + tx ≤ sk
          · have HJJ := Lib.hid (HJ.out hle)
            have hgt : decide (sx + tx > sk) = false := by simp; omega
            have hgt2 : decide (sk < sx + tx) = false := by simp; omega
            clear HNO HJ
            go_wp2
            go_quiet (fail)
            go_wp2
            go_roundw
            case rel => exact ⟨p + 1, by omega, by go_num, HJJ.out, HB2.out.drewN _⟩
            case measure => simp [intOf]; omega
          · have HNN := Lib.hid (HNO.out hle)
            have hgt : decide (sx + tx > sk) = true := by simp; omega
            have hgt2 : decide (sk < sx + tx) = true := by simp; omega
            clear HNO HJ
            go_wp2
            go_quiet (fail)
            go_wp2
            go_ret
            exact ⟨ret_bool HNN.out.symm, HB2.out.drewN _⟩
        · obtain rfl : p = g[k].needs.length := by omega
          have HNY := Lib.hid (show Bs.needOkB g S k = true from need_yes hlt (fun j hj => by rw [← HSK.out]; exact HALL.out j hj hj))
          have hks2 := HKS.out k
          rw [HST.out, HNY.out, ← HSK.out] at hks2
          rw [HNY.out, ← HSK.out] at HKN1
          have hfn : Bs.fitN g m wk (Bs.runAt g S sk) = (decide (((Bs.runAt g S sk).length : Int) ≤ wk) && Bs.fitsC g m (Bs.runAt g S sk)) := rfl
          rw [hfn] at hks2 HKN1
          have hrl := Bs.runAt_len g S sk
          have C7 := Lib.hid (C5.out sk wr HB2.out)
          have hrok := HROK.out sk
          have KS := Lib.hid hks2
          have ROK := Lib.hid hrok
          clear hN hb2 hks2 hfn hrok HSK C5
          generalize Bs.runAt g S sk = R at *
          go_wp2_with fail
          with_reducible refine (C7.out).mono ?_
          rintro e w5 ⟨⟨A5, c5, rfl, ho5⟩, hb5⟩
          have HO5 := Lib.hid ho5.ri
          have HB5 := Lib.hid (HB2.out.trans (hb5.mono HB2.out.size))
          have C8 := Lib.hid (C6.out A5 c5 R _ _ w5 HB5.out ho5.ri (Nat.le_refl _) (by omega))
          clear ho5 hb5 C7 C6
          by_cases hn : wk < (R.length : Int)
          · have HNN := Lib.hid (HKN1.out (by simp; omega))
            have hn2 : decide ((R.length : Int) > wk) = true := by simp; omega
            go_wp2
            go_ret
            exact ⟨ret_bool HNN.out.symm, HB5.out⟩
          · have hn2 : decide ((R.length : Int) > wk) = false := by simp; omega
            have hn3 : decide (wk < (R.length : Int)) = false := by simp; omega
            have hff : Bs.fitsC g m R = true ∨ Bs.fitsC g m R = false := by cases Bs.fitsC g m R <;> simp
            rcases hff with hff | hff
            · have c8 := C8.out
              rw [ROK.out, hff] at c8
              have C9 := Lib.hid c8
              have HS2 := Lib.hid (show Bs.stK g m wk S (k + 1) = true from by rw [KS.out, hff]; simp; omega)
              clear hff c8 C8
              go_wp2_with fail
              with_reducible refine (C9.out).mono ?_
              rintro e w8 ⟨rfl, hb8⟩
              have HB8 := Lib.hid (HB5.out.trans (hb8.mono HB5.out.size))
              clear hb8
              go_wp2
              go_roundw
              case rel => exact ⟨k + 1, by omega, by go_num, HS2.out, HB8.out⟩
              case measure => simp [intOf]; omega
            · have c8 := C8.out
              rw [ROK.out, hff] at c8
              have C9 := Lib.hid c8
              have HNN := Lib.hid (HKN1.out (by rw [hff]; simp))
              clear hff c8 C8
              go_wp2_with fail
              with_reducible refine (C9.out).mono ?_
              rintro e w8 ⟨rfl, hb8⟩
              have HB8 := Lib.hid (HB5.out.trans (hb8.mono HB5.out.size))
              clear hb8
              go_wp2
              go_ret
              exact ⟨ret_bool HNN.out.symm, HB8.out⟩
    · obtain rfl : k = g.length := by omega
      have HQ := Lib.hid (show Bs.stV g m wk S = true from by rw [HSY.out, HST.out])
      go_wp2
      go_ret
      exact ⟨ret_bool HQ.out.symm, hb⟩
theorem runL_k (g : List Bs.T) (m : List Int) (wk : Int) (S : List Int) (now : Int) : (Bs.runL g m wk S now).length ≤ 1000 := by
  cases hv : Bs.stV g m wk S
  · rw [Bs.runL_no hv]; simp
  · rw [Bs.runL_yes hv]
    have h1 := Bs.runAt_len g S now
    have h2 := Bs.fine_len (valid_fine (Bs.canV_iff.1 (Bs.stV_iff.1 hv).1).1)
    omega
theorem ValidStartsS_any (A : Option Addr) (c : Nat) (g : List Bs.T) (A1 : Option Addr) (c1 : Nat) (m : List Int) (A2 : Option Addr) (c2 : Nat) (S : List Int) (wk : Int) (lo hi l1 h1 l2 h2 : Nat) (w : World) (h : RG w lo hi A g) (hh : hi ≤ w.heap.size) (hm : RI w l1 h1 A1 m) (hh1 : h1 ≤ w.heap.size) (hs : RI w l2 h2 A2 S) (hh2 : h2 ≤ w.heap.size) (hl : g.length ≤ 9223372036854775807) (hml : m.length ≤ 9223372036854775807) (hsl : S.length ≤ 9223372036854775807) :
    Calls Try.prog 13 #[.slice A g.length c, .slice A1 m.length c1, .int .i64 wk, .slice A2 S.length c2] w fun e w' => e = .returned (.bool (Bs.stV g m wk S)) ∧ Below w.heap.size w w' := by
  have C1 := Lib.hid (validStartsS_any A c g A1 c1 m A2 c2 S wk lo hi l1 h1 l2 h2 w h hh hm hh1 hs hh2 hl hml hsl)
  clear h hm hs
  generalize Bs.stV g m wk S = v at *
  go_enter Try.func13, Try.ntmps13
  go_wp2_with fail
  with_reducible refine (C1.out).mono ?_
  rintro e w1 ⟨rfl, hb⟩
  go_wp2
  go_ret
  exact ⟨rfl, hb⟩
theorem EndTimeS_any (A : Option Addr) (c : Nat) (g : List Bs.T) (A1 : Option Addr) (c1 : Nat) (m : List Int) (A2 : Option Addr) (c2 : Nat) (S : List Int) (wk : Int) (lo hi l1 h1 l2 h2 : Nat) (w : World) (h : RG w lo hi A g) (hh : hi ≤ w.heap.size) (hm : RI w l1 h1 A1 m) (hh1 : h1 ≤ w.heap.size) (hs : RI w l2 h2 A2 S) (hh2 : h2 ≤ w.heap.size) (hl : g.length ≤ 9223372036854775807) (hml : m.length ≤ 9223372036854775807) (hsl : S.length ≤ 9223372036854775807) :
    Calls Try.prog 24 #[.slice A g.length c, .slice A1 m.length c1, .int .i64 wk, .slice A2 S.length c2] w fun e w' => e = .returned (.int .i64 (Bs.endT g m wk S)) ∧ Below w.heap.size w w' := by
  have q1 := validStartsS_any A c g A1 c1 m A2 c2 S wk lo hi l1 h1 l2 h2 w h hh hm hh1 hs hh2 hl hml hsl
  cases hv : Bs.stV g m wk S
  · rw [hv] at q1
    have C1 := Lib.hid q1
    have HV := Lib.hid (Bs.endT_no hv)
    clear q1 hv h hm hs
    go_enter Try.func24, Try.ntmps24
    go_wp2_with fail
    with_reducible refine (C1.out).mono ?_
    rintro e w1 ⟨rfl, hb⟩
    have HB := Lib.hid hb
    clear hb
    go_wp2
    go_ret
    exact ⟨ret_int HV.out.symm, HB.out⟩
  rw [hv] at q1
  have C1 := Lib.hid q1
  have HV := Lib.hid (Bs.endT_yes hv)
  obtain ⟨hcan, hk, _⟩ := Bs.stV_iff.1 hv
  have hF := valid_fine (Bs.canV_iff.1 hcan).1
  have hlen := Bs.clk_len hk
  have C2 := Lib.hid (fun W (hb : Below w.heap.size w W) => endOfS_any A c g A2 c2 S lo hi l2 h2 W (h.below hb hh) (hs.below hb hh2) hF (by omega) hsl (fun i _ => by have := Bs.clk_at hk i; omega))
  clear q1 hv h hm hs hk hF hlen hcan
  go_enter Try.func24, Try.ntmps24
  go_wp2_with fail
  with_reducible refine (C1.out).mono ?_
  rintro e w1 ⟨rfl, hb⟩
  have HB := Lib.hid hb
  clear hb
  go_wp2_with fail
  with_reducible refine (C2.out _ HB.out).mono ?_
  rintro e w2 ⟨rfl, n, rfl⟩
  go_wp2
  go_ret
  exact ⟨ret_int HV.out.symm, HB.out.drewN _⟩
theorem RunningAtS_any (A : Option Addr) (c : Nat) (g : List Bs.T) (A1 : Option Addr) (c1 : Nat) (m : List Int) (A2 : Option Addr) (c2 : Nat) (S : List Int) (wk now : Int) (lo hi l1 h1 l2 h2 : Nat) (w : World) (h : RG w lo hi A g) (hh : hi ≤ w.heap.size) (hm : RI w l1 h1 A1 m) (hh1 : h1 ≤ w.heap.size) (hs : RI w l2 h2 A2 S) (hh2 : h2 ≤ w.heap.size) (hl : g.length ≤ 9223372036854775807) (hml : m.length ≤ 9223372036854775807) (hsl : S.length ≤ 9223372036854775807) :
    Calls Try.prog 26 #[.slice A g.length c, .slice A1 m.length c1, .int .i64 wk, .slice A2 S.length c2, .int .i64 now] w (RetI w (Bs.runL g m wk S now)) := by
  have q1 := validStartsS_any A c g A1 c1 m A2 c2 S wk lo hi l1 h1 l2 h2 w h hh hm hh1 hs hh2 hl hml hsl
  cases hv : Bs.stV g m wk S
  · rw [hv] at q1
    have C1 := Lib.hid q1
    have HV := Lib.hid (Bs.runL_no (now := now) hv)
    clear q1 hv h hm hs
    go_enter Try.func26, Try.ntmps26
    go_wp2_with fail
    with_reducible refine (C1.out).mono ?_
    rintro e w1 ⟨rfl, hb⟩
    have HB := Lib.hid hb
    clear hb
    go_wp2
    go_ret
    exact RetI.nil HB.out HV.out
  rw [hv] at q1
  have C1 := Lib.hid q1
  have HV := Lib.hid (Bs.runL_yes (now := now) hv)
  obtain ⟨hcan, hk, _⟩ := Bs.stV_iff.1 hv
  have hF := valid_fine (Bs.canV_iff.1 hcan).1
  have hlen := Bs.clk_len hk
  have C2 := Lib.hid (fun W (hb : Below w.heap.size w W) => runningAtS_any A c g A2 c2 S now lo hi l2 h2 W (h.below hb hh) (Nat.le_trans hh hb.size) (hs.below hb hh2) (Nat.le_trans hh2 hb.size) hF (by omega) hsl (fun i _ => by have := Bs.clk_at hk i; omega))
  clear q1 hv h hm hs hk hF hlen hcan
  go_enter Try.func26, Try.ntmps26
  go_wp2_with fail
  with_reducible refine (C1.out).mono ?_
  rintro e w1 ⟨rfl, hb⟩
  have HB := Lib.hid hb
  have s3 := hb.size
  clear hb
  go_wp2_with fail
  with_reducible refine (C2.out _ HB.out).mono ?_
  rintro e w5 ⟨⟨A5, c5, rfl, ho5⟩, hb5⟩
  have HO5 := Lib.hid (ho5.base s3)
  have HB5 := Lib.hid (HB.out.trans (hb5.mono s3))
  clear ho5 hb5
  go_wp2
  go_ret
  rw [HV.out]
  exact ⟨⟨A5, c5, rfl, HO5.out⟩, HB5.out⟩
end Go.Proofs.Ytfdaeomlgpflhaa
