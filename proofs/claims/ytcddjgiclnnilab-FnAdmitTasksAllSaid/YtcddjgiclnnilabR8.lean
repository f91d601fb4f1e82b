/-
  WALKS: what is admitted, of the model: the whole function.
-/
import Derived.Test.YtcddjgiclnnilabR7
namespace Go.Proofs.Ytcddjgiclnnilab
open Go.RowKit
theorem RI.takeS {w : World} {lo hi : Nat} {A : Option Addr} {l : List Int} (h : RI w lo hi A l) (k : Nat) : RI w lo hi A (l.take k) := by
  intro j hj
  rw [List.length_take] at hj
  obtain ⟨b, o, e, h1, h2, hc⟩ := h j (by omega)
  exact ⟨b, o, e, h1, h2, by rw [hc, List.getElem_take]⟩
theorem isIn_q (A : Option Addr) (c : Nat) (l : List Int) (k : Nat) (n : Int) (lo hi : Nat) (w : World) (h : RI w lo hi A l) (hl : l.length ≤ 9223372036854775807) (hk : l.length = k) (i j : Nat) :
    Calls Try.prog 61 #[.slice A k c, .int .i64 n] (w.drewN (i + j)) fun e w' => e = .returned (.bool (l.contains n)) ∧ ∃ m, w' = w.drewN (i + m) := by
  subst hk
  exact (isIn_any A c l n lo hi (w.drewN (i + j)) h hl).mono fun _ _ ⟨h1, h2⟩ => ⟨h1, j, h2.symm⟩
set_option maxRecDepth 20000 in
set_option maxHeartbeats 3200000 in
theorem AdmitTasksS_any (A : Option Addr) (c : Nat) (g : List Bs.T) (A1 : Option Addr) (c1 : Nat) (m : List Int) (A2 : Option Addr) (c2 : Nat) (r : List Int) (A3 : Option Addr) (c3 : Nat) (l : List Int) (wk : Int) (lo hi l1 h1 l2 h2 l3 h3 : Nat) (w : World) (h : RG w lo hi A g) (hh : hi ≤ w.heap.size) (hm : RI w l1 h1 A1 m) (hh1 : h1 ≤ w.heap.size) (h' : RI w l2 h2 A2 r) (hh2 : h2 ≤ w.heap.size) (h'' : RI w l3 h3 A3 l) (hh3 : h3 ≤ w.heap.size) (hl : g.length ≤ 9223372036854775807) (hml : m.length ≤ 9223372036854775807) (hr : r.length ≤ 9223372036854775807) (hll : l.length ≤ c3) (hc3 : c3 ≤ 9223372036854775807) :
    Calls Try.prog 18 #[.slice A g.length c, .slice A1 m.length c1, .slice A2 r.length c2, .slice A3 l.length c3, .int .i64 wk] w (RetI w (Bs.admL g m r l wk)) := by
  have q1 := validRunningS_any A c g A1 c1 m A2 c2 r lo hi l1 h1 l2 h2 w h hh hm hh1 h' hh2 hl hml hr
  cases hrun : Bs.runOk g m r
  · rw [hrun] at q1
    have C1 := Lib.hid q1
    have HV := Lib.hid (Bs.admL_no (Bs.admV_no1 (l := l) (wk := wk) hrun))
    clear q1 h hm h' h'' hrun
    go_enter Try.func18, Try.ntmps18
    go_wp2_with fail
    with_reducible refine (C1.out).mono ?_
    rintro e w1 ⟨rfl, hb⟩
    have HB := Lib.hid hb
    clear hb
    go_wp2
    go_ret
    exact RetI.nil HB.out HV.out
  · rw [hrun] at q1
    have C1 := Lib.hid q1
    have q2 := fun W => inRange_any wk 1 4 W
    cases hwk : decide (1 ≤ wk ∧ wk ≤ 4)
    · rw [hwk] at q2
      have C2 := Lib.hid q2
      have HV := Lib.hid (Bs.admL_no (Bs.admV_no2 (g := g) (m := m) (r := r) (l := l) hwk))
      clear q1 q2 h hm h' h'' hrun hwk
      go_enter Try.func18, Try.ntmps18
      go_wp2_with fail
      with_reducible refine (C1.out).mono ?_
      rintro e w1 ⟨rfl, hb⟩
      have HB := Lib.hid hb
      clear hb
      go_wp2_with fail
      with_reducible refine (C2.out _).mono ?_
      rintro e w2 ⟨rfl, rfl⟩
      go_wp2
      go_ret
      exact RetI.nil HB.out HV.out
    · rw [hwk] at q2
      have C2 := Lib.hid q2
      have hrun0 := hrun
      unfold Bs.runOk at hrun
      simp only [Bool.and_eq_true] at hrun
      obtain ⟨⟨⟨hv, hroom⟩, hig⟩, hfit⟩ := hrun
      have h8 := Bs.fine_len (valid_fine hv)
      have q3 := fun W (hb : Below w.heap.size w W) => allIn_any A3 c3 l 0 ((g.length : Int) - 1) l3 h3 W (h''.below hb hh3) (by omega)
      have hw : IntKind.i64.wrap ((g.length : Int) - 1) = (g.length : Int) - 1 := IntWalk.i64_in _ ⟨by omega, by omega⟩
      cases hin : Bs.allInB l 0 ((g.length : Int) - 1)
      · rw [hin] at q3
        have C3 := Lib.hid q3
        have HV := Lib.hid (Bs.admL_no (Bs.admV_no3 (m := m) (r := r) (wk := wk) hin))
        clear q1 q2 q3 h hm h' h'' hrun0 hwk hin hv hroom hig hfit
        go_enter Try.func18, Try.ntmps18
        go_wp2_with fail
        with_reducible refine (C1.out).mono ?_
        rintro e w1 ⟨rfl, hb⟩
        have HB := Lib.hid hb
        clear hb
        go_wp2_with fail
        with_reducible refine (C2.out _).mono ?_
        rintro e w2 ⟨rfl, rfl⟩
        go_wp2_with fail
        with_reducible refine (C3.out _ HB.out).mono ?_
        rintro e w2 ⟨rfl, rfl⟩
        go_wp2
        go_ret
        exact RetI.nil HB.out HV.out
      · rw [hin] at q3
        have C3 := Lib.hid q3
        have HNO := Lib.hid (fun h => Bs.admL_no (Bs.admV_no4 (g := g) (m := m) (r := r) (l := l) (wk := wk) h))
        have C6 := Lib.hid (fun W (hb : Below w.heap.size w W) (hid : Bs.idleB r l l.length = true) => admitS_any A c g A1 c1 m A2 c2 r A3 c3 l wk lo hi l1 h1 l2 h2 l3 h3 W (h.below hb hh) (Nat.le_trans hh hb.size) (hm.below hb hh1) (Nat.le_trans hh1 hb.size) (h'.below hb hh2) (Nat.le_trans hh2 hb.size) (h''.below hb hh3) (Nat.le_trans hh3 hb.size) (Bs.admV_yes hrun0 hwk hin hid))
        have HYES := Lib.hid (fun (hid : Bs.idleB r l l.length = true) => Bs.admL_yes (Bs.admV_yes hrun0 hwk hin hid))
        have HR := Lib.hid h'
        have HL := Lib.hid h''
        clear q1 q2 q3 h hm h' h'' hrun0 hwk hin hv hroom hig hfit
        go_enter Try.func18, Try.ntmps18
        go_wp2_with fail
        with_reducible refine (C1.out).mono ?_
        rintro e w1 ⟨rfl, hb⟩
        have HB := Lib.hid hb
        clear hb
        go_wp2_with fail
        with_reducible refine (C2.out _).mono ?_
        rintro e w2 ⟨rfl, rfl⟩
        go_wp2_with fail
        with_reducible refine (C3.out _ HB.out).mono ?_
        rintro e w2 ⟨rfl, rfl⟩
        have HR1 := Lib.hid (HR.out.below HB.out hh2)
        have HL1 := Lib.hid (HL.out.below HB.out hh3)
        obtain ⟨W1, rfl⟩ : ∃ W1, W1 = w1 := ⟨_, rfl⟩
        clear hw C1 C2 C3 HR HL
        go_wp2
        go_loopw [11] (fun i wr => ∃ (k n : Nat), k ≤ l.length ∧ i = .int .i64 k ∧ Bs.idleB r l k = true ∧ wr = W1.drewN n) (fun i _ => l.length - (intOf i).toNat)
        case atStart => exact ⟨0, 0, Nat.zero_le _, rfl, rfl, rfl⟩
        case round =>
          obtain ⟨k, n, hk, rfl, hid, rfl⟩ := hrel
          by_cases hlt : k < l.length
          · obtain ⟨b, ob, rfl, _, _, hc⟩ := HL1.out.at_ hlt
            have hgz := Bs.giZ_at hlt
            have hsu := Bs.idleB_succ r l k
            have hno := fun h => Bs.idleB_no (r := r) (l := l) hlt h
            have hlk : (l.take k).length = k := by rw [List.length_take]; omega
            have q4 := fun j => isIn_q A2 c2 r r.length l[k] l2 h2 W1 HR1.out hr rfl n j
            have q5 := fun j => isIn_q (some ⟨b, ob, none⟩) c3 (l.take k) k l[k] l3 h3 W1 (HL1.out.takeS k) (by omega) hlk n j
            rw [hgz] at hsu hno
            have HID := Lib.hid hid
            have i0 : (0 : Int) ≤ (k : Int) := by omega
            have i1 : (k : Int) < (l.length : Int) := by omega
            have i2 : (k : Int) ≤ (c3 : Int) := by omega
            clear hid hgz hlk
            cases hq1 : r.contains l[k]
            · cases hq2 : (l.take k).contains l[k]
              · rw [hq1] at q4
                rw [hq2] at q5
                rw [hq1, hq2, HID.out] at hsu
                have HS := Lib.hid hsu
                have C4 := fun j => Lib.hid (q4 j)
                have C5 := fun j => Lib.hid (q5 j)
                clear q4 q5 hq1 hq2 hsu hno
                go_wp2
                go_quiet ((first | (go_at_call 61; with_reducible exact (C4 _).out) | (go_at_call 61; with_reducible exact (C5 _).out)))
                go_wp2
                go_roundw
                case rel => exact ⟨k + 1, _, by omega, by go_num, HS.out, by first | rfl | rw [World.drewN_drewN]⟩
                case measure => simp [intOf]; omega
              · rw [hq1] at q4
                rw [hq2] at q5
                rw [hq1, hq2] at hno
                have HN := Lib.hid (HNO.out (hno rfl))
                have C4 := fun j => Lib.hid (q4 j)
                have C5 := fun j => Lib.hid (q5 j)
                clear q4 q5 hq1 hq2 hsu hno
                go_wp2
                go_quiet ((first | (go_at_call 61; with_reducible exact (C4 _).out) | (go_at_call 61; with_reducible exact (C5 _).out)))
                go_wp2
                go_ret
                exact RetI.nil (by first | exact HB.out.drewN _ | exact (HB.out.drewN _).drewN _) HN.out
            · rw [hq1] at q4
              rw [hq1] at hno
              have HN := Lib.hid (HNO.out (hno rfl))
              have C4 := fun j => Lib.hid (q4 j)
              clear q4 q5 hq1 hsu hno
              go_wp2
              go_quiet ((go_at_call 61; with_reducible exact (C4 _).out))
              go_wp2
              go_ret
              exact RetI.nil (by first | exact HB.out.drewN _ | exact (HB.out.drewN _).drewN _) HN.out
          · obtain rfl : k = l.length := by omega
            have HY := Lib.hid (HYES.out hid)
            have C7 := Lib.hid (C6.out (W1.drewN n) (HB.out.drewN n) hid)
            clear hid
            go_wp2_with fail
            with_reducible refine (C7.out).mono ?_
            rintro e w5 hr5
            have HR5 := Lib.hid hr5
            obtain ⟨⟨A5, c5, rfl, ho5⟩, hb5⟩ := hr5
            have HO5 := Lib.hid (ho5.base HB.out.size)
            have HB5 := Lib.hid ((HB.out.drewN n).trans (hb5.mono HB.out.size))
            clear ho5 hb5
            go_wp2
            go_ret
            rw [HY.out]
            exact ⟨⟨A5, c5, rfl, HO5.out⟩, HB5.out⟩
end Go.Proofs.Ytcddjgiclnnilab
