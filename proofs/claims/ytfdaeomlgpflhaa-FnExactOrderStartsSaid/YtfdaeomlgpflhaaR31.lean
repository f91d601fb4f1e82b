/-
  WALKS: graphs that can be searched, orders of all tasks, of the model.
-/
import Derived.Test.YtfdaeomlgpflhaaK15
import Derived.Test.YtfdaeomlgpflhaaMath50
namespace Go.Proofs.Ytfdaeomlgpflhaa
open Go.RowKit
theorem seaV_at (g : List Bs.T) (m : List Int) (wk : Int) : Bs.seaV g m wk = (Bs.valid g && decide (g.length ≤ 5) && Bs.roomOk m && decide (1 ≤ wk ∧ wk ≤ 4)) := by
  unfold Bs.seaV Bs.canV
  cases Bs.valid g <;> cases Bs.roomOk m <;> cases decide (1 ≤ wk ∧ wk ≤ 4) <;> cases decide (g.length ≤ 5) <;> rfl
set_option maxHeartbeats 800000 in
theorem validSearchS_any (A : Option Addr) (c : Nat) (g : List Bs.T) (A1 : Option Addr) (c1 : Nat) (m : List Int) (wk : Int) (lo hi l1 h1 : Nat) (w : World) (h : RG w lo hi A g) (hh : hi ≤ w.heap.size) (hm : RI w l1 h1 A1 m) (hh1 : h1 ≤ w.heap.size) (hl : g.length ≤ 9223372036854775807) (hml : m.length ≤ 9223372036854775807) :
    Calls Try.prog 65 #[.slice A g.length c, .slice A1 m.length c1, .int .i64 wk] w fun e w' => e = .returned (.bool (Bs.seaV g m wk)) ∧ Below w.heap.size w w' := by
  have q1 := validGraphS_any A c g lo hi w h hh hl
  have q2 := fun W (hb : Below w.heap.size w W) => validRoom_any A1 c1 m l1 h1 W (hm.below hb hh1) hml
  have q3 := fun W => inRange_any wk 1 4 W
  have HE := Lib.hid (seaV_at g m wk)
  clear h hm
  generalize Bs.valid g = v1 at *
  generalize Bs.roomOk m = v2 at *
  generalize decide (1 ≤ wk ∧ wk ≤ 4) = v3 at *
  have C1 := Lib.hid q1
  have C2 := Lib.hid q2
  have C3 := Lib.hid q3
  clear q1 q2 q3
  cases v1
  · go_enter Try.func65, Try.ntmps65
    go_wp2_with fail
    with_reducible refine (C1.out).mono ?_
    rintro e w1 ⟨rfl, hb⟩
    have HB := Lib.hid hb
    clear hb
    go_wp2
    go_ret
    exact ⟨ret_bool (by rw [HE.out]; rfl), HB.out⟩
  by_cases h5 : g.length ≤ 5
  rotate_left
  · have d1 : decide ((g.length : Int) ≤ 5) = false := by simp; omega
    have d2 : decide (g.length ≤ 5) = false := by simp [h5]
    go_enter Try.func65, Try.ntmps65
    go_wp2_with fail
    with_reducible refine (C1.out).mono ?_
    rintro e w1 ⟨rfl, hb⟩
    have HB := Lib.hid hb
    clear hb
    go_wp2
    go_ret
    exact ⟨ret_bool (by rw [HE.out, d2]; rfl), HB.out⟩
  have d1 : decide ((g.length : Int) ≤ 5) = true := by simp; omega
  have d2 : decide (g.length ≤ 5) = true := by simp [h5]
  cases v2
  · go_enter Try.func65, Try.ntmps65
    go_wp2_with fail
    with_reducible refine (C1.out).mono ?_
    rintro e w1 ⟨rfl, hb⟩
    have HB := Lib.hid hb
    clear hb
    go_wp2_with fail
    with_reducible refine (C2.out _ HB.out).mono ?_
    rintro e w2 ⟨rfl, rfl⟩
    go_wp2
    go_ret
    exact ⟨ret_bool (by rw [HE.out, d2]; rfl), HB.out⟩
  · go_enter Try.func65, Try.ntmps65
    go_wp2_with fail
    with_reducible refine (C1.out).mono ?_
    rintro e w1 ⟨rfl, hb⟩
    have HB := Lib.hid hb
    clear hb
    go_wp2_with fail
    with_reducible refine (C2.out _ HB.out).mono ?_
    rintro e w2 ⟨rfl, rfl⟩
    go_wp2_with fail
    with_reducible refine (C3.out _).mono ?_
    rintro e w2 ⟨rfl, rfl⟩
    go_wp2
    go_ret
    exact ⟨ret_bool (by rw [HE.out, d2]; rfl), HB.out⟩
theorem inRange_q (n lo hi : Int) (w : World) (i j : Nat) :
    Calls Try.prog 49 #[.int .i64 n, .int .i64 lo, .int .i64 hi] (w.drewN (i + j)) fun e w' => e = .returned (.bool (decide (lo ≤ n ∧ n ≤ hi))) ∧ ∃ m, w' = w.drewN (i + m) :=
  (inRange_any n lo hi (w.drewN (i + j))).mono fun _ _ ⟨h1, h2⟩ => ⟨h1, j, h2.symm⟩
theorem allDone_q (A : Option Addr) (c : Nat) (l : List Int) (A' : Option Addr) (c' : Nat) (d : List Int) (k : Nat) (lo hi lo' hi' : Nat) (w : World) (h : RI w lo hi A l) (h' : RI w lo' hi' A' d) (hl : l.length ≤ 9223372036854775807) (hd : d.length ≤ 9223372036854775807) (hk : d.length = k) (i j : Nat) :
    Calls Try.prog 99 #[.slice A l.length c, .slice A' k c'] (w.drewN (i + j)) fun e w' => e = .returned (.bool (l.all fun x => d.contains x)) ∧ ∃ m, w' = w.drewN (i + m) := by
  subst hk
  exact (allDone_any A c l A' c' d lo hi lo' hi' (w.drewN (i + j)) h h' hl hd).mono fun _ _ ⟨h1, h2⟩ => ⟨h1, j, h2.symm⟩
set_option maxRecDepth 20000 in
set_option maxHeartbeats 3200000 in
theorem isOrderS_any (A : Option Addr) (c : Nat) (g : List Bs.T) (A1 : Option Addr) (c1 : Nat) (l : List Int) (lo hi l1 h1 : Nat) (w : World) (h : RG w lo hi A g) (hm : RI w l1 h1 A1 l) (hlc : l.length ≤ c1) (hF : Bs.fine g = true) :
    Calls Try.prog 66 #[.slice A g.length c, .slice A1 l.length c1] w fun e w' => e = .returned (.bool (Bs.isOrd g l)) ∧ ∃ n, w' = w.drewN n := by
  have hgl := Bs.fine_len hF
  by_cases hlen : l.length = g.length
  · have hq : ((l.length : Int) != (g.length : Int)) = false := by simp [hlen]
    have hl8 : l.length ≤ 8 := by omega
    have HG := Lib.hid h
    have HM := Lib.hid hm
    have HNO := Lib.hid (fun k (hk : k < l.length) (ht : Bs.tOk g l k = false) => Bs.isOrd_no (g := g) hk ht)
    have HYES := Lib.hid (fun ht => Bs.isOrd_yes (g := g) (l := l) hlen ht)
    have hw : IntKind.i64.wrap ((g.length : Int) - 1) = (g.length : Int) - 1 := IntWalk.i64_in _ ⟨by omega, by omega⟩
    have HNL := Lib.hid (fun v (hv : v < g.length) => Bs.fine_needs_len hF hv)
    clear h hm hF hlen
    go_enter Try.func66, Try.ntmps66
    go_wp2
    go_loopw [5] (fun i wr => ∃ (k n : Nat), k ≤ l.length ∧ i = .int .i64 k ∧ (∀ j, j < k → Bs.tOk g l j = true) ∧ wr = w.drewN n) (fun i _ => l.length - (intOf i).toNat)
    case atStart => exact ⟨0, 0, Nat.zero_le _, rfl, fun j hj => by omega, rfl⟩
    case round =>
      obtain ⟨k, n, hk, rfl, hT, rfl⟩ := hrel
      by_cases hlt : k < l.length
      · obtain ⟨b, o, rfl, _, _, hc⟩ := HM.out.at_ hlt
        have htk : Bs.tOk g l k = (decide (0 ≤ l[k] ∧ l[k] ≤ (g.length : Int) - 1) && Bs.okNext g (l.take k) l[k].toNat) := by unfold Bs.tOk; rw [Bs.giZ_at hlt]
        have hlk : (l.take k).length = k := by rw [List.length_take]; omega
        have q1 := fun j => inRange_q l[k] 0 ((g.length : Int) - 1) w n j
        have q2 := fun j => isIn_q (some ⟨b, o, none⟩) c1 (l.take k) k l[k] l1 h1 w (HM.out.takeS k) (by omega) hlk n j
        have HT2 := Lib.hid (fun (he : Bs.tOk g l k = true) => show ∀ j, j < k + 1 → Bs.tOk g l j = true from fun j hj => by
          by_cases e : j = k
          · subst e; exact he
          · exact hT j (by omega))
        have HN := Lib.hid (HNO.out k hlt)
        have HMT := Lib.hid (HM.out.takeS k)
        have HLK := Lib.hid hlk
        obtain ⟨x, hx⟩ : ∃ x, x = l[k] := ⟨_, rfl⟩
        rw [← hx] at hc htk q1 q2
        clear hx hT hlk
        have i0 : (0 : Int) ≤ (k : Int) := by omega
        have i1 : (k : Int) < (l.length : Int) := by omega
        have i2 : (k : Int) ≤ (c1 : Int) := by omega
        by_cases hr : 0 ≤ x ∧ x < (g.length : Int)
        · have d2 : decide (0 ≤ x ∧ x ≤ (g.length : Int) - 1) = true := by simp; omega
          rw [d2] at q1
          rw [d2, Bool.true_and] at htk
          obtain ⟨v, rfl⟩ : ∃ v : Nat, x = (v : Int) := ⟨x.toNat, by omega⟩
          rw [Int.toNat_natCast] at htk
          have hv : v < g.length := by omega
          rw [Bs.okNext_eq hv] at htk
          obtain ⟨bg, og, N, cN, rfl, _, hgh, k0, k1, k2, k3, hlN, hcN, hN⟩ := HG.out v hv
          have hnl := HNL.out v hv
          have q3 := fun j => allDone_q N cN g[v].needs (some ⟨b, o, none⟩) c1 (l.take k) k lo hi l1 h1 w hN HMT.out (by omega) (by have := HLK.out; omega) HLK.out n j
          have v0 : (0 : Int) ≤ (v : Int) := by omega
          have v1 : (v : Int) < (g.length : Int) := by omega
          clear d2 hN k0 k2 k3
          generalize (l.take k).contains (v : Int) = b1 at *
          generalize (g[v].needs.all fun x => (l.take k).contains x) = b2 at *
          have HTK := Lib.hid htk
          have C1 := fun j => Lib.hid (q1 j)
          clear htk q1
          cases b1
          · cases b2
            · have C2 := fun j => Lib.hid (q2 j)
              have C3 := fun j => Lib.hid (q3 j)
              clear q2 q3
              go_wp2
              go_quiet ((first | (go_at_call 49; with_reducible exact (C1 _).out) | (go_at_call 98; with_reducible exact (C2 _).out) | (go_at_call 99; with_reducible exact (C3 _).out)))
              go_wp2
              go_ret
              exact ⟨ret_bool (HN.out (HTK.out.trans rfl)).symm, _, by first | rfl | rw [World.drewN_drewN]⟩
            · have C2 := fun j => Lib.hid (q2 j)
              have C3 := fun j => Lib.hid (q3 j)
              clear q2 q3
              go_wp2
              go_quiet ((first | (go_at_call 49; with_reducible exact (C1 _).out) | (go_at_call 98; with_reducible exact (C2 _).out) | (go_at_call 99; with_reducible exact (C3 _).out)))
              go_wp2
              go_roundw
              case rel => exact ⟨k + 1, _, by omega, by go_num, HT2.out (HTK.out.trans rfl), by first | rfl | rw [World.drewN_drewN]⟩
              case measure => simp [intOf]; omega
          · have C2 := fun j => Lib.hid (q2 j)
            clear q2 q3
            go_wp2
            go_quiet ((first | (go_at_call 49; with_reducible exact (C1 _).out) | (go_at_call 98; with_reducible exact (C2 _).out)))
            go_wp2
            go_ret
            exact ⟨ret_bool (HN.out (HTK.out.trans rfl)).symm, _, by first | rfl | rw [World.drewN_drewN]⟩
        · have d2 : decide (0 ≤ x ∧ x ≤ (g.length : Int) - 1) = false := by simp only [decide_eq_false_iff_not]; omega
          rw [d2] at q1
          rw [d2, Bool.false_and] at htk
          have HTK := Lib.hid htk
          have C1 := fun j => Lib.hid (q1 j)
          clear htk q1 q2 d2 hr
          go_wp2
          go_quiet ((go_at_call 49; with_reducible exact (C1 _).out))
          go_wp2
          go_ret
          exact ⟨ret_bool (HN.out HTK.out).symm, _, by first | rfl | rw [World.drewN_drewN]⟩
      · obtain rfl : k = l.length := by omega
        have HT := Lib.hid hT
        clear hT
        go_wp2
        go_ret
        exact ⟨ret_bool (HYES.out HT.out).symm, _, rfl⟩
  · have hq : ((l.length : Int) != (g.length : Int)) = true := by simp; omega
    have HE := Lib.hid (Bs.isOrd_len (g := g) hlen)
    clear h hm hF hlen
    go_enter Try.func66, Try.ntmps66
    go_wp2
    go_ret
    exact ⟨ret_bool HE.out.symm, 0, rfl⟩
end Go.Proofs.Ytfdaeomlgpflhaa
