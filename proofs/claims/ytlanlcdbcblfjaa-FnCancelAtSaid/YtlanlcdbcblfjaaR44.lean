/-
  WALKS: cancelled tasks, of the model.
-/
import Derived.Test.YtlanlcdbcblfjaaK15
import Derived.Test.YtlanlcdbcblfjaaMath61
namespace Go.Proofs.Ytlanlcdbcblfjaa
open Go.RowKit
theorem canK_succ (g : List Bs.T) (S : List Int) (now : Int) (k : Nat) : (List.range (k + 1)).map (Bs.canI g S now) = (List.range k).map (Bs.canI g S now) ++ [Bs.canI g S now k] := by
  rw [List.range_succ, List.map_append]
  rfl
set_option maxHeartbeats 1600000 in
theorem CancelAtS_any (A : Option Addr) (c : Nat) (g : List Bs.T) (A1 : Option Addr) (c1 : Nat) (m : List Int) (A2 : Option Addr) (c2 : Nat) (S : List Int) (wk now : Int) (lo hi l1 h1 l2 h2 : Nat) (w : World) (h : RG w lo hi A g) (hh : hi ≤ w.heap.size) (hm : RI w l1 h1 A1 m) (hh1 : h1 ≤ w.heap.size) (hs : RI w l2 h2 A2 S) (hh2 : h2 ≤ w.heap.size) (hl : g.length ≤ 9223372036854775807) (hml : m.length ≤ 9223372036854775807) (hsl : S.length ≤ 9223372036854775807) :
    Calls Try.prog 30 #[.slice A g.length c, .slice A1 m.length c1, .int .i64 wk, .slice A2 S.length c2, .int .i64 now] w (RetI w (Bs.canL g m wk S now)) := by
  have hal : Below w.heap.size w (w.alloc (.cells #[] 3)) := (Below.refl w.heap.size w).alloc (Nat.le_refl _) (.cells #[] 3)
  have q1 := validStartsS_any A c g A1 c1 m A2 c2 S wk lo hi l1 h1 l2 h2 _ (h.below hal hh) (Nat.le_trans hh hal.size) (hm.below hal hh1) (Nat.le_trans hh1 hal.size) (hs.below hal hh2) (Nat.le_trans hh2 hal.size) hl hml hsl
  have q2 := fun W => inRange_any now 0 200 W
  have HO0 := Lib.hid (OI.new w w.heap.size (Nat.le_refl _))
  have HL0 := Lib.hid hal
  have HCO := Lib.hid (fun (b b2 : Bool) (he : Bs.stV g m wk S = b) (he2 : decide (0 ≤ now ∧ now ≤ 200) = b2) => show Bs.canOk g m wk S now = (b && b2) from by rw [← he, ← he2]; rfl)
  cases hv : Bs.stV g m wk S
  · rw [hv] at q1
    have C1 := Lib.hid q1
    have HV := Lib.hid (Bs.canL_no (by rw [HCO.out false _ hv rfl]; rfl))
    clear q1 q2 hv h hm hs HCO hal
    go_enter Try.func30, Try.ntmps30
    go_wp2_with fail
    with_reducible refine (C1.out).mono ?_
    rintro e w1 ⟨rfl, hb⟩
    have HB := Lib.hid (HL0.out.trans (hb.mono HL0.out.size))
    clear hb
    go_wp2
    go_ret
    exact RetI.nil HB.out HV.out
  rw [hv] at q1
  have C1 := Lib.hid q1
  cases hn : decide (0 ≤ now ∧ now ≤ 200)
  · rw [hn] at q2
    have C2 := Lib.hid q2
    have HV := Lib.hid (Bs.canL_no (by rw [HCO.out true false hv hn]; rfl))
    clear q1 q2 hv hn h hm hs HCO hal
    go_enter Try.func30, Try.ntmps30
    go_wp2_with fail
    with_reducible refine (C1.out).mono ?_
    rintro e w1 ⟨rfl, hb⟩
    have HB := Lib.hid (HL0.out.trans (hb.mono HL0.out.size))
    clear hb
    go_wp2_with fail
    with_reducible refine (C2.out _).mono ?_
    rintro e w2 ⟨rfl, rfl⟩
    go_wp2
    go_ret
    exact RetI.nil HB.out HV.out
  rw [hn] at q2
  have C2 := Lib.hid q2
  have HV := Lib.hid (show Bs.canL g m wk S now = (List.range g.length).map (Bs.canI g S now) from Bs.canL_yes (by rw [HCO.out true true hv hn]; rfl))
  obtain ⟨hcan, hk, _⟩ := Bs.stV_iff.1 hv
  have hF := valid_fine (Bs.canV_iff.1 hcan).1
  have hgl := Bs.fine_len hF
  have hlen := Bs.clk_len hk
  have HT := Lib.hid (fun i (hi : i < g.length) => Bs.fine_time' hF hi)
  have HSB := Lib.hid (fun i => Bs.clk_at hk i)
  have HCI := Lib.hid (fun k (hk : k < g.length) => show Bs.canI g S now k = if Bs.giZ S k + g[k].time ≤ now then 0 else if Bs.giZ S k < now then 1 else 3 from by rw [← time_at hk]; rfl)
  have HKS := Lib.hid (canK_succ g S now)
  have HG := Lib.hid h
  have HI := Lib.hid hs
  have HSL := Lib.hid hlen
  clear q1 q2 hv hn h hm hs HCO hal hcan hk hF hlen
  go_enter Try.func30, Try.ntmps30
  go_wp2_with fail
  with_reducible refine (C1.out).mono ?_
  rintro e w1 ⟨rfl, hb⟩
  have HO1 := Lib.hid (HO0.out.below hb (Nat.le_refl _))
  have HB := Lib.hid (HL0.out.trans (hb.mono HL0.out.size))
  clear hb C1 HO0 HL0
  go_wp2_with fail
  with_reducible refine (C2.out _).mono ?_
  rintro e w2 ⟨rfl, rfl⟩
  clear C2
  go_wp2
  go_loopw [11, 12] (fun vo i wr => ∃ (k : Nat) (A' : Option Addr) (c' : Nat) (o : List Int), k ≤ g.length ∧ vo = .slice A' o.length c' ∧ i = .int .i64 k ∧ o = (List.range k).map (Bs.canI g S now) ∧ OI wr w.heap.size A' c' o ∧ Below w.heap.size w wr) (fun _ i _ => g.length - (intOf i).toNat)
  case atStart => exact ⟨0, _, _, [], Nat.zero_le _, rfl, rfl, rfl, HO1.out, HB.out⟩
  case round =>
    obtain ⟨k, A', c', o, hk, rfl, rfl, ho, hO, hb⟩ := hrel
    clear HO1 HB
    by_cases hlt : k < g.length
    · have hks : k < S.length := by have := HSL.out; omega
      obtain ⟨b, o1, rfl, _, hbh, hc⟩ := (HI.out.below hb hh2).at_ hks
      obtain ⟨bg, og, N, cN, rfl, _, hgh, k0, _, _, _, hnc, hcN, hN⟩ := (HG.out.below hb hh) k hlt
      rw [← Bs.giZ_at hks] at hc
      have hsb := HSB.out k
      have htb := HT.out k hlt
      have hci := HCI.out k hlt
      have hst := HKS.out k
      rw [← ho] at hst
      have hol : o.length = k := by rw [ho]; simp
      have HOL := Lib.hid hol
      have HO := Lib.hid hO
      have HBb := Lib.hid hb
      have HP := Lib.hid hst
      have sr := hb.size
      have i0 : (0 : Int) ≤ (k : Int) := by omega
      have i1 : (k : Int) < (S.length : Int) := by omega
      have i2 : (k : Int) < (g.length : Int) := by omega
      clear ho hO hb hol hN hst HCI HKS
      generalize g[k].time = tk at *
      generalize Bs.giZ S k = sk at *
      have hw : IntKind.i64.wrap (sk + tk) = sk + tk := IntWalk.i64_in _ ⟨by omega, by omega⟩
      by_cases g1 : sk + tk ≤ now
      · have HX := Lib.hid (show (List.range (k + 1)).map (Bs.canI g S now) = o ++ [0] from by rw [HP.out, hci, if_pos g1])
        clear hci HP
        go_wp2
        go_quiet (fail)
        have HO1 := Lib.hid (HO.out.drewN nq)
        have HBb1 := Lib.hid (HBb.out.drewN nq)
        clear hc k0
        generalize wr.drewN nq = W1 at *
        have HO2 := Lib.hid (HO1.out.alloc (.cells #[.int .i64 0] 3))
        have s1 := HBb1.out.size
        have HBb2 := Lib.hid (HBb1.out.alloc s1 (.cells #[.int .i64 0] 3))
        go_wp2_with (first
          | (at_builtin; refine push_int rfl _ _ rfl w.heap.size A' c' o 0 rfl HO2.out W1.heap.size 1 rfl (by simp [go_sem]) (by have := HOL.out; omega) (by simp; omega) ?_; intro A6 c6 w6 ho6 hb6 _; have HO6 := Lib.hid ho6; have HBb6 := Lib.hid (HBb2.out.trans (hb6.mono (Nat.le_refl _))); clear ho6 hb6))
        go_roundw
        case rel => exact ⟨k + 1, A6, c6, o ++ [0], by omega, by rw [List.length_append]; rfl, by go_num, HX.out.symm, HO6.out, HBb6.out⟩
        case measure => simp [intOf]; omega
      · by_cases g2 : sk < now
        · have HX := Lib.hid (show (List.range (k + 1)).map (Bs.canI g S now) = o ++ [1] from by rw [HP.out, hci, if_neg g1, if_pos g2])
          clear hci HP
          go_wp2
          go_quiet (fail)
          have HO1 := Lib.hid (HO.out.drewN nq)
          have HBb1 := Lib.hid (HBb.out.drewN nq)
          have hc1 : (wr.drewN nq).cell? ⟨b, o1 + k, none⟩ = some (.int .i64 sk) := hc
          clear hc k0
          generalize wr.drewN nq = W1 at *
          have HO2 := Lib.hid (HO1.out.alloc (.cells #[.int .i64 1] 3))
          have s1 := HBb1.out.size
          have HBb2 := Lib.hid (HBb1.out.alloc s1 (.cells #[.int .i64 1] 3))
          go_wp2_with (first
            | (at_builtin; refine push_int rfl _ _ rfl w.heap.size A' c' o 1 rfl HO2.out W1.heap.size 1 rfl (by simp [go_sem]) (by have := HOL.out; omega) (by simp; omega) ?_; intro A6 c6 w6 ho6 hb6 _; have HO6 := Lib.hid ho6; have HBb6 := Lib.hid (HBb2.out.trans (hb6.mono (Nat.le_refl _))); clear ho6 hb6))
          go_roundw
          case rel => exact ⟨k + 1, A6, c6, o ++ [1], by omega, by rw [List.length_append]; rfl, by go_num, HX.out.symm, HO6.out, HBb6.out⟩
          case measure => simp [intOf]; omega
        · have HX := Lib.hid (show (List.range (k + 1)).map (Bs.canI g S now) = o ++ [3] from by rw [HP.out, hci, if_neg g1, if_neg g2])
          clear hci HP
          go_wp2
          go_quiet (fail)
          have HO1 := Lib.hid (HO.out.drewN nq)
          have HBb1 := Lib.hid (HBb.out.drewN nq)
          have hc1 : (wr.drewN nq).cell? ⟨b, o1 + k, none⟩ = some (.int .i64 sk) := hc
          clear hc k0
          generalize wr.drewN nq = W1 at *
          have HO2 := Lib.hid (HO1.out.alloc (.cells #[.int .i64 3] 3))
          have s1 := HBb1.out.size
          have HBb2 := Lib.hid (HBb1.out.alloc s1 (.cells #[.int .i64 3] 3))
          go_wp2_with (first
            | (at_builtin; refine push_int rfl _ _ rfl w.heap.size A' c' o 3 rfl HO2.out W1.heap.size 1 rfl (by simp [go_sem]) (by have := HOL.out; omega) (by simp; omega) ?_; intro A6 c6 w6 ho6 hb6 _; have HO6 := Lib.hid ho6; have HBb6 := Lib.hid (HBb2.out.trans (hb6.mono (Nat.le_refl _))); clear ho6 hb6))
          go_roundw
          case rel => exact ⟨k + 1, A6, c6, o ++ [3], by omega, by rw [List.length_append]; rfl, by go_num, HX.out.symm, HO6.out, HBb6.out⟩
          case measure => simp [intOf]; omega
    · obtain rfl : k = g.length := by omega
      have HO := Lib.hid hO
      have HBb := Lib.hid hb
      have HQ := Lib.hid ho
      clear hO hb ho
      go_wp2
      go_ret
      rw [HV.out, ← HQ.out]
      exact ⟨⟨A', c', rfl, HO.out⟩, HBb.out⟩
end Go.Proofs.Ytlanlcdbcblfjaa
