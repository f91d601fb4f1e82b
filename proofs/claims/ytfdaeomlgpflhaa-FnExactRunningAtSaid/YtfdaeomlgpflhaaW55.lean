/-
  WALKS: ends, what runs, of the program.
-/
import Derived.Test.YtfdaeomlgpflhaaW54
namespace Go.Proofs.Ytfdaeomlgpflhaa
open Go.RowKit
set_option maxHeartbeats 800000 in
theorem EndTime_any (A : Option Addr) (c : Nat) (g : List Bs.T) (A1 : Option Addr) (c1 : Nat) (m : List Int) (A2 : Option Addr) (c2 : Nat) (S : List Int) (wk : Int) (lo hi l1 h1 l2 h2 : Nat) (w : World) (h : RG w lo hi A g) (hh : hi ≤ w.heap.size) (hm : RI w l1 h1 A1 m) (hh1 : h1 ≤ w.heap.size) (hs : RI w l2 h2 A2 S) (hh2 : h2 ≤ w.heap.size) (hl : g.length ≤ 9223372036854775807) (hml : m.length ≤ 9223372036854775807) (hsl : S.length ≤ 9223372036854775807) :
    Calls Try.prog 25 #[.slice A g.length c, .slice A1 m.length c1, .int .i64 wk, .slice A2 S.length c2] w fun e w' => e = .returned (.int .i64 (Bs.endT g m wk S)) ∧ Below w.heap.size w w' := by
  have q1 := ValidStarts_any A c g A1 c1 m A2 c2 S wk lo hi l1 h1 l2 h2 w h hh hm hh1 hs hh2 hl hml hsl
  cases hv : Bs.stV g m wk S
  · rw [hv] at q1
    have C1 := Lib.hid q1
    have HV := Lib.hid (Bs.endT_no hv)
    clear q1 hv h hm hs
    go_enter Try.func25, Try.ntmps25
    go_wp2_with fail
    with_reducible refine (C1.out).mono ?_
    rintro e w1 ⟨rfl, hb⟩
    have HB := Lib.hid hb
    clear hb
    go_wp2
    go_ret
    exact ⟨ret_int HV.out.symm, HB.out⟩
  rw [hv] at q1
  have C1 := Lib.hid q1
  have HV := Lib.hid (show Bs.endT g m wk S = Bs.endK g S g.length from Bs.endT_yes hv)
  obtain ⟨hcan, hk, _⟩ := Bs.stV_iff.1 hv
  have hF := valid_fine (Bs.canV_iff.1 hcan).1
  have h8 := Bs.fine_len hF
  have hlen := Bs.clk_len hk
  have hfb := giZ_b hk
  have q3 := fun W (hb : Below w.heap.size w W) => beginningsOf_any A2 c2 S l2 h2 W (hs.below hb hh2) (Nat.le_trans hh2 hb.size) (by omega)
  rw [show Bs.full S.length = Bs.full g.length from by rw [hlen]] at q3
  have C3 := Lib.hid q3
  have C4 := Lib.hid (fun (v : Nat) (hv : v < g.length) W (hb : Below w.heap.size w W) => over_any (Bs.giZ S) (Bs.full g.length) A c g v lo hi W (h.below hb hh) (Nat.le_trans hh hb.size) hF hv hfb)
  have HT := Lib.hid (fun i => Bs.time_b hF i)
  have HFB := Lib.hid hfb
  clear q1 q3 hF hfb h hm hs hv hk hl hml hsl hcan
  have HLEN := Lib.hid hlen
  clear hlen
  go_enter Try.func25, Try.ntmps25
  go_wp2_with fail
  with_reducible refine (C1.out).mono ?_
  rintro e w1 ⟨rfl, hb⟩
  have HB := Lib.hid hb
  clear hb
  go_wp2_with fail
  with_reducible refine (C3.out _ HB.out).mono ?_
  rintro e w3 ⟨rfl, hb3⟩
  have HB3 := Lib.hid (HB.out.trans (hb3.mono HB.out.size))
  have hz3 := BG.new w3 z8 0
  have ha3 := HB3.out.alloc HB3.out.size (.cells (bgA z8 0) 54)
  rw [z8A] at hz3 ha3
  have HZ3 := Lib.hid hz3
  have HAZ3 := Lib.hid ha3
  have s3 := HB3.out.size
  clear hb3 C1 C3 hz3 ha3
  go_wp2_with (first | (refine bg_store rfl _ _ rfl w3.heap.size z8 (Bs.giZ S) 0 (Bs.full g.length) rfl rfl HZ3.out ?_; intro w4 h4 o4))
  have HN3 := Lib.hid h4
  have HA3 := Lib.hid (HAZ3.out.trans (o4.below s3))
  clear h4 o4
  go_loopw [10, 22] (fun s i wr => ∃ (k : Nat) (t : Int), k ≤ g.length ∧ s = .int .i64 t ∧ i = .int .i64 k ∧ t = Bs.endK g S k ∧ BG wr w3.heap.size (Bs.giZ S) (Bs.full g.length) ∧ Below w.heap.size w wr) (fun _ i _ => g.length - (intOf i).toNat)
  case atStart => exact ⟨0, 0, Nat.zero_le _, rfl, rfl, rfl, HN3.out, HA3.out⟩
  case round =>
    obtain ⟨k, t, hk, rfl, rfl, ht, hB, hb⟩ := hrel
    clear HN3 HA3
    by_cases hlt : k < g.length
    · have C6 := Lib.hid (C4.out k hlt wr hb)
      have hsu := Bs.endK_succ g S k
      rw [← ht] at hsu
      have HS := Lib.hid (show Bs.endK g S (k + 1) = max t (Bs.giZ S k + Bs.timeOf g k) from hsu)
      have HB0 := Lib.hid hB
      have HBb := Lib.hid hb
      clear hsu hB hb ht C4
      generalize Bs.giZ S k + Bs.timeOf g k = y at *
      go_wp2_with (first | (refine bg_load rfl _ rfl w3.heap.size (Bs.giZ S) (Bs.full g.length) rfl HB0.out ?_))
      with_reducible refine (C6.out).mono ?_
      rintro e w5 ⟨rfl, hb5⟩
      have HB5 := Lib.hid (HB0.out.below hb5 HB0.out.lt)
      have HBb5 := Lib.hid (HBb.out.trans (hb5.mono HBb.out.size))
      clear hb5 C6
      go_wp2_with fail
      with_reducible refine (laterOf_any t y _).mono ?_
      rintro e w6 ⟨rfl, rfl⟩
      go_wp2
      go_roundw
      case rel => exact ⟨k + 1, max t y, by omega, rfl, by go_num, HS.out.symm, HB5.out, HBb5.out⟩
      case measure => simp [intOf]; omega
    · obtain rfl : k = g.length := by omega
      have HQ := Lib.hid (show t = Bs.endT g m wk S from by rw [HV.out, ht])
      have HBb := Lib.hid hb
      clear hB hb ht
      go_wp2
      go_ret
      exact ⟨ret_int HQ.out, HBb.out⟩
set_option maxHeartbeats 800000 in
theorem RunningAt_any (A : Option Addr) (c : Nat) (g : List Bs.T) (A1 : Option Addr) (c1 : Nat) (m : List Int) (A2 : Option Addr) (c2 : Nat) (S : List Int) (wk now : Int) (lo hi l1 h1 l2 h2 : Nat) (w : World) (h : RG w lo hi A g) (hh : hi ≤ w.heap.size) (hm : RI w l1 h1 A1 m) (hh1 : h1 ≤ w.heap.size) (hs : RI w l2 h2 A2 S) (hh2 : h2 ≤ w.heap.size) (hl : g.length ≤ 9223372036854775807) (hml : m.length ≤ 9223372036854775807) (hsl : S.length ≤ 9223372036854775807) :
    Calls Try.prog 27 #[.slice A g.length c, .slice A1 m.length c1, .int .i64 wk, .slice A2 S.length c2, .int .i64 now] w (RetI w (Bs.runL g m wk S now)) := by
  have q1 := ValidStarts_any A c g A1 c1 m A2 c2 S wk lo hi l1 h1 l2 h2 w h hh hm hh1 hs hh2 hl hml hsl
  cases hv : Bs.stV g m wk S
  · rw [hv] at q1
    have C1 := Lib.hid q1
    have HV := Lib.hid (Bs.runL_no (now := now) hv)
    clear q1 hv h hm hs
    go_enter Try.func27, Try.ntmps27
    go_wp2_with fail
    with_reducible refine (C1.out).mono ?_
    rintro e w1 ⟨rfl, hb⟩
    have HB := Lib.hid hb
    clear hb
    go_wp2
    go_ret
    exact RetI.nil HB.out HV.out
  rw [hv] at q1
  have C1 := Lib.hid q1
  have HV := Lib.hid (Bs.runL_yes (now := now) hv)
  obtain ⟨hcan, hk, _⟩ := Bs.stV_iff.1 hv
  have hF := valid_fine (Bs.canV_iff.1 hcan).1
  have h8 := Bs.fine_len hF
  have hlen := Bs.clk_len hk
  have hfb := giZ_b hk
  have q3 := fun W (hb : Below w.heap.size w W) => beginningsOf_any A2 c2 S l2 h2 W (hs.below hb hh2) (Nat.le_trans hh2 hb.size) (by omega)
  rw [show Bs.full S.length = Bs.full g.length from by rw [hlen]] at q3
  have C3 := Lib.hid q3
  have q4 := fun W (hb : Below w.heap.size w W) => bgRunning_any (Bs.giZ S) (Bs.full g.length) A c g now lo hi W (h.below hb hh) (Nat.le_trans hh hb.size) hF (Bs.full_lt h8) hfb
  rw [Bs.runB_full] at q4
  have C4 := Lib.hid q4
  clear q1 q3 q4 hF hfb h hm hs hv hk hl hml hsl hcan hlen
  go_enter Try.func27, Try.ntmps27
  go_wp2_with fail
  with_reducible refine (C1.out).mono ?_
  rintro e w1 ⟨rfl, hb⟩
  have HB := Lib.hid hb
  have s1 := hb.size
  clear hb
  go_wp2_with fail
  with_reducible refine (C3.out _ HB.out).mono ?_
  rintro e w3 ⟨rfl, hb3⟩
  have HB3 := Lib.hid (HB.out.trans (hb3.mono HB.out.size))
  have s3 := HB3.out.size
  clear hb3 C1 C3
  go_wp2_with fail
  with_reducible refine (C4.out _ HB3.out).mono ?_
  rintro e w5 ⟨⟨A5, c5, rfl, ho5⟩, hb5⟩
  have HO5 := Lib.hid (ho5.base s3)
  have HB5 := Lib.hid (HB3.out.trans (hb5.mono s3))
  clear ho5 hb5
  go_wp2
  go_ret
  rw [HV.out]
  exact ⟨⟨A5, c5, rfl, HO5.out⟩, HB5.out⟩
end Go.Proofs.Ytfdaeomlgpflhaa
