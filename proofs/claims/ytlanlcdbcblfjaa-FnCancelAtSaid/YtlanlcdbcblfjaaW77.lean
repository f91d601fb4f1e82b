/-
  WALKS: cancelled tasks, of the program.
-/
import Derived.Test.YtlanlcdbcblfjaaK14
import Derived.Test.YtlanlcdbcblfjaaK8
import Derived.Test.YtlanlcdbcblfjaaMath61
import Derived.Test.YtlanlcdbcblfjaaK2
namespace Go.Proofs.Ytlanlcdbcblfjaa
open Go.RowKit
theorem canL_len1000 (g : List Bs.T) (m : List Int) (wk : Int) (S : List Int) (now : Int) : (Bs.canL g m wk S now).length ≤ 1000 := by
  cases hc : Bs.canOk g m wk S now
  · rw [Bs.canL_no hc]; simp
  · have h1 := (Bs.canOk_iff.1 hc).1
    have := Bs.fine_len (valid_fine (Bs.canV_iff.1 (Bs.stV_iff.1 h1).1).1)
    have := Bs.canL_len g m wk S now
    omega
set_option maxHeartbeats 800000 in
theorem cancelled_any (S : List Int) (A : Option Addr) (c : Nat) (g : List Bs.T) (v : Nat) (now : Int) (lo hi : Nat) (w : World) (h : RG w lo hi A g) (hh : hi ≤ w.heap.size) (hF : Bs.fine g = true) (hv : v < g.length) (hf : ∀ i, i < 8 → 0 ≤ Bs.giZ S i ∧ Bs.giZ S i ≤ 100000) :
    Calls Try.prog 59 #[.agg (bgA (Bs.giZ S) (Bs.full g.length)), .slice A g.length c, .int .i64 (v : Int), .int .i64 now] w fun e w' => e = .returned (.int .i64 (Bs.canI g S now v)) ∧ Below w.heap.size w w' := by
  have hgl := Bs.fine_len hF
  have hv8 : v < 8 := by omega
  have hb := BG.new w (Bs.giZ S) (Bs.full g.length)
  have hal : Below w.heap.size w (w.alloc (.cells (bgA (Bs.giZ S) (Bs.full g.length)) 72)) := (Below.refl _ _).alloc (Nat.le_refl _) _
  have hsz := bgA_size (Bs.giZ S) (Bs.full g.length)
  have C1 := Lib.hid (over_any (Bs.giZ S) (Bs.full g.length) A c g v lo hi _ (h.below hal hh) (Nat.le_trans hh hal.size) hF hv hf)
  have HV := Lib.hid (show Bs.canI g S now v = if Bs.giZ S v + Bs.timeOf g v ≤ now then 0 else if Bs.giZ S v < now then 1 else 3 from rfl)
  have HB := Lib.hid hb
  have HAL := Lib.hid hal
  have i0 : (0 : Int) ≤ (v : Int) := by omega
  have i1 : (v : Int) < 8 := by omega
  clear hb hal h hf hF
  generalize Bs.canI g S now v = V at *
  generalize hy : Bs.giZ S v + Bs.timeOf g v = y at *
  clear hy
  go_enter Try.func59, Try.ntmps59
  go_wp2_with (first | (refine bg_load rfl _ rfl w.heap.size (Bs.giZ S) (Bs.full g.length) rfl HB.out ?_))
  with_reducible refine (C1.out).mono ?_
  rintro e w2 ⟨rfl, hb2⟩
  have h2 := HB.out.below hb2 HB.out.lt
  have kv := h2.at_ hv8
  have HB2 := Lib.hid (HAL.out.trans (hb2.mono HAL.out.size))
  clear hb2 h2 C1 HB HAL
  generalize Bs.giZ S v = sv at *
  by_cases g1 : y ≤ now
  · have HE := Lib.hid (show V = 0 from by rw [HV.out, if_pos g1])
    go_wp2
    go_ret
    exact ⟨ret_int HE.out.symm, HB2.out⟩
  · by_cases g2 : sv < now
    · have HE := Lib.hid (show V = 1 from by rw [HV.out, if_neg g1, if_pos g2])
      go_wp2
      go_ret
      exact ⟨ret_int HE.out.symm, HB2.out⟩
    · have HE := Lib.hid (show V = 3 from by rw [HV.out, if_neg g1, if_neg g2])
      go_wp2
      go_ret
      exact ⟨ret_int HE.out.symm, HB2.out⟩
set_option maxHeartbeats 1600000 in
theorem CancelAt_any (A : Option Addr) (c : Nat) (g : List Bs.T) (A1 : Option Addr) (c1 : Nat) (m : List Int) (A2 : Option Addr) (c2 : Nat) (S : List Int) (wk now : Int) (lo hi l1 h1 l2 h2 : Nat) (w : World) (h : RG w lo hi A g) (hh : hi ≤ w.heap.size) (hm : RI w l1 h1 A1 m) (hh1 : h1 ≤ w.heap.size) (hs : RI w l2 h2 A2 S) (hh2 : h2 ≤ w.heap.size) (hl : g.length ≤ 9223372036854775807) (hml : m.length ≤ 9223372036854775807) (hsl : S.length ≤ 9223372036854775807) :
    Calls Try.prog 29 #[.slice A g.length c, .slice A1 m.length c1, .int .i64 wk, .slice A2 S.length c2, .int .i64 now] w (RetI w (Bs.canL g m wk S now)) := by
  have q1 := ValidStarts_any A c g A1 c1 m A2 c2 S wk lo hi l1 h1 l2 h2 w h hh hm hh1 hs hh2 hl hml hsl
  have HCO := Lib.hid (fun (b : Bool) (he : Bs.stV g m wk S = b) => show Bs.canOk g m wk S now = (b && decide (0 ≤ now ∧ now ≤ 200)) from by rw [← he]; rfl)
  cases hv : Bs.stV g m wk S
  · rw [hv] at q1
    have C1 := Lib.hid q1
    have HV := Lib.hid (Bs.canL_no (by rw [HCO.out false hv]; rfl))
    clear q1 hv h hm hs HCO
    go_enter Try.func29, Try.ntmps29
    go_wp2_with fail
    with_reducible refine (C1.out).mono ?_
    rintro e w1 ⟨rfl, hb⟩
    have HB := Lib.hid hb
    clear hb
    go_wp2
    go_ret
    exact RetI.nil HB.out HV.out
  rw [hv] at q1
  have C1 := Lib.hid q1
  by_cases hn : 0 ≤ now ∧ now ≤ 200
  rotate_left
  · have HV := Lib.hid (Bs.canL_no (by rw [HCO.out true hv]; simpa using hn))
    clear q1 hv h hm hs HCO
    by_cases h0 : now < 0
    · clear hn
      go_enter Try.func29, Try.ntmps29
      go_wp2_with fail
      with_reducible refine (C1.out).mono ?_
      rintro e w1 ⟨rfl, hb⟩
      have HB := Lib.hid hb
      clear hb
      go_wp2
      go_ret
      exact RetI.nil HB.out HV.out
    · have h3 : 200 < now := by omega
      clear hn
      go_enter Try.func29, Try.ntmps29
      go_wp2_with fail
      with_reducible refine (C1.out).mono ?_
      rintro e w1 ⟨rfl, hb⟩
      have HB := Lib.hid hb
      clear hb
      go_wp2
      go_ret
      exact RetI.nil HB.out HV.out
  obtain ⟨n0, n2⟩ := hn
  have HV := Lib.hid (Bs.canL_yes (show Bs.canOk g m wk S now = true from by rw [HCO.out true hv]; simp; omega))
  obtain ⟨hcan, hk, _⟩ := Bs.stV_iff.1 hv
  have hF := valid_fine (Bs.canV_iff.1 hcan).1
  have h8 := Bs.fine_len hF
  have hlen := Bs.clk_len hk
  have hfb := giZ_b hk
  have q3 := fun W (hb : Below w.heap.size w W) => beginningsOf_any A2 c2 S l2 h2 W (hs.below hb hh2) (Nat.le_trans hh2 hb.size) (by omega)
  rw [show Bs.full S.length = Bs.full g.length from by rw [hlen]] at q3
  have C3 := Lib.hid q3
  have C4 := Lib.hid (fun (v : Nat) (hv : v < g.length) W (hb : Below w.heap.size w W) => cancelled_any S A c g v now lo hi W (h.below hb hh) (Nat.le_trans hh hb.size) hF hv hfb)
  have HCL := Lib.hid (Bs.canC_len g S now)
  have HCA := Lib.hid (fun i (hi : i < g.length) => show Bs.gi (Bs.canC g S now) i = Bs.canI g S now i from by rw [Bs.gi_at (by rw [Bs.canC_len]; exact hi), Bs.canC_at])
  clear q1 q3 hF hfb h hm hs hv hk hl hml hsl hcan hlen HCO
  go_enter Try.func29, Try.ntmps29
  go_wp2_with fail
  with_reducible refine (C1.out).mono ?_
  rintro e w1 ⟨rfl, hb⟩
  have HB := Lib.hid hb
  clear hb
  go_wp2_with fail
  with_reducible refine (C3.out _ HB.out).mono ?_
  rintro e w3 ⟨rfl, hb3⟩
  have HB3 := Lib.hid (HB.out.trans (hb3.mono HB.out.size))
  have hz3 := BG.new w3 z8 0
  have ha3 := HB3.out.alloc HB3.out.size (.cells (bgA z8 0) 72)
  rw [z8A] at hz3 ha3
  have HZ3 := Lib.hid hz3
  have HAZ3 := Lib.hid ha3
  have s3 := HB3.out.size
  have hmk := fun u => make_ints g.length (by omega) u
  clear hb3 C1 C3 hz3 ha3
  go_wp2_with (first | (refine bg_store rfl _ _ rfl w3.heap.size z8 (Bs.giZ S) 0 (Bs.full g.length) rfl rfl HZ3.out ?_; intro w4 h4 o4))
  have hsz4 : w3.heap.size < w4.heap.size := by rw [o4.size]; simp
  have HN3 := Lib.hid (h4.alloc (.cells (intsA (List.replicate g.length 0)) 3))
  have ha4 := HAZ3.out.trans (o4.below s3)
  have HA3 := Lib.hid (ha4.alloc ha4.size (.cells (intsA (List.replicate g.length 0)) 3))
  have HARR := Lib.hid (show Arr (w4.alloc (.cells (intsA (List.replicate g.length 0)) 3)) w4.heap.size (List.replicate g.length 0) from Blk.new _ 3 _)
  clear h4 o4 ha4 hmk
  generalize (.cells (intsA (List.replicate g.length 0)) 3 : Obj) = ob at *
  go_loopw [35] (fun i wr => ∃ (k : Nat) (L : List Int), k ≤ g.length ∧ i = .int .i64 k ∧ L.length = g.length ∧ (∀ i, i < k → Bs.gi L i = Bs.canI g S now i) ∧ BG wr w3.heap.size (Bs.giZ S) (Bs.full g.length) ∧ Arr wr w4.heap.size L ∧ Below w.heap.size w wr) (fun i _ => g.length - (intOf i).toNat)
  case atStart => exact ⟨0, List.replicate g.length 0, Nat.zero_le _, rfl, by simp, by intro i hi; omega, HN3.out, HARR.out, HA3.out⟩
  case round =>
    obtain ⟨k, L, hk, rfl, hL, heq, hB, hA, hb⟩ := hrel
    clear HN3 HA3 HARR
    by_cases hlt : k < g.length
    · have C6 := Lib.hid (C4.out k hlt wr hb)
      have HB0 := Lib.hid hB
      have HA0 := Lib.hid hA
      have HBb := Lib.hid hb
      have HL := Lib.hid hL
      have hkL : k < L.length := by omega
      have HQ := Lib.hid (show ∀ x, x = Bs.canI g S now k → ∀ i, i < k + 1 → Bs.gi (L.set k x) i = Bs.canI g S now i from by
        intro x hx i hi
        rw [Bs.gi_set _ _ _ _ hkL]
        by_cases e : i = k
        · rw [if_pos e, e, hx]
        · rw [if_neg e]; exact heq i (by omega))
      have i0 : (0 : Int) ≤ (k : Int) := by omega
      have i1 : (k : Int) < (g.length : Int) := by omega
      clear hB hA hb hL heq C4
      obtain ⟨x, hx⟩ : ∃ x, x = Bs.canI g S now k := ⟨_, rfl⟩
      rw [← hx] at C6
      have HQ2 := Lib.hid (HQ.out x hx)
      clear HQ hx
      go_wp2_with (first | (refine bg_load rfl _ rfl w3.heap.size (Bs.giZ S) (Bs.full g.length) rfl HB0.out ?_))
      with_reducible refine (C6.out).mono ?_
      rintro e w5 ⟨rfl, hb5⟩
      have hA5 := HA0.out.below hb5 HA0.out.lt
      have kc := hA5.cell hkL
      have kf := hA5.frozen k
      have HS := Lib.hid (hA5.set_ k x)
      have hne : ¬ w3.heap.size = w4.heap.size := by omega
      have HB5 := Lib.hid (((HB0.out.below hb5 HB0.out.lt)).far (p := ⟨w4.heap.size, k, none⟩) (by exact hne) (.int .i64 x))
      have HBb5 := Lib.hid ((HBb.out.trans (hb5.mono HBb.out.size)).setCell (p := ⟨w4.heap.size, k, none⟩) (by show _ ≤ w4.heap.size; omega) (.int .i64 x))
      clear hb5 C6 hA5
      go_wp2
      go_roundw
      case rel => exact ⟨k + 1, L.set k x, by omega, by go_num, by rw [List.length_set]; exact HL.out, HQ2.out, HB5.out, HS.out, HBb5.out⟩
      case measure => simp [intOf]; omega
    · obtain rfl : k = g.length := by omega
      have e : L = Bs.canC g S now := Bs.list_gi (by rw [hL, HCL.out]) (fun i hi => by rw [heq i (by omega), HCA.out i (by omega)])
      have hO := hA.oi (B := w.heap.size) (by omega) (by omega)
      rw [hL, e] at hO
      have HO := Lib.hid hO
      have HBb := Lib.hid hb
      clear hB hA hb hL heq hO e C4
      go_wp2
      go_ret
      rw [HV.out]
      refine ⟨⟨_, _, ?_, HO.out⟩, HBb.out⟩
      rw [HCL.out]
      rfl
end Go.Proofs.Ytlanlcdbcblfjaa
