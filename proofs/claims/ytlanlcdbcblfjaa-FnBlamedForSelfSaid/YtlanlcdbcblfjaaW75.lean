/-
  WALKS: how many tasks have an outcome, who is to blame, of the program.
-/
import Derived.Test.YtlanlcdbcblfjaaW74
import Derived.Test.YtlanlcdbcblfjaaMath61
import Derived.Test.YtlanlcdbcblfjaaK5
namespace Go.Proofs.Ytlanlcdbcblfjaa
open Go.RowKit
theorem outL_len1000 (g : List Bs.T) (F : List Int) (keep : Int) : (Bs.outL g F keep).length ≤ 1000 := by
  cases hc : Bs.canF g F keep
  · rw [Bs.outL_no hc]; simp
  · have := Bs.fine_len (valid_fine (Bs.canF_iff.1 hc).1)
    have := Bs.outL_len g F keep
    omega
set_option maxHeartbeats 800000 in
theorem CountOutcome_any (A : Option Addr) (c : Nat) (g : List Bs.T) (A1 : Option Addr) (c1 : Nat) (F : List Int) (keep kind : Int) (lo hi l1 h1 : Nat) (w : World) (h : RG w lo hi A g) (hh : hi ≤ w.heap.size) (hF : RI w l1 h1 A1 F) (hh1 : h1 ≤ w.heap.size) (hl : g.length ≤ 9223372036854775807) (hFl : F.length ≤ 9223372036854775807) :
    Calls Try.prog 22 #[.slice A g.length c, .slice A1 F.length c1, .int .i64 keep, .int .i64 kind] w fun e w' => e = .returned (.int .i64 (Bs.cntL g F keep kind)) ∧ Below w.heap.size w w' := by
  have q1 := canFail_any A c g A1 c1 F keep lo hi l1 h1 w h hh hF hh1 hl hFl
  cases hc : Bs.canF g F keep
  · rw [hc] at q1
    have C1 := Lib.hid q1
    have HV := Lib.hid (Bs.cntL_no1 (kind := kind) hc)
    clear q1 hc h hF
    go_enter Try.func22, Try.ntmps22
    go_wp2_with fail
    with_reducible refine (C1.out).mono ?_
    rintro e w1 ⟨rfl, hb⟩
    have HB := Lib.hid hb
    clear hb
    go_wp2
    go_ret
    exact ⟨ret_int HV.out.symm, HB.out⟩
  · rw [hc] at q1
    have C1 := Lib.hid q1
    by_cases hk : 0 ≤ kind ∧ kind ≤ 3
    rotate_left
    · have HV := Lib.hid (Bs.cntL_no2 (g := g) (F := F) (keep := keep) (kind := kind) (by simpa using hk))
      clear q1 hc h hF
      by_cases h0 : kind < 0
      · clear hk
        go_enter Try.func22, Try.ntmps22
        go_wp2_with fail
        with_reducible refine (C1.out).mono ?_
        rintro e w1 ⟨rfl, hb⟩
        have HB := Lib.hid hb
        clear hb
        go_wp2
        go_ret
        exact ⟨ret_int HV.out.symm, HB.out⟩
      · have h3 : 3 < kind := by omega
        clear hk
        go_enter Try.func22, Try.ntmps22
        go_wp2_with fail
        with_reducible refine (C1.out).mono ?_
        rintro e w1 ⟨rfl, hb⟩
        have HB := Lib.hid hb
        clear hb
        go_wp2
        go_ret
        exact ⟨ret_int HV.out.symm, HB.out⟩
    · obtain ⟨k0, k3⟩ := hk
      have HV := Lib.hid (Bs.cntL_yes (kind := kind) hc (by simp; omega))
      have c2 := fun W (hb : Below w.heap.size w W) => Outcomes_any A c g A1 c1 F keep lo hi l1 h1 W (h.below hb hh) (Nat.le_trans hh hb.size) (hF.below hb hh1) (Nat.le_trans hh1 hb.size) hl hFl
      rw [Bs.outL_yes hc] at c2
      have C2 := Lib.hid c2
      have hll := Bs.outC_len g F keep
      have h8 := Bs.fine_len (valid_fine (Bs.canF_iff.1 hc).1)
      clear q1 hc h hF c2
      generalize Bs.outC g F keep = L at *
      have HCT := Lib.hid (fun k (hk : k < L.length) => Bs.cntO_take kind L k hk)
      have HCB := Lib.hid (fun k => Bs.cntO_b kind (L.take k))
      have HLL := Lib.hid hll
      have hL8 : L.length ≤ 8 := by omega
      clear hll
      go_enter Try.func22, Try.ntmps22
      go_wp2_with fail
      with_reducible refine (C1.out).mono ?_
      rintro e w1 ⟨rfl, hb⟩
      have HB := Lib.hid hb
      clear hb C1
      go_wp2_with fail
      with_reducible refine (C2.out _ HB.out).mono ?_
      rintro e w2 ⟨⟨A2, c2, rfl, ho2⟩, hb2⟩
      have HR := Lib.hid ho2.ri
      have HB2 := Lib.hid (HB.out.trans (hb2.mono HB.out.size))
      clear ho2 hb2 C2 HB
      go_wp2
      go_loop [9, 30] (fun s i => ∃ (k : Nat) (t : Int), k ≤ L.length ∧ s = .int .i64 t ∧ i = .int .i64 k ∧ t = Bs.cntO kind (L.take k)) (fun _ i => L.length - (intOf i).toNat)
      case atStart => exact ⟨0, 0, Nat.zero_le _, rfl, rfl, rfl⟩
      case round =>
        obtain ⟨k, t, hk, rfl, rfl, ht⟩ := hrel
        by_cases hlt : k < L.length
        · obtain ⟨b, o, rfl, _, _, hcell⟩ := HR.out.at_ hlt
          have hct := HCT.out k hlt
          have hcb := HCB.out k
          rw [← ht] at hct hcb
          have hcb2 : 0 ≤ t ∧ t ≤ 100 := by have := hcb.2; rw [List.length_take] at this; omega
          have hw : IntKind.i64.wrap (t + 1) = t + 1 := IntWalk.i64_in _ ⟨by omega, by omega⟩
          have HX := Lib.hid hct
          have d1 : (k : Int) < (L.length : Int) := by omega
          clear ht hct hcb HCT HCB
          generalize L[k] = x at *
          by_cases hx : x = kind
          · have hxe : (x == kind) = true := by simpa using hx
            have HY := Lib.hid (show Bs.cntO kind (L.take (k + 1)) = t + 1 from by rw [HX.out, hxe]; simp)
            clear hx HX
            go_wp2
            go_round
            case rel => exact ⟨k + 1, t + 1, by omega, by first | rfl | rw [hw], by go_num, HY.out.symm⟩
            case measure => simp [intOf]; omega
          · have hxe : (x == kind) = false := by simpa using hx
            have HY := Lib.hid (show Bs.cntO kind (L.take (k + 1)) = t from by rw [HX.out, hxe]; simp)
            clear hx HX
            go_wp2
            go_round
            case rel => exact ⟨k + 1, t, by omega, rfl, by go_num, HY.out.symm⟩
            case measure => simp [intOf]; omega
        · have e : L.take k = L := List.take_of_length_le (by omega)
          rw [e] at ht
          have HT := Lib.hid (show t = Bs.cntL g F keep kind from by rw [HV.out, ht])
          clear ht e
          go_wp2
          go_ret
          exact ⟨ret_int HT.out, HB2.out⟩
end Go.Proofs.Ytlanlcdbcblfjaa
