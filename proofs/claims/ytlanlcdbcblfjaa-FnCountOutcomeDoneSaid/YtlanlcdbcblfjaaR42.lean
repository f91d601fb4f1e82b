/-
  WALKS: how many tasks have an outcome, who is to blame, of the model.
-/
import Derived.Test.YtlanlcdbcblfjaaR41
import Derived.Test.YtlanlcdbcblfjaaK5
namespace Go.Proofs.Ytlanlcdbcblfjaa
open Go.RowKit
set_option maxHeartbeats 800000 in
theorem CountOutcomeS_any (A : Option Addr) (c : Nat) (g : List Bs.T) (A1 : Option Addr) (c1 : Nat) (F : List Int) (keep kind : Int) (lo hi l1 h1 : Nat) (w : World) (h : RG w lo hi A g) (hh : hi ≤ w.heap.size) (hF : RI w l1 h1 A1 F) (hh1 : h1 ≤ w.heap.size) (hl : g.length ≤ 9223372036854775807) (hFl : F.length ≤ 9223372036854775807) :
    Calls Try.prog 23 #[.slice A g.length c, .slice A1 F.length c1, .int .i64 keep, .int .i64 kind] w fun e w' => e = .returned (.int .i64 (Bs.cntL g F keep kind)) ∧ Below w.heap.size w w' := by
  have q1 := validFailsS_any A c g A1 c1 F lo hi l1 h1 w h hh hF hh1 hl hFl
  have q2 := fun W => inRange_any keep 1 8 W
  have q3 := fun W => inRange_any kind 0 3 W
  have he : Bs.canF g F keep = (Bs.valid g && Bs.inG g F && decide (1 ≤ keep ∧ keep ≤ 8)) := rfl
  cases h1' : (Bs.valid g && Bs.inG g F)
  · rw [h1'] at q1 he
    have C1 := Lib.hid q1
    have HV := Lib.hid (Bs.cntL_no1 (kind := kind) (by rw [he]; rfl))
    clear q1 q2 q3 he h1' h hF
    go_enter Try.func23, Try.ntmps23
    go_wp2_with fail
    with_reducible refine (C1.out).mono ?_
    rintro e w1 ⟨rfl, hb⟩
    have HB := Lib.hid hb
    clear hb
    go_wp2
    go_ret
    exact ⟨ret_int HV.out.symm, HB.out⟩
  · rw [h1'] at q1 he
    have C1 := Lib.hid q1
    cases h2' : decide (1 ≤ keep ∧ keep ≤ 8)
    · rw [h2'] at q2 he
      have C2 := Lib.hid q2
      have HV := Lib.hid (Bs.cntL_no1 (kind := kind) (by rw [he]; rfl))
      clear q1 q2 q3 he h1' h2' h hF
      go_enter Try.func23, Try.ntmps23
      go_wp2_with fail
      with_reducible refine (C1.out).mono ?_
      rintro e w1 ⟨rfl, hb⟩
      have HB := Lib.hid hb
      clear hb
      go_wp2_with fail
      with_reducible refine (C2.out _).mono ?_
      rintro e w2 ⟨rfl, rfl⟩
      go_wp2
      go_ret
      exact ⟨ret_int HV.out.symm, HB.out⟩
    · rw [h2'] at q2 he
      have C2 := Lib.hid q2
      cases h3' : decide (0 ≤ kind ∧ kind ≤ 3)
      · rw [h3'] at q3
        have C3 := Lib.hid q3
        have HV := Lib.hid (Bs.cntL_no2 (g := g) (F := F) (keep := keep) h3')
        clear q1 q2 q3 he h1' h2' h3' h hF
        go_enter Try.func23, Try.ntmps23
        go_wp2_with fail
        with_reducible refine (C1.out).mono ?_
        rintro e w1 ⟨rfl, hb⟩
        have HB := Lib.hid hb
        clear hb
        go_wp2_with fail
        with_reducible refine (C2.out _).mono ?_
        rintro e w2 ⟨rfl, rfl⟩
        go_wp2_with fail
        with_reducible refine (C3.out _).mono ?_
        rintro e w2 ⟨rfl, rfl⟩
        go_wp2
        go_ret
        exact ⟨ret_int HV.out.symm, HB.out⟩
      · rw [h3'] at q3
        have C3 := Lib.hid q3
        have hc : Bs.canF g F keep = true := by rw [he]; rfl
        have HV := Lib.hid (Bs.cntL_yes (kind := kind) hc h3')
        have hval : Bs.valid g = true := (Bs.canF_iff.1 hc).1
        have C4 := Lib.hid (fun W (hb : Below w.heap.size w W) => outcomeS_any A c g A1 c1 F keep lo hi l1 h1 W (h.below hb hh) (Nat.le_trans hh hb.size) (hF.below hb hh1) (Nat.le_trans hh1 hb.size) hFl hval)
        have hll := Bs.outC_len g F keep
        have h8 := Bs.fine_len (valid_fine hval)
        clear q1 q2 q3 he h1' h2' h3' h hF hc hval
        generalize Bs.outC g F keep = L at *
        have HCT := Lib.hid (fun k (hk : k < L.length) => Bs.cntO_take kind L k hk)
        have HCB := Lib.hid (fun k => Bs.cntO_b kind (L.take k))
        have hL8 : L.length ≤ 8 := by omega
        clear hll
        go_enter Try.func23, Try.ntmps23
        go_wp2_with fail
        with_reducible refine (C1.out).mono ?_
        rintro e w1 ⟨rfl, hb⟩
        have HB := Lib.hid hb
        clear hb C1
        go_wp2_with fail
        with_reducible refine (C2.out _).mono ?_
        rintro e w2 ⟨rfl, rfl⟩
        go_wp2_with fail
        with_reducible refine (C3.out _).mono ?_
        rintro e w2 ⟨rfl, rfl⟩
        go_wp2_with fail
        with_reducible refine (C4.out _ HB.out).mono ?_
        rintro e w3 ⟨⟨A2, c2, rfl, ho2⟩, hb2⟩
        have HR := Lib.hid ho2.ri
        have HB2 := Lib.hid (HB.out.trans (hb2.mono HB.out.size))
        clear ho2 hb2 C2 C3 C4 HB
        go_wp2
        go_loopw [9, 11] (fun s i wr => ∃ (k : Nat) (t : Int), k ≤ L.length ∧ s = .int .i64 t ∧ i = .int .i64 k ∧ t = Bs.cntO kind (L.take k) ∧ ∃ n, wr = w3.drewN n) (fun _ i _ => L.length - (intOf i).toNat)
        case atStart => exact ⟨0, 0, Nat.zero_le _, rfl, rfl, rfl, 0, rfl⟩
        case round =>
          obtain ⟨k, t, hk, rfl, rfl, ht, n, rfl⟩ := hrel
          by_cases hlt : k < L.length
          · obtain ⟨b, o, rfl, _, _, hcell⟩ := HR.out.at_ hlt
            have hct := HCT.out k hlt
            have hcb := HCB.out k
            rw [← ht] at hct hcb
            have hcb2 : 0 ≤ t ∧ t ≤ 100 := by have := hcb.2; rw [List.length_take] at this; omega
            have hw : IntKind.i64.wrap (t + 1) = t + 1 := IntWalk.i64_in _ ⟨by omega, by omega⟩
            have HX := Lib.hid hct
            have d1 : (k : Int) < (L.length : Int) := by omega
            clear ht hct hcb HCT HCB
            generalize L[k] = x at *
            by_cases hx : x = kind
            · have hxe : (x == kind) = true := by simpa using hx
              have HY := Lib.hid (show Bs.cntO kind (L.take (k + 1)) = t + 1 from by rw [HX.out, hxe]; simp)
              clear hx HX
              go_wp2
              go_roundw
              case rel => exact ⟨k + 1, t + 1, by omega, by first | rfl | rw [hw], by go_num, HY.out.symm, _, by first | rfl | rw [World.drewN_drewN]⟩
              case measure => simp [intOf]; omega
            · have hxe : (x == kind) = false := by simpa using hx
              have HY := Lib.hid (show Bs.cntO kind (L.take (k + 1)) = t from by rw [HX.out, hxe]; simp)
              have hw0 : IntKind.i64.wrap (t + 0) = t := by rw [Int.add_zero]; exact IntWalk.i64_in _ ⟨by omega, by omega⟩
              clear hx HX
              go_wp2
              go_roundw
              case rel => exact ⟨k + 1, t, by omega, by first | rfl | rw [hw0], by go_num, HY.out.symm, _, by first | rfl | rw [World.drewN_drewN]⟩
              case measure => simp [intOf]; omega
          · have e : L.take k = L := List.take_of_length_le (by omega)
            rw [e] at ht
            have HT := Lib.hid (show t = Bs.cntL g F keep kind from by rw [HV.out, ht])
            clear ht e
            go_wp2
            go_ret
            exact ⟨ret_int HT.out, HB2.out.drewN _⟩
end Go.Proofs.Ytlanlcdbcblfjaa
