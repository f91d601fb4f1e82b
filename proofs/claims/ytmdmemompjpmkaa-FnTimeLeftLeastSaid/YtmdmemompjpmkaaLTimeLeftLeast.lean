/-
  THE WALK OF laws.FnTimeLeftLeast.
-/
import Derived.Test.YtmdmemompjpmkaaX15
import Derived.Test.YtmdmemompjpmkaaRI
import Derived.Test.YtmdmemompjpmkaaW111
import Derived.Test.YtmdmemompjpmkaaR71
import Derived.Test.YtmdmemompjpmkaaL1
namespace Go.Proofs.Ytmdmemompjpmkaa
open Go.RowKit
set_option linter.unusedVariables false
set_option maxRecDepth 20000 in
set_option maxHeartbeats 6400000 in
theorem fnTimeLeftLeast_walk (A : Option Addr) (c : Nat) (l : List Int) (w : World) (hb : RB w 0 w.heap.size A l) (hlc : l.length ≤ c ∧ c ≤ maxLen) :
    Calls Try.prog 12 #[.slice A l.length c] w fun e w' => e = .returned (.bool true) ∧ Below w.heap.size w w' := by
  have hl63 : l.length ≤ 9223372036854775807 := by have := hlc.2; unfold maxLen at this; omega
  by_cases hbig : 1048576 < l.length
  · go_enter Try.func12, Try.ntmps12
    go_wp2
    go_ret
    exact ⟨rfl, Below.refl _ _⟩
  · have C1 := Lib.hid (DrawTimeLeft_any A c l w hb hlc.1 hlc.2)
    clear hb
    go_enter Try.func12, Try.ntmps12
    go_wp2_with fail
    refine (C1.out).mono ?_
    rintro e w1 ⟨⟨A1, c1, g, A0, c0, d, rfl, hg, hg16, hgc, hcm, hd, hd100, hdc, hdm⟩, hb1⟩
    have HG := Lib.hid hg
    have HD := Lib.hid hd
    have s1 := hb1.size
    have hl9 : g.length ≤ 9223372036854775807 := by omega
    have hd9 : d.length ≤ 9223372036854775807 := by omega
    have qs := fun W (hb : Below w1.heap.size w1 W) => TimeLeftS_any A1 c1 g A0 c0 d w.heap.size w1.heap.size w.heap.size w1.heap.size W (HG.out.below hb (Nat.le_refl _)) hb.size (HD.out.below hb (Nat.le_refl _)) hb.size hl9 hd9
    have q2 := TimeLeft_any A1 c1 g A0 c0 d w.heap.size w1.heap.size w.heap.size w1.heap.size w1 HG.out (Nat.le_refl _) HD.out (Nat.le_refl _) hl9 hd9
    obtain ⟨V, hV⟩ : ∃ V, V = Bs.leftL g d := ⟨_, rfl⟩
    rw [← hV] at q2 qs
    have HV := Lib.hid hV
    have C2 := Lib.hid q2
    have CS := Lib.hid qs
    have HB1 := Lib.hid hb1
    have hne : (V != V) = false := by simp
    have heq : (V == V) = true := by simp
    clear C1 hg hd q2 qs hb1 hV
    go_wp2_with fail
    with_reducible refine (C2.out).mono ?_
    rintro e w2 ⟨rfl, hb2⟩
    have s2 := hb2.size
    have HX2 := Lib.hid hb2
    have HB2 := Lib.hid (HB1.out.trans (hb2.mono s1))
    clear hb2 C2
    have C4 := Lib.hid (CS.out w2 HX2.out)
    go_wp2_with fail
    with_reducible refine (C4.out).mono ?_
    rintro e W4 ⟨rfl, hb4⟩
    have HX4 := Lib.hid (HX2.out.trans (hb4.mono s2))
    have HB4 := Lib.hid (HB2.out.trans (hb4.mono (Nat.le_trans s1 s2)))
    have s4 := HX4.out.size
    have C5 := Lib.hid (CS.out W4 HX4.out)
    clear hb4 C4 CS
    by_cases hV0 : V < 0
    · clear HV
      go_wp2_with fail
      with_reducible refine (C5.out).mono ?_
      rintro e w5 ⟨rfl, hb5⟩
      have HB5 := Lib.hid (HB4.out.trans (hb5.mono (Nat.le_trans s1 s4)))
      clear hb5
      go_wp2
      go_ret
      exact ⟨rfl, HB5.out⟩
    · have hok := Bs.leftL_pos (by rw [← HV.out]; exact hV0)
      clear C5
      have hvg := Bs.vdone_valid hok
      have hF := valid_fine hvg
      have hVC : V = Bs.leftC g d := by rw [HV.out, Bs.leftL_yes hok]
      have hle := Bs.left_least hok
      rw [← hVC] at hle
      have HLE := Lib.hid hle
      have HLS := Lib.hid (fun k => Bs.lsK_succ g d k)
      have HLB := Lib.hid (fun k hk => Bs.lsK_b hF d k hk)
      have HL0 := Lib.hid (Bs.lsK_zero g d)
      have HT := Lib.hid (fun i (hi : i < g.length) => Bs.fine_time' hF hi)
      have HTE := Lib.hid (fun i (hi : i < g.length) => Bs.timeOf_eq (g := g) hi)
      have HG4 := Lib.hid (HG.out.below HX4.out (Nat.le_refl _))
      have HD4 := Lib.hid (HD.out.below HX4.out (Nat.le_refl _))
      clear hVC HV hvg hF hle HG HD
      generalize Bs.lsK g d = ls at *
      obtain ⟨W5, rfl⟩ : ∃ W5, W5 = W4 := ⟨_, rfl⟩
      go_wp2
      go_loopw [6, 7] (fun s i wr => ∃ (k m : Nat), k ≤ g.length ∧ i = .int .i64 k ∧ s = .int .i64 (ls k) ∧ wr = W5.drewN m) (fun _ i _ => g.length - (intOf i).toNat)
      case atStart => exact ⟨0, 0, Nat.zero_le _, rfl, by rw [HL0.out], rfl⟩
      case round =>
        obtain ⟨k, m, hk, rfl, rfl, rfl⟩ := hrel
        have hlb := HLB.out k hk
        by_cases hlt : k < g.length
        · obtain ⟨bg, og, N, cN, rfl, _, _, k0, k1, k2, k3, hnc, hcN, hN⟩ := HG4.out k hlt
          have c4 := lisIn_any A0 c0 d (k : Int) _ _ (W5.drewN m) (HD4.out.drewN m) hd9
          have hls := HLS.out k
          have htt := HT.out k hlt
          rw [HTE.out k hlt] at hls
          have d1 : (k : Int) < (g.length : Int) := by omega
          have d2 : (0 : Int) ≤ (k : Int) := by omega
          clear hN hnc HLB HLS HTE HT k1 k2 k3
          generalize ls k = s0 at *
          generalize g[k].time = tv at *
          have hw1 : IntKind.i64.wrap (s0 + tv) = s0 + tv := IntWalk.i64_in _ ⟨by omega, by omega⟩
          cases hq : d.contains (k : Int)
          · rw [hq] at c4 hls
            simp only [Bool.false_eq_true, if_false] at hls
            have C4 := Lib.hid c4
            have HL1 := Lib.hid hls
            clear c4 hq hls
            go_wp2_with fail
            refine (C4.out).mono ?_
            rintro e w6 ⟨rfl, n2, rfl⟩
            go_wp2
            go_roundw
            case rel => exact ⟨k + 1, _, by omega, by go_num, by rw [HL1.out], by first | rfl | rw [World.drewN_drewN]⟩
            case measure => simp [intOf]; omega
          · rw [hq] at c4 hls
            simp only [if_true] at hls
            have C4 := Lib.hid c4
            have HL1 := Lib.hid hls
            clear c4 hq hls
            go_wp2_with fail
            refine (C4.out).mono ?_
            rintro e w6 ⟨rfl, n2, rfl⟩
            go_wp2
            go_roundw
            case rel => exact ⟨k + 1, _, by omega, by go_num, by rw [HL1.out, Int.add_zero], by first | rfl | rw [World.drewN_drewN]⟩
            case measure => simp [intOf]; omega
        · obtain rfl : k = g.length := by omega
          have d3 : decide (V ≤ ls g.length) = true := by have := HLE.out; simp; omega
          clear HLE HLS HLB
          generalize ls g.length = z at *
          go_wp2
          go_ret
          exact ⟨rfl, HB4.out.drewN _⟩
end Go.Proofs.Ytmdmemompjpmkaa
