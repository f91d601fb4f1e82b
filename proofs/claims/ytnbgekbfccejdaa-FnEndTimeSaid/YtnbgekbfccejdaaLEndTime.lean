/-
  THE WALK OF laws.FnEndTime.
-/
import Derived.Test.YtnbgekbfccejdaaK17
import Derived.Test.YtnbgekbfccejdaaK16
import Derived.Test.YtnbgekbfccejdaaK14
import Derived.Test.YtnbgekbfccejdaaK15
namespace Go.Proofs.Ytnbgekbfccejdaa
open Go.RowKit
set_option maxRecDepth 20000 in
set_option maxHeartbeats 6400000 in
theorem fnEndTime_walk (A : Option Addr) (c : Nat) (l : List Int) (w : World) (hb : RB w 0 w.heap.size A l) (hlc : l.length ≤ c ∧ c ≤ maxLen) :
    Calls Try.prog 9 #[.slice A l.length c] w fun e w' => e = .returned (.bool true) ∧ Below w.heap.size w w' := by
  have hl63 : l.length ≤ 9223372036854775807 := by have := hlc.2; unfold maxLen at this; omega
  by_cases hbig : 1048576 < l.length
  · go_enter Try.func9, Try.ntmps9
    go_wp2
    go_ret
    exact ⟨rfl, Below.refl _ _⟩
  · have C1 := Lib.hid (DrawEndTime_any A c l w hb hlc.1 hlc.2)
    clear hb
    go_enter Try.func9, Try.ntmps9
    go_wp2_with fail
    refine (C1.out).mono ?_
    rintro e w1 ⟨⟨A1, c1, g, A2, c2, m, wk, A3, c3, S, rfl, hg, hg16, hgc, hcm, hm, hm100, hmc, hmm, hS, hS100, hSc, hSm⟩, hb1⟩
    have HG := Lib.hid hg
    have HM := Lib.hid hm
    have HS := Lib.hid hS
    have s1 := hb1.size
    have hl9 : g.length ≤ 9223372036854775807 := by omega
    have hm9 : m.length ≤ 9223372036854775807 := by omega
    have hS9 : S.length ≤ 9223372036854775807 := by omega
    have q2 := EndTime_any A1 c1 g A2 c2 m A3 c3 S wk w.heap.size w1.heap.size w.heap.size w1.heap.size w.heap.size w1.heap.size w1 HG.out (Nat.le_refl _) HM.out (Nat.le_refl _) HS.out (Nat.le_refl _) hl9 hm9 hS9
    have qs := fun W hg hm hr hs => EndTimeS_any A1 c1 g A2 c2 m A3 c3 S wk w.heap.size w1.heap.size w.heap.size w1.heap.size w.heap.size w1.heap.size W hg hs hm hs hr hs hl9 hm9 hS9
    have CI := Lib.hid (fun (A2 : Option Addr) (c2 : Nat) (m' : List Int) (A3 : Option Addr) (c3 : Nat) (S' : List Int) (wk' : Int) (l1 h1 l2 h2 : Nat) W hg hs hm hh1 hS hh2 hml hsl => EndTime_any A1 c1 g A2 c2 m' A3 c3 S' wk' w.heap.size w1.heap.size l1 h1 l2 h2 W hg hs hm hh1 hS hh2 hl9 hml hsl)
    obtain ⟨V, hV⟩ : ∃ V, V = Bs.endT g m wk S := ⟨_, rfl⟩
    rw [← hV] at q2 qs
    have HV := Lib.hid hV
    have C2 := Lib.hid q2
    have CS := Lib.hid qs
    have HB1 := Lib.hid hb1
    have hne : (V != V) = false := by simp
    have heq : (V == V) = true := by simp
    clear C1 hg hm hS q2 qs hb1 hV
    go_wp2_with fail
    with_reducible refine (C2.out).mono ?_
    rintro e w2 ⟨rfl, hb2⟩
    have s2 := hb2.size
    have HG2 := Lib.hid (HG.out.below hb2 (Nat.le_refl _))
    have HM2 := Lib.hid (HM.out.below hb2 (Nat.le_refl _))
    have HS2 := Lib.hid (HS.out.below hb2 (Nat.le_refl _))
    have HB2 := Lib.hid (HB1.out.trans (hb2.mono s1))
    have C3 := Lib.hid (CS.out w2 HG2.out HM2.out HS2.out s2)
    clear hb2 C2 HG HM HS HB1
    go_wp2_with fail
    with_reducible refine (C3.out).mono ?_
    rintro e w3 ⟨rfl, hb3⟩
    have s3 := hb3.size
    have hs3 : w1.heap.size ≤ w3.heap.size := Nat.le_trans s2 s3
    have HG3 := Lib.hid (HG2.out.below hb3 s2)
    have HM3 := Lib.hid (HM2.out.below hb3 s2)
    have HS3 := Lib.hid (HS2.out.below hb3 s2)
    have HB3 := Lib.hid (HB2.out.trans (hb3.mono (Nat.le_trans s1 s2)))
    clear hb3 C3 HG2 HM2 HS2 HB2
    obtain ⟨W3, rfl⟩ : ∃ W3, W3 = w3 := ⟨_, rfl⟩
    by_cases h0 : V < 0
    · clear HV
      have C6 := Lib.hid (CS.out W3 HG3.out HM3.out HS3.out hs3)
      clear CS
      go_wp2_with fail
      with_reducible refine (C6.out).mono ?_
      rintro e w6 ⟨rfl, hb6⟩
      have HB6 := Lib.hid (HB3.out.trans (hb6.mono (Nat.le_trans s1 hs3)))
      clear hb6 C6
      go_wp2
      go_ret
      exact ⟨rfl, HB6.out⟩
    · clear hne heq CS
      obtain ⟨hst, hve⟩ := Bs.endT_valid HV.out h0
      obtain ⟨hcan, hk, _⟩ := Bs.stV_iff.1 hst
      have hF := valid_fine (Bs.canV_iff.1 hcan).1
      have h8 := Bs.fine_len hF
      have hlen := Bs.clk_len hk
      have hq : ((S.length : Int) != (g.length : Int)) = false := by simp [hlen]
      have hq2 : (S.length != g.length) = false := by simp [hlen]
      have HSB := Lib.hid (fun i => Bs.clk_at hk i)
      have HTT := Lib.hid (fun i (hi : i < g.length) => Bs.fine_time' hF hi)
      have HSU := Lib.hid (Bs.someB_succ g S V)
      have HSA := Lib.hid (Bs.someB_all hst hve)
      have HGE := Lib.hid (fun i (hi : i < g.length) => show Bs.giZ S i + Bs.timeOf g i ≤ V from by rw [hve]; exact Bs.end_ge hi)
      have HLEN := Lib.hid hlen
      have HSW := Lib.hid (show Bs.someB g S V 0 = (decide (g.length = 0) && (V == 0)) from by unfold Bs.someB; simp)
      have hd0 : decide (V < 0) = false := by simp; omega
      obtain ⟨b0, hb0⟩ : ∃ b0, b0 = (V == 0) := ⟨_, rfl⟩
      clear HV CI hst hve hcan hk hF hlen
      have hgz : ∀ (P : Prop), ((g.length = 0 → P) → (g.length ≠ 0 → P) → P) := fun P a b => by by_cases h : g.length = 0; exact a h; exact b h
      have HVb := Lib.hid (show (V == 0) = true ∨ (V == 0) = false from by cases (V == 0) <;> simp)
      refine hgz _ (fun hg0 => ?_) (fun hg0 => ?_)
      · have hz : ((g.length : Int) == 0) = true := by simp [hg0]
        have HZ := Lib.hid (show Bs.someB g S V g.length = (V == 0) from by rw [hg0, HSW.out]; simp [hg0])
        have HG0 := Lib.hid hg0
        clear hg0 hb0 hgz
        rcases HVb.out with hvb | hvb
        · go_wp2
          go_loopw [8, 9] (fun vo i wr => vo = .bool true ∧ i = .int .i64 (0 : Nat) ∧ wr = W3) (fun _ _ _ => 0)
          case atStart => exact ⟨rfl, rfl, rfl⟩
          case round =>
            obtain ⟨rfl, rfl, rfl⟩ := hrel
            have hz2 : ¬ ((0 : Int) < (g.length : Int)) := by have := HG0.out; omega
            go_wp2
            go_ret
            exact ⟨rfl, HB3.out⟩
        · exfalso
          have := HSA.out
          rw [HZ.out, hvb] at this
          cases this
      · have hz : ((g.length : Int) == 0) = false := by rw [beq_eq_false_iff_ne]; omega
        have HZ := Lib.hid (show Bs.someB g S V 0 = false from by rw [HSW.out]; simp [hg0])
        clear hg0 hb0 hgz
        go_wp2
        go_loopw [8, 9] (fun vo i wr => ∃ (k : Nat) (b : Bool) (n : Nat), k ≤ g.length ∧ vo = .bool b ∧ i = .int .i64 k ∧ b = Bs.someB g S V k ∧ wr = W3.drewN n) (fun _ i _ => g.length - (intOf i).toNat)
        case atStart => exact ⟨0, false, 0, Nat.zero_le _, rfl, rfl, HZ.out.symm, rfl⟩
        case round =>
          obtain ⟨k, b, n, hk, rfl, rfl, hbk, rfl⟩ := hrel
          by_cases hlt : k < g.length
          · have hks : k < S.length := by have := HLEN.out; omega
            obtain ⟨bS, oS, rfl, _, _, hc⟩ := HS3.out.at_ hks
            obtain ⟨bg, og, N, cN, rfl, _, _, t0, _, _, _, hnc, hcN, hN⟩ := HG3.out k hlt
            rw [← Bs.giZ_at hks] at hc
            have hsb := HSB.out k
            have htt := HTT.out k hlt
            have hge := HGE.out k hlt
            have hsu := HSU.out k
            rw [← hbk] at hsu
            rw [time_at hlt] at hge hsu
            have HS4 := Lib.hid hsu
            have i0 : (0 : Int) ≤ (k : Int) := by omega
            have i1 : (k : Int) < (S.length : Int) := by omega
            have i2 : (k : Int) < (g.length : Int) := by omega
            clear hsu hbk hN
            generalize g[k].time = tk at *
            generalize Bs.giZ S k = sk at *
            have hw : IntKind.i64.wrap (sk + tk) = sk + tk := IntWalk.i64_in _ ⟨by omega, by omega⟩
            have d1 : decide (sk + tk > V) = false := by simp; omega
            have d2 : decide (V < sk + tk) = false := by simp; omega
            cases b
            · have HS5 := Lib.hid (show (sk + tk == V) = Bs.someB g S V (k + 1) from by rw [HS4.out]; rfl)
              go_wp2
              go_quiet (fail)
              go_wp2
              go_quiet (fail)
              go_wp2
              go_roundw
              case rel => exact ⟨k + 1, _, _, by omega, rfl, by go_num, HS5.out, by first | rfl | rw [World.drewN_drewN] | (rw [World.drewN_drewN, World.drewN_drewN])⟩
              case measure => simp [intOf]; omega
            · have HS5 := Lib.hid (show true = Bs.someB g S V (k + 1) from by rw [HS4.out]; rfl)
              go_wp2
              go_quiet (fail)
              go_wp2
              go_quiet (fail)
              go_wp2
              go_roundw
              case rel => exact ⟨k + 1, _, _, by omega, rfl, by go_num, HS5.out, by first | rfl | rw [World.drewN_drewN] | (rw [World.drewN_drewN, World.drewN_drewN])⟩
              case measure => simp [intOf]; omega
          · obtain rfl : k = g.length := by omega
            have HBT := Lib.hid (show b = true from by rw [hbk]; exact HSA.out)
            clear hbk
            go_wp2
            go_ret
            exact ⟨ret_bool HBT.out, HB3.out.drewN _⟩
end Go.Proofs.Ytnbgekbfccejdaa
