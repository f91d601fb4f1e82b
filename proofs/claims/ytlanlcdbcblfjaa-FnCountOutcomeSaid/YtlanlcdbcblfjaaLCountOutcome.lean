/-
  THE WALK OF laws.FnCountOutcome.
-/
import Derived.Test.YtlanlcdbcblfjaaX11
import Derived.Test.YtlanlcdbcblfjaaMath63
import Derived.Test.YtlanlcdbcblfjaaR42
namespace Go.Proofs.Ytlanlcdbcblfjaa
open Go.RowKit
set_option linter.unusedVariables false
set_option maxRecDepth 20000 in
set_option maxHeartbeats 6400000 in
theorem fnCountOutcome_walk (A : Option Addr) (c : Nat) (l : List Int) (w : World) (hb : RB w 0 w.heap.size A l) (hlc : l.length ≤ c ∧ c ≤ maxLen) :
    Calls Try.prog 6 #[.slice A l.length c] w fun e w' => e = .returned (.bool true) ∧ Below w.heap.size w w' := by
  have hl63 : l.length ≤ 9223372036854775807 := by have := hlc.2; unfold maxLen at this; omega
  by_cases hbig : 1048576 < l.length
  · go_enter Try.func6, Try.ntmps6
    go_wp2
    go_ret
    exact ⟨rfl, Below.refl _ _⟩
  · have C1 := Lib.hid (DrawCountOutcome_any A c l w hb hlc.1 hlc.2)
    clear hb
    go_enter Try.func6, Try.ntmps6
    go_wp2_with fail
    refine (C1.out).mono ?_
    rintro e w1 ⟨⟨A1, c1, g, A0, c0, d, a, q, rfl, hg, hg16, hgc, hcm, hd, hd100, hdc, hdm⟩, hb1⟩
    have HG := Lib.hid hg
    have HD := Lib.hid hd
    have s1 := hb1.size
    have hl9 : g.length ≤ 9223372036854775807 := by omega
    have hd9 : d.length ≤ 9223372036854775807 := by omega
    have qs := fun W hg hd hs => CountOutcomeS_any A1 c1 g A0 c0 d a q w.heap.size w1.heap.size w.heap.size w1.heap.size W hg hs hd hs hl9 hd9
    have CI := Lib.hid (fun (a' q' : Int) W (hb : Below w1.heap.size w1 W) => CountOutcome_any A1 c1 g A0 c0 d a' q' w.heap.size w1.heap.size w.heap.size w1.heap.size W (HG.out.below hb (Nat.le_refl _)) hb.size (HD.out.below hb (Nat.le_refl _)) hb.size hl9 hd9)
    have CO := Lib.hid (fun W (hb : Below w1.heap.size w1 W) => Outcomes_any A1 c1 g A0 c0 d a w.heap.size w1.heap.size w.heap.size w1.heap.size W (HG.out.below hb (Nat.le_refl _)) hb.size (HD.out.below hb (Nat.le_refl _)) hb.size hl9 hd9)
    have q2 := CI.out a q w1 (Below.refl _ _)
    obtain ⟨V, hV⟩ : ∃ V, V = Bs.cntL g d a q := ⟨_, rfl⟩
    rw [← hV] at q2 qs
    have HV := Lib.hid hV
    have C2 := Lib.hid q2
    have CS := Lib.hid qs
    have HB1 := Lib.hid hb1
    have hne : (V != V) = false := by simp
    have heq : (V == V) = true := by simp
    clear C1 hg hd q2 qs hb1 hV
    go_wp2_with fail
    with_reducible refine (C2.out).mono ?_
    rintro e w2 ⟨rfl, hb2⟩
    have s2 := hb2.size
    have HG2 := Lib.hid (HG.out.below hb2 (Nat.le_refl _))
    have HD2 := Lib.hid (HD.out.below hb2 (Nat.le_refl _))
    have HB2 := Lib.hid (HB1.out.trans (hb2.mono s1))
    have HX2 := Lib.hid hb2
    have C3 := Lib.hid (CS.out w2 HG2.out HD2.out s2)
    clear hb2 C2
    go_wp2_with fail
    with_reducible refine (C3.out).mono ?_
    rintro e w3 ⟨rfl, hb3⟩
    have s3 := hb3.size
    have hs3 : w1.heap.size ≤ w3.heap.size := Nat.le_trans s2 s3
    have HG3 := Lib.hid (HG2.out.below hb3 s2)
    have HD3 := Lib.hid (HD2.out.below hb3 s2)
    have HB3 := Lib.hid (HB2.out.trans (hb3.mono (Nat.le_trans s1 s2)))
    have HX3 := Lib.hid (HX2.out.trans (hb3.mono s2))
    clear hb3 C3 HG2 HD2 HB2 HX2
    obtain ⟨W3, rfl⟩ : ∃ W3, W3 = w3 := ⟨_, rfl⟩
    by_cases hV0 : V < 0
    · clear HV
      have C6 := Lib.hid (CS.out W3 HG3.out HD3.out hs3)
      clear CS
      go_wp2_with fail
      with_reducible refine (C6.out).mono ?_
      rintro e w6 ⟨rfl, hb6⟩
      have HB6 := Lib.hid (HB3.out.trans (hb6.mono (Nat.le_trans s1 hs3)))
      clear hb6 C6
      go_wp2
      go_ret
      exact ⟨rfl, HB6.out⟩
    · obtain ⟨hcf, hq0, hq3, hck, hsum, h8⟩ := count_law (by rw [← HV.out]; exact hV0)
      have HCK := Lib.hid hck
      have hVc := hck q hq0 hq3
      rw [← HV.out] at hVc
      have hb0 := Bs.cntO_b 0 (Bs.outC g d a)
      have hb1 := Bs.cntO_b 1 (Bs.outC g d a)
      have hb2 := Bs.cntO_b 2 (Bs.outC g d a)
      have hb3 := Bs.cntO_b 3 (Bs.outC g d a)
      have hVb : V ≤ (g.length : Int) := by
        have : q = 0 ∨ q = 1 ∨ q = 2 ∨ q = 3 := by omega
        rcases this with rfl | rfl | rfl | rfl <;> omega
      have k0 := hck 0 (by omega) (by omega)
      have k1 := hck 1 (by omega) (by omega)
      have k2 := hck 2 (by omega) (by omega)
      have k3 := hck 3 (by omega) (by omega)
      obtain ⟨x0, hx0⟩ : ∃ x, x = Bs.cntO 0 (Bs.outC g d a) := ⟨_, rfl⟩
      obtain ⟨x1, hx1⟩ : ∃ x, x = Bs.cntO 1 (Bs.outC g d a) := ⟨_, rfl⟩
      obtain ⟨x2, hx2⟩ : ∃ x, x = Bs.cntO 2 (Bs.outC g d a) := ⟨_, rfl⟩
      obtain ⟨x3, hx3⟩ : ∃ x, x = Bs.cntO 3 (Bs.outC g d a) := ⟨_, rfl⟩
      rw [← hx0] at k0 hb0 hsum
      rw [← hx1] at k1 hb1 hsum
      rw [← hx2] at k2 hb2 hsum
      rw [← hx3] at k3 hb3 hsum
      have Q0 := Lib.hid (fun W hb => CI.out a 0 W hb)
      have Q1 := Lib.hid (fun W hb => CI.out a 1 W hb)
      have Q2 := Lib.hid (fun W hb => CI.out a 2 W hb)
      have Q3 := Lib.hid (fun W hb => CI.out a 3 W hb)
      rw [k0] at Q0
      rw [k1] at Q1
      rw [k2] at Q2
      rw [k3] at Q3
      have X : ∃ S : Nat → Int, S 0 = 0 ∧ S 1 = x0 ∧ S 2 = x0 + x1 ∧ S 3 = x0 + x1 + x2 ∧ S 4 = (g.length : Int) := ⟨fun k => match k with | 0 => 0 | 1 => x0 | 2 => x0 + x1 | 3 => x0 + x1 + x2 | _ => (g.length : Int), rfl, rfl, rfl, rfl, rfl⟩
      have bx : 0 ≤ x0 ∧ x0 ≤ 8 ∧ 0 ≤ x1 ∧ x1 ≤ 8 ∧ 0 ≤ x2 ∧ x2 ≤ 8 ∧ 0 ≤ x3 ∧ x3 ≤ 8 := by
        rw [Bs.outC_len] at hb0 hb1 hb2 hb3; omega
      obtain ⟨S, e0, e1, e2, e3, e4⟩ := X
      have HE := Lib.hid (And.intro e0 (And.intro e1 (And.intro e2 (And.intro e3 e4))))
      have HSU := Lib.hid hsum
      clear hck HCK k0 k1 k2 k3 hx0 hx1 hx2 hx3 hb0 hb1 hb2 hb3 hVc hcf HV hq0 hq3 e0 e1 e2 e3 e4 hsum CI CS CO
      go_wp2
      go_loopw [8, 9] (fun s i wr => ∃ (k : Nat), k ≤ 4 ∧ s = .int .i64 (S k) ∧ i = .int .i64 k ∧ Below w1.heap.size w1 wr) (fun _ i _ => 5 - (intOf i).toNat)
      case atStart => exact ⟨0, by omega, by rw [HE.out.1], rfl, HX3.out⟩
      case round =>
        obtain ⟨k, hk, rfl, rfl, hbr⟩ := hrel
        have sr := hbr.size
        have HBR := Lib.hid hbr
        obtain ⟨e0, e1, e2, e3, e4⟩ := HE.out
        have hsum := HSU.out
        have : k = 0 ∨ k = 1 ∨ k = 2 ∨ k = 3 ∨ k = 4 := by omega
        clear hbr
        rcases this with rfl | rfl | rfl | rfl | rfl
        · have C6 := Lib.hid (Q0.out _ HBR.out)
          rw [e0]
          have hw : IntKind.i64.wrap x0 = x0 := IntWalk.i64_in _ ⟨by omega, by omega⟩
          have HN := Lib.hid e1
          clear e0 e1 e2 e3 e4 hsum Q0 Q1 Q2 Q3
          go_wp2_with fail
          refine (C6.out).mono ?_
          rintro e w6 ⟨rfl, hb6⟩
          have HB6 := Lib.hid (HBR.out.trans (hb6.mono sr))
          clear hb6 C6
          go_wp2
          go_roundw
          case rel => exact ⟨1, by omega, by rw [HN.out]; try simp, rfl, HB6.out⟩
          case measure => simp [intOf]
        · have C6 := Lib.hid (Q1.out _ HBR.out)
          rw [e1]
          have hw : IntKind.i64.wrap (x0 + x1) = x0 + x1 := IntWalk.i64_in _ ⟨by omega, by omega⟩
          have HN := Lib.hid e2
          clear e0 e1 e2 e3 e4 hsum Q0 Q1 Q2 Q3
          go_wp2_with fail
          refine (C6.out).mono ?_
          rintro e w6 ⟨rfl, hb6⟩
          have HB6 := Lib.hid (HBR.out.trans (hb6.mono sr))
          clear hb6 C6
          go_wp2
          go_roundw
          case rel => exact ⟨2, by omega, by rw [HN.out], rfl, HB6.out⟩
          case measure => simp [intOf]
        · have C6 := Lib.hid (Q2.out _ HBR.out)
          rw [e2]
          have hw : IntKind.i64.wrap (x0 + x1 + x2) = x0 + x1 + x2 := IntWalk.i64_in _ ⟨by omega, by omega⟩
          have HN := Lib.hid e3
          clear e0 e1 e2 e3 e4 hsum Q0 Q1 Q2 Q3
          go_wp2_with fail
          refine (C6.out).mono ?_
          rintro e w6 ⟨rfl, hb6⟩
          have HB6 := Lib.hid (HBR.out.trans (hb6.mono sr))
          clear hb6 C6
          go_wp2
          go_roundw
          case rel => exact ⟨3, by omega, by rw [HN.out], rfl, HB6.out⟩
          case measure => simp [intOf]
        · have C6 := Lib.hid (Q3.out _ HBR.out)
          rw [e3]
          have hw : IntKind.i64.wrap (x0 + x1 + x2 + x3) = x0 + x1 + x2 + x3 := IntWalk.i64_in _ ⟨by omega, by omega⟩
          have HN := Lib.hid (show S 4 = x0 + x1 + x2 + x3 from by rw [e4]; omega)
          clear e0 e1 e2 e3 e4 hsum Q0 Q1 Q2 Q3
          go_wp2_with fail
          refine (C6.out).mono ?_
          rintro e w6 ⟨rfl, hb6⟩
          have HB6 := Lib.hid (HBR.out.trans (hb6.mono sr))
          clear hb6 C6
          go_wp2
          go_roundw
          case rel => exact ⟨4, by omega, by rw [HN.out], rfl, HB6.out⟩
          case measure => simp [intOf]
        · rw [e4]
          have HBW := Lib.hid (HB1.out.trans (HBR.out.mono s1))
          clear e0 e1 e2 e3 e4 hsum Q0 Q1 Q2 Q3
          go_wp2
          go_ret
          exact ⟨rfl, HBW.out⟩
end Go.Proofs.Ytlanlcdbcblfjaa
