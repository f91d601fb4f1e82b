/-
  THE WALK OF laws.FnCountOutcomeDone.
-/
import Derived.Test.YtlanlcdbcblfjaaX11
import Derived.Test.YtlanlcdbcblfjaaMath63
import Derived.Test.YtlanlcdbcblfjaaR42
import Derived.Test.YtlanlcdbcblfjaaK7
namespace Go.Proofs.Ytlanlcdbcblfjaa
open Go.RowKit
set_option linter.unusedVariables false
set_option maxRecDepth 20000 in
set_option maxHeartbeats 6400000 in
theorem fnCountOutcomeDone_walk (A : Option Addr) (c : Nat) (l : List Int) (w : World) (hb : RB w 0 w.heap.size A l) (hlc : l.length ≤ c ∧ c ≤ maxLen) :
    Calls Try.prog 12 #[.slice A l.length c] w fun e w' => e = .returned (.bool true) ∧ Below w.heap.size w w' := by
  have hl63 : l.length ≤ 9223372036854775807 := by have := hlc.2; unfold maxLen at this; omega
  by_cases hbig : 1048576 < l.length
  · go_enter Try.func12, Try.ntmps12
    go_wp2
    go_ret
    exact ⟨rfl, Below.refl _ _⟩
  · have C1 := Lib.hid (DrawCountOutcome_any A c l w hb hlc.1 hlc.2)
    clear hb
    go_enter Try.func12, Try.ntmps12
    go_wp2_with fail
    refine (C1.out).mono ?_
    rintro e w1 ⟨⟨A1, c1, g, A0, c0, d, a, q, rfl, hg, hg16, hgc, hcm, hd, hd100, hdc, hdm⟩, hb1⟩
    have HG := Lib.hid hg
    have HD := Lib.hid hd
    have s1 := hb1.size
    have hl9 : g.length ≤ 9223372036854775807 := by omega
    have hd9 : d.length ≤ 9223372036854775807 := by omega
    have qs := fun W hg hd hs => CountOutcomeS_any A1 c1 g A0 c0 d a q w.heap.size w1.heap.size w.heap.size w1.heap.size W hg hs hd hs hl9 hd9
    have CI := Lib.hid (fun (a' q' : Int) W (hb : Below w1.heap.size w1 W) => CountOutcome_any A1 c1 g A0 c0 d a' q' w.heap.size w1.heap.size w.heap.size w1.heap.size W (HG.out.below hb (Nat.le_refl _)) hb.size (HD.out.below hb (Nat.le_refl _)) hb.size hl9 hd9)
    have CO := Lib.hid (fun W (hb : Below w1.heap.size w1 W) => Outcomes_any A1 c1 g A0 c0 d a w.heap.size w1.heap.size w.heap.size w1.heap.size W (HG.out.below hb (Nat.le_refl _)) hb.size (HD.out.below hb (Nat.le_refl _)) hb.size hl9 hd9)
    have q2 := CI.out a q w1 (Below.refl _ _)
    obtain ⟨V, hV⟩ : ∃ V, V = Bs.cntL g d a q := ⟨_, rfl⟩
    rw [← hV] at q2 qs
    have HV := Lib.hid hV
    have C2 := Lib.hid q2
    have CS := Lib.hid qs
    have HB1 := Lib.hid hb1
    have hne : (V != V) = false := by simp
    have heq : (V == V) = true := by simp
    clear C1 hg hd q2 qs hb1 hV
    go_wp2_with fail
    with_reducible refine (C2.out).mono ?_
    rintro e w2 ⟨rfl, hb2⟩
    have s2 := hb2.size
    have HG2 := Lib.hid (HG.out.below hb2 (Nat.le_refl _))
    have HD2 := Lib.hid (HD.out.below hb2 (Nat.le_refl _))
    have HB2 := Lib.hid (HB1.out.trans (hb2.mono s1))
    have HX2 := Lib.hid hb2
    have C3 := Lib.hid (CS.out w2 HG2.out HD2.out s2)
    clear hb2 C2
    go_wp2_with fail
    with_reducible refine (C3.out).mono ?_
    rintro e w3 ⟨rfl, hb3⟩
    have s3 := hb3.size
    have hs3 : w1.heap.size ≤ w3.heap.size := Nat.le_trans s2 s3
    have HG3 := Lib.hid (HG2.out.below hb3 s2)
    have HD3 := Lib.hid (HD2.out.below hb3 s2)
    have HB3 := Lib.hid (HB2.out.trans (hb3.mono (Nat.le_trans s1 s2)))
    have HX3 := Lib.hid (HX2.out.trans (hb3.mono s2))
    clear hb3 C3 HG2 HD2 HB2 HX2
    obtain ⟨W3, rfl⟩ : ∃ W3, W3 = w3 := ⟨_, rfl⟩
    by_cases hV0 : V < 0
    · clear HV
      have C6 := Lib.hid (CS.out W3 HG3.out HD3.out hs3)
      clear CS
      go_wp2_with fail
      with_reducible refine (C6.out).mono ?_
      rintro e w6 ⟨rfl, hb6⟩
      have HB6 := Lib.hid (HB3.out.trans (hb6.mono (Nat.le_trans s1 hs3)))
      clear hb6 C6
      go_wp2
      go_ret
      exact ⟨rfl, HB6.out⟩
    · obtain ⟨hcf, hq0, hq3, hck, hsum, h8⟩ := count_law (by rw [← HV.out]; exact hV0)
      obtain ⟨hdo, hdl⟩ := count_done hcf
      have hco := CO.out W3 HX3.out
      rw [Bs.outL_yes hcf] at hco
      have C4 := Lib.hid hco
      have C5 := Lib.hid (fun W hb => CI.out a 0 W hb)
      have C6 := Lib.hid (fun (A' : Option Addr) (c' : Nat) (dd : List Int) (l2 h2 : Nat) W (hb : Below w1.heap.size w1 W) (hr : RI W l2 h2 A' dd) (hh2 : h2 ≤ W.heap.size) (hdd : dd.length ≤ 100) => ValidDone_any A1 c1 g A' c' dd w.heap.size w1.heap.size l2 h2 W (HG.out.below hb (Nat.le_refl _)) hb.size hr hh2 hl9 (by omega))
      have HLL := Lib.hid (Bs.outC_len g d a)
      clear hcf hck hsum CI CS CO HV hco
      generalize Bs.outC g d a = O at *
      have HPS := Lib.hid (fun k => Bs.pick_succ k (fun i => Bs.gi O i == 0))
      have HPL := Lib.hid (fun k => Bs.pick_len k (fun i => Bs.gi O i == 0))
      have HDO := Lib.hid hdo
      have HDL := Lib.hid hdl
      clear hdo hdl
      go_wp2_with fail
      with_reducible refine (C4.out).mono ?_
      rintro e w4 ⟨⟨A4, c4, rfl, ho4⟩, hb4⟩
      have HX4 := Lib.hid (HX3.out.trans (hb4.mono hs3))
      have HB4 := Lib.hid (HB3.out.trans (hb4.mono (Nat.le_trans s1 hs3)))
      have s4 := HX4.out.size
      have HR4 := Lib.hid ho4.ri
      clear ho4 hb4 C4
      have hO8 : O.length ≤ 8 := by have := HLL.out; omega
      have HO0 := Lib.hid (OI.new w4 w4.heap.size (Nat.le_refl _))
      have HL0 := Lib.hid ((Below.refl w4.heap.size w4).alloc (Nat.le_refl _) (.cells #[] 3))
      go_wp2
      go_loopw [9, 10] (fun vo i wr => ∃ (k : Nat) (A' : Option Addr) (c' : Nat) (o : List Int), k ≤ O.length ∧ vo = .slice A' o.length c' ∧ i = .int .i64 k ∧ o = Bs.pick k (fun i => Bs.gi O i == 0) ∧ OI wr w4.heap.size A' c' o ∧ Below w4.heap.size w4 wr) (fun _ i _ => O.length - (intOf i).toNat)
      case atStart => exact ⟨0, _, _, [], Nat.zero_le _, rfl, rfl, rfl, HO0.out, HL0.out⟩
      case round =>
        obtain ⟨k, A', c', o, hk, rfl, rfl, ho, hO, hb⟩ := hrel
        have hps := HPS.out k
        have hpl := HPL.out k
        rw [← ho] at hps hpl
        by_cases hlt : k < O.length
        · obtain ⟨b, of, rfl, _, _, hcell⟩ := (HR4.out.below hb (Nat.le_refl _)).at_ hlt
          rw [← Bs.gi_at hlt] at hcell
          have d1 : (k : Int) < (O.length : Int) := by omega
          have HPP := Lib.hid hps
          have HOL := Lib.hid hpl
          have HO := Lib.hid hO
          have HBb := Lib.hid hb
          have sr := hb.size
          clear ho hps hpl hO hb HPS HPL
          generalize Bs.gi O k = x at *
          by_cases hx : x = 0
          · subst hx
            have HP := Lib.hid (show Bs.pick (k + 1) (fun i => Bs.gi O i == 0) = o ++ [(k : Int)] from by rw [HPP.out]; rfl)
            clear HPP
            have HO2 := Lib.hid (HO.out.alloc (.cells #[.int .i64 (k : Int)] 3))
            have HBb2 := Lib.hid (HBb.out.alloc sr (.cells #[.int .i64 (k : Int)] 3))
            go_wp2_with (first
              | (at_builtin; refine push_int rfl _ _ rfl w4.heap.size A' c' o (k : Int) rfl HO2.out wr.heap.size 1 rfl (by simp [go_sem]) (by have := HOL.out; omega) (by simp; omega) ?_; intro A6 c6 w6 ho6 hb6 _; have HO6 := Lib.hid ho6; have HBb6 := Lib.hid (HBb2.out.trans (hb6.mono (Nat.le_refl _))); clear ho6 hb6))
            go_roundw
            case rel => exact ⟨k + 1, A6, c6, o ++ [(k : Int)], by omega, by rw [List.length_append]; rfl, by go_num, HP.out.symm, HO6.out, HBb6.out⟩
            case measure => simp [intOf]; omega
          · have hxe : (x == 0) = false := by simpa using hx
            have HP := Lib.hid (show Bs.pick (k + 1) (fun i => Bs.gi O i == 0) = o from by rw [HPP.out]; simp [hxe])
            clear HPP hx
            go_wp2
            go_roundw
            case rel => exact ⟨k + 1, A', c', o, by omega, rfl, by go_num, HP.out.symm, HO.out, HBb.out⟩
            case measure => simp [intOf]; omega
        · have hkO : k = g.length := by have := HLL.out; omega
          subst hkO
          have HX5 := Lib.hid (HX4.out.trans (hb.mono s4))
          have HB5 := Lib.hid (HB4.out.trans (hb.mono (Nat.le_trans s1 s4)))
          have s5 := HX5.out.size
          have hol : o.length ≤ 100 := by omega
          have hdl := HDL.out
          have hdo := HDO.out
          rw [← ho] at hdl hdo
          have hrO := hO.ri
          have C7 := Lib.hid (C5.out wr HX5.out)
          rw [← hdl] at C7
          have C8 := Lib.hid (fun W (hb6 : Below wr.heap.size wr W) => C6.out A' c' o w4.heap.size wr.heap.size W (HX5.out.trans (hb6.mono s5)) (hrO.below hb6 (Nat.le_refl _)) hb6.size hol)
          simp only [hdo] at C8
          have hq1 : ((o.length : Int) == (o.length : Int)) = true := by simp
          clear ho hps hpl hO hb HPS HPL C5 C6 HDL HDO hdl hdo hrO HR4
          go_wp2_with fail
          with_reducible refine (C7.out).mono ?_
          rintro e w7 ⟨rfl, hb7⟩
          have C9 := Lib.hid (C8.out w7 hb7)
          have HB7 := Lib.hid (HB5.out.trans (hb7.mono (Nat.le_trans s1 s5)))
          have s7 := hb7.size
          clear hb7 C7 C8
          go_wp2_with fail
          with_reducible refine (C9.out).mono ?_
          rintro e w8 ⟨rfl, hb8⟩
          have HB8 := Lib.hid (HB7.out.trans (hb8.mono (Nat.le_trans s1 (Nat.le_trans s5 s7))))
          clear hb8 C9
          go_wp2
          go_ret
          exact ⟨rfl, HB8.out⟩
end Go.Proofs.Ytlanlcdbcblfjaa
