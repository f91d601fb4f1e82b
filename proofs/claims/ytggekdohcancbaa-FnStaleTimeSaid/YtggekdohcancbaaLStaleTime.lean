/-
  THE WALK OF laws.FnStaleTime.
-/
import Derived.Test.YtggekdohcancbaaX13
import Derived.Test.YtggekdohcancbaaMath72
import Derived.Test.YtggekdohcancbaaL1
import Derived.Test.YtggekdohcancbaaLA
namespace Go.Proofs.Ytggekdohcancbaa
open Go.RowKit
set_option linter.unusedVariables false
set_option maxRecDepth 20000 in
set_option maxHeartbeats 6400000 in
theorem fnStaleTime_walk (A : Option Addr) (c : Nat) (l : List Int) (w : World) (hb : RB w 0 w.heap.size A l) (hlc : l.length ≤ c ∧ c ≤ maxLen) :
    Calls Try.prog 13 #[.slice A l.length c] w fun e w' => e = .returned (.bool true) ∧ Below w.heap.size w w' := by
  have hl63 : l.length ≤ 9223372036854775807 := by have := hlc.2; unfold maxLen at this; omega
  by_cases hbig : 1048576 < l.length
  · go_enter Try.func13, Try.ntmps13
    go_wp2
    go_ret
    exact ⟨rfl, Below.refl _ _⟩
  · have C1 := Lib.hid (DrawStaleTime_any A c l w hb hlc.1 hlc.2)
    clear hb
    go_enter Try.func13, Try.ntmps13
    go_wp2_with fail
    refine (C1.out).mono ?_
    rintro e w1 ⟨⟨A1, c1, g, A0, c0, d, rfl, hg, hg16, hgc, hcm, hd, hd100, hdc, hdm⟩, hb1⟩
    have HG := Lib.hid hg
    have HD := Lib.hid hd
    have s1 := hb1.size
    have hl9 : g.length ≤ 9223372036854775807 := by omega
    have hd9 : d.length ≤ 9223372036854775807 := by omega
    have qs := fun W (hb : Below w1.heap.size w1 W) => StaleTimeS_any A1 c1 g A0 c0 d w.heap.size w1.heap.size w.heap.size w1.heap.size W (HG.out.below hb (Nat.le_refl _)) hb.size (HD.out.below hb (Nat.le_refl _)) hb.size hl9 hd9
    have q2 := StaleTime_any A1 c1 g A0 c0 d w.heap.size w1.heap.size w.heap.size w1.heap.size w1 HG.out (Nat.le_refl _) HD.out (Nat.le_refl _) hl9 hd9
    obtain ⟨V, hV⟩ : ∃ V, V = Bs.stalT g d := ⟨_, rfl⟩
    rw [← hV] at q2 qs
    have HV := Lib.hid hV
    have C2 := Lib.hid q2
    have CS := Lib.hid qs
    have HB1 := Lib.hid hb1
    have hne : (V != V) = false := by simp
    have heq : (V == V) = true := by simp
    clear C1 hg hd q2 qs hb1 hV
    go_wp2_with fail
    with_reducible refine (C2.out).mono ?_
    rintro e w2 ⟨rfl, hb2⟩
    have s2 := hb2.size
    have HX2 := Lib.hid hb2
    have HB2 := Lib.hid (HB1.out.trans (hb2.mono s1))
    clear hb2 C2
    have C4 := Lib.hid (CS.out w2 HX2.out)
    go_wp2_with fail
    with_reducible refine (C4.out).mono ?_
    rintro e W4 ⟨rfl, hb4⟩
    have HX4 := Lib.hid (HX2.out.trans (hb4.mono s2))
    have HB4 := Lib.hid (HB2.out.trans (hb4.mono (Nat.le_trans s1 s2)))
    have s4 := HX4.out.size
    have C5 := Lib.hid (CS.out W4 HX4.out)
    clear hb4 C4 CS
    by_cases hV0 : V < 0
    · clear HV
      go_wp2_with fail
      with_reducible refine (C5.out).mono ?_
      rintro e w5 ⟨rfl, hb5⟩
      have HB5 := Lib.hid (HB4.out.trans (hb5.mono (Nat.le_trans s1 s4)))
      clear hb5
      go_wp2
      go_ret
      exact ⟨rfl, HB5.out⟩
    · have hok : Bs.staOk g d = true := by
        cases h : Bs.staOk g d
        · have := HV.out
          rw [Bs.stalT_no h] at this
          omega
        · rfl
      clear C5
      have hVe := Bs.stalT_yes hok
      have hall := Bs.stal_all hok
      obtain ⟨hval, hin⟩ := Bs.staOk_iff.1 hok
      have hf := valid_fine hval
      have h8 := Bs.fine_len hf
      have hll := Bs.staleC_len g d
      have c5 := StaleTasks_any A1 c1 g A0 c0 d w.heap.size w1.heap.size w.heap.size w1.heap.size W4 (HG.out.below HX4.out (Nat.le_refl _)) s4 (HD.out.below HX4.out (Nat.le_refl _)) s4 hl9 hd9
      rw [Bs.staleL_yes hok] at c5
      have C5 := Lib.hid c5
      have HT := Lib.hid (fun i (hi : i < g.length) => And.intro (Bs.fine_time' hf hi) (time_at (g := g) hi))
      have HTK := Lib.hid (fun k (hk : k < (Bs.staleC g d).length) => stale_take (g := g) (Bs.staleC g d) hk)
      have HIN := Lib.hid (fun k (hk : k < (Bs.staleC g d).length) => Bs.stale_in _ (List.getElem_mem hk))
      have CA := Lib.hid (fun W (hb : Below w1.heap.size w1 W) => allTime_any A1 c1 g w.heap.size w1.heap.size W (HG.out.below hb (Nat.le_refl _)) h8 (fun i hi => by have := Bs.fine_time' hf hi; omega))
      have HSE := Lib.hid (show Bs.sumL (g.map Bs.T.time) = Bs.sumZ (g.map Bs.T.time) from by
        generalize g.map Bs.T.time = q
        induction q with
        | nil => rfl
        | cons x r ih => show x + Bs.sumL r = x + Bs.sumZ r; rw [ih])
      rw [← HV.out] at hVe hall
      have HVE := Lib.hid hVe
      have HALL := Lib.hid hall.2
      clear HV hok hVe hall hval hin hf c5 HD
      generalize Bs.staleC g d = L at *
      go_wp2_with fail
      with_reducible refine (C5.out).mono ?_
      rintro e w5 ⟨⟨A5, c5, rfl, ho5⟩, hb5⟩
      have HR5 := Lib.hid ho5.ri
      have HX5 := Lib.hid (HX4.out.trans (hb5.mono s4))
      have HB5 := Lib.hid (HB4.out.trans (hb5.mono HB4.out.size))
      have CA5 := Lib.hid (CA.out w5 HX5.out)
      clear ho5 hb5 C5 CA
      go_wp2
      go_loop [7, 8] (fun s i => ∃ (k : Nat) (t : Int), k ≤ L.length ∧ i = .int .i64 k ∧ s = .int .i64 t ∧ t = Bs.sumZ ((L.take k).map fun x => Bs.timeOf g x.toNat) ∧ 0 ≤ t ∧ t ≤ 20 * k) (fun _ i => L.length - (intOf i).toNat)
      case atStart => exact ⟨0, 0, Nat.zero_le _, rfl, rfl, by simp [Bs.sumZ], by omega, by omega⟩
      case round =>
        obtain ⟨k, t, hk, rfl, rfl, ht, ht0, ht1⟩ := hrel
        by_cases hlt : k < L.length
        · obtain ⟨bt, ot, rfl, _, _, hct⟩ := HR5.out.at_ hlt
          have hin := HIN.out k hlt
          have htk := HTK.out k hlt
          obtain ⟨v, hv⟩ : ∃ v : Nat, L[k] = (v : Int) := ⟨L[k].toNat, by omega⟩
          rw [hv] at hct hin
          rw [hv, Int.toNat_natCast, ← ht] at htk
          have hvg : v < g.length := by omega
          obtain ⟨⟨t0, t1⟩, te⟩ := HT.out v hvg
          obtain ⟨bg, og, N, cN, rfl, _, hgh, q0, q1, q2, q3, hlN, hcN, hN⟩ := (HG.out.below HX5.out (Nat.le_refl _)) v hvg
          rw [te] at htk
          have HTN := Lib.hid htk
          have i0 : (0 : Int) ≤ (v : Int) := by omega
          have i1 : (v : Int) < (g.length : Int) := by omega
          have i2 : ¬ (v : Int) < 0 := by omega
          have i3 : ¬ (g.length : Int) ≤ (v : Int) := by omega
          clear hv hin htk ht hN q1 q2 q3 HIN HTK HT te CA5
          generalize g[v].time = x at *
          have hw : IntKind.i64.wrap (t + x) = t + x := IntWalk.i64_in _ ⟨by omega, by omega⟩
          go_wp2
          go_round
          case rel => exact ⟨k + 1, t + x, by omega, by go_num, by first | rfl | rw [hw], HTN.out.symm, by omega, by omega⟩
          case measure => simp [intOf]; omega
        · have e : L.take k = L := List.take_of_length_le (by omega)
          rw [e, ← HVE.out] at ht
          have hle := HALL.out
          rw [← HSE.out] at hle
          subst ht
          have d3 : (t == t) = true := by simp
          clear e HIN HTK HT HALL HVE HSE
          generalize Bs.sumL (g.map Bs.T.time) = AL at *
          go_wp2_with fail
          with_reducible refine (CA5.out).mono ?_
          rintro e _ ⟨rfl, rfl⟩
          go_wp2
          go_ret
          exact ⟨by first | rfl | simp; omega, HB5.out⟩
end Go.Proofs.Ytggekdohcancbaa
