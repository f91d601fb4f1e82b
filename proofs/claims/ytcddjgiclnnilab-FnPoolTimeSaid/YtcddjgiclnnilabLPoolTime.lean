/-
  THE WALK OF laws.FnPoolTime.
-/
import Derived.Test.YtcddjgiclnnilabX6
import Derived.Test.YtcddjgiclnnilabRI
namespace Go.Proofs.Ytcddjgiclnnilab
open Go.RowKit
set_option maxRecDepth 20000 in
set_option maxHeartbeats 6400000 in
theorem fnPoolTime_walk (A : Option Addr) (c : Nat) (l : List Int) (w : World) (hb : RB w 0 w.heap.size A l) (hlc : l.length ≤ c ∧ c ≤ maxLen) :
    Calls Try.prog 4 #[.slice A l.length c] w fun e w' => e = .returned (.bool true) ∧ Below w.heap.size w w' := by
  have hl63 : l.length ≤ 9223372036854775807 := by have := hlc.2; unfold maxLen at this; omega
  by_cases hbig : 1048576 < l.length
  · go_enter Try.func4, Try.ntmps4
    go_wp2
    go_ret
    exact ⟨rfl, Below.refl _ _⟩
  · have C1 := Lib.hid (DrawPoolTime_any A c l w hb hlc.1 hlc.2)
    clear hb
    go_enter Try.func4, Try.ntmps4
    go_wp2_with fail
    refine (C1.out).mono ?_
    rintro e w1 ⟨⟨A1, c1, g, p, r, rfl, hg, hg16, hgc, hcm⟩, hb1⟩
    have HG := Lib.hid hg
    have s1 := hb1.size
    have hl9 : g.length ≤ 9223372036854775807 := by omega
    obtain ⟨n, hn⟩ : ∃ n, n = Bs.poolT g p r := ⟨_, rfl⟩
    have c2 := PoolTime_any A1 c1 g p r w.heap.size w1.heap.size w1 HG.out (Nat.le_refl _) hl9
    rw [← hn] at c2
    have C2 := Lib.hid c2
    have CS := Lib.hid (fun w2 hg hs => PoolTimeS_any A1 c1 g p r w.heap.size w1.heap.size w2 hg hs hl9)
    rw [← hn] at CS
    have hx : ¬ n < 0 → _ := fun h0 => Bs.pool_law hn h0
    have HX := Lib.hid hx
    have HB1 := Lib.hid hb1
    clear C1 hg hn c2 hb1 hx
    go_wp2_with fail
    refine (C2.out).mono ?_
    rintro e w2 ⟨rfl, hb2⟩
    have HG2 := Lib.hid (HG.out.below hb2 (Nat.le_refl _))
    have s2 := hb2.size
    have HB2 := Lib.hid (HB1.out.trans (hb2.mono s1))
    have C3 := Lib.hid (CS.out w2 HG2.out s2)
    clear hb2 C2
    have hne : (n != n) = false := by simp
    by_cases h0 : n < 0
    · have hd : decide (n < 0) = true := by simpa using h0
      clear h0 HX
      go_wp2_with fail
      refine (C3.out).mono ?_
      rintro e w3 ⟨rfl, hb3⟩
      have HG3 := Lib.hid (HG2.out.below hb3 s2)
      have s3 := hb3.size
      have HB3 := Lib.hid (HB2.out.trans (hb3.mono (Nat.le_trans s1 s2)))
      have C4 := Lib.hid (CS.out w3 HG3.out (Nat.le_trans s2 s3))
      clear hb3 C3
      go_wp2_with fail
      refine (C4.out).mono ?_
      rintro e w4 ⟨rfl, hb4⟩
      have HB4 := Lib.hid (HB3.out.trans (hb4.mono (Nat.le_trans (Nat.le_trans s1 s2) s3)))
      clear hb4 C4
      have heq : (n == n) = true := by simp
      go_wp2
      go_ret
      exact ⟨rfl, HB4.out⟩
    · have hd : decide (n < 0) = false := by simpa using h0
      obtain ⟨hv, hr4, hr8, hw0, hw640, hn200, hq1, hq2, hq3, hq4, hq5⟩ := HX.out (by omega)
      have hF := valid_fine hv
      have h8 := Bs.fine_len hF
      have HT := Lib.hid (fun i (hi : i < g.length) => And.intro (Bs.fine_time' hF hi) (Bs.fine_task hF hi))
      have HS := Lib.hid (fun k hk => Bs.sumZ_takeT g (Bs.workF p) k hk)
      have hnn : ¬ n < 0 := h0
      have hn0 : 0 ≤ n := by omega
      obtain ⟨W, hW⟩ : ∃ W, W = Bs.workC g p := ⟨_, rfl⟩
      have HW := Lib.hid hW
      rw [← hW] at hw0 hw640 hq1 hq2
      obtain ⟨M, hM⟩ : ∃ M, M = Bs.poolT g p (r + 1) := ⟨_, rfl⟩
      rw [← hM] at hq5
      have cm := fun W hg hs => PoolTime_any A1 c1 g p (r + 1) w.heap.size w1.heap.size W hg hs hl9
      rw [← hM] at cm
      have CM := Lib.hid cm
      have HQ5 := Lib.hid hq5
      clear h0 HX hv hF hW hM cm hq5 hnn
      go_wp2_with fail
      refine (C3.out).mono ?_
      rintro e w3 ⟨rfl, hb3⟩
      have HG3 := Lib.hid (HG2.out.below hb3 s2)
      have s3 := hb3.size
      have HB3 := Lib.hid (HB2.out.trans (hb3.mono (Nat.le_trans s1 s2)))
      clear hb3 C3
      obtain ⟨W3, rfl⟩ : ∃ W3, W3 = w3 := ⟨_, rfl⟩
      have hs3 : w1.heap.size ≤ W3.heap.size := Nat.le_trans s2 s3
      go_wp2
      go_loopw [7, 8] (fun s i wr => ∃ k : Nat, k ≤ g.length ∧ i = .int .i64 k ∧ (∃ t : Int, s = .int .i64 t ∧ t = Bs.sumZ ((g.take k).map (Bs.workF p)) ∧ 0 ≤ t ∧ t ≤ 80 * k) ∧ ∃ n, wr = W3.drewN n) (fun _ i _ => g.length - (intOf i).toNat)
      case atStart => exact ⟨0, Nat.zero_le _, rfl, ⟨0, rfl, by simp [Bs.sumZ], by omega, by omega⟩, 0, rfl⟩
      case round =>
        obtain ⟨k, hk, rfl, ⟨t, rfl, ht, ht0, ht1⟩, m, rfl⟩ := hrel
        by_cases hlt : k < g.length
        · obtain ⟨bg, og, N, cN, rfl, _, _, k0, k1, k2, k3, hnc, hcN, hN⟩ := HG3.out k hlt
          obtain ⟨⟨u0, u1⟩, _, _, u2, u3⟩ := HT.out k hlt
          have hst := HS.out k hlt
          rw [← ht] at hst
          have hff : Bs.workF p g[k] = if g[k].pool == p then g[k].time * g[k].units else 0 := rfl
          obtain ⟨b0, b1⟩ := Bs.work_b u0 u1 u2 u3
          have d1 : (k : Int) < (g.length : Int) := by omega
          clear k1 hN hnc ht hq1 hq2 hq3 hq4
          generalize g[k].pool = pv at *
          generalize g[k].time = tv at *
          generalize g[k].units = uv at *
          by_cases hpv : pv = p
          · have hq : (pv == p) = true := by simp [hpv]
            rw [hff, hq] at hst
            simp only [if_true] at hst
            have H1 := Lib.hid hst
            generalize hm : tv * uv = m2 at *
            have hw1 : IntKind.i64.wrap (tv * uv) = tv * uv := IntWalk.i64_in _ ⟨by omega, by omega⟩
            have hw2 : IntKind.i64.wrap (t + m2) = t + m2 := IntWalk.i64_in _ ⟨by omega, by omega⟩
            clear hst hff hpv u0 u1 u2 u3
            go_wp2
            go_quiet (fail)
            go_wp2
            go_roundw
            case rel => exact ⟨k + 1, by omega, by go_num, ⟨t + m2, by first | rfl | rw [hm], H1.out.symm, by omega, by omega⟩, _, by first | rfl | rw [World.drewN_drewN]⟩
            case measure => simp [intOf]; omega
          · have hq : (pv == p) = false := by simp [hpv]
            rw [hff, hq] at hst
            simp only [Bool.false_eq_true, if_false, Int.add_zero] at hst
            have H1 := Lib.hid hst
            clear hst hff hpv b0 b1
            go_wp2
            go_roundw
            case rel => exact ⟨k + 1, by omega, by go_num, ⟨t, rfl, H1.out.symm, by omega, by omega⟩, _, by first | rfl | rw [World.drewN_drewN]⟩
            case measure => simp [intOf]; omega
        · have e : g.take k = g := List.take_of_length_le (by omega)
          rw [e] at ht
          have htW : t = W := by rw [ht, HW.out]; rfl
          subst htW
          have C5 := Lib.hid (CM.out (W3.drewN m) (HG3.out.drewN m) hs3)
          have hwr : IntKind.i64.wrap (r + 1) = r + 1 := IntWalk.i64_in _ ⟨by omega, by omega⟩
          clear ht e HT HS
          go_wp2_with fail
          refine (C5.out).mono ?_
          rintro e w5 ⟨rfl, hb5⟩
          have HB5 := Lib.hid ((HB3.out.drewN m).trans (hb5.mono (Nat.le_trans s1 hs3)))
          clear hb5 C5 hwr
          generalize hnr : n * r = nr at *
          have hw1 : IntKind.i64.wrap (n * r) = n * r := IntWalk.i64_in _ ⟨by omega, by omega⟩
          have hw2 : IntKind.i64.wrap (t + r) = t + r := IntWalk.i64_in _ ⟨by omega, by omega⟩
          have e1 : decide (t ≤ nr) = true := by simpa using hq1
          have e2 : decide (nr < t + r) = true := by simpa using hq2
          rcases HQ5.out with h | ⟨h, hm1, hm2⟩
          · have e3 : (r == 8) = true := by simp [h]
            clear h
            go_wp2
            try go_quiet (fail)
            go_wp2
            go_ret
            exact ⟨rfl, by first | exact HB5.out | exact HB5.out.drewN _⟩
          · have e3 : (r == 8) = false := by simp [h]
            have e4 : decide (M ≤ n) = true := by simpa using hm1
            have e5 : decide (0 ≤ M) = true := by simpa using hm2
            clear h
            go_wp2
            try go_quiet (fail)
            go_wp2
            go_ret
            exact ⟨rfl, by first | exact HB5.out | exact HB5.out.drewN _⟩
end Go.Proofs.Ytcddjgiclnnilab
