/-
  THE WALK OF laws.FnPoolTimeSum.
-/
import Derived.Test.YtcddjgiclnnilabX6
import Derived.Test.YtcddjgiclnnilabRI
import Derived.Test.YtcddjgiclnnilabMath30
namespace Go.Proofs.Ytcddjgiclnnilab
open Go.RowKit
set_option maxRecDepth 20000 in
set_option maxHeartbeats 6400000 in
theorem fnPoolTimeSum_walk (A : Option Addr) (c : Nat) (l : List Int) (w : World) (hb : RB w 0 w.heap.size A l) (hlc : l.length ≤ c ∧ c ≤ maxLen) :
    Calls Try.prog 14 #[.slice A l.length c] w fun e w' => e = .returned (.bool true) ∧ Below w.heap.size w w' := by
  have hl63 : l.length ≤ 9223372036854775807 := by have := hlc.2; unfold maxLen at this; omega
  by_cases hbig : 1048576 < l.length
  · go_enter Try.func14, Try.ntmps14
    go_wp2
    go_ret
    exact ⟨rfl, Below.refl _ _⟩
  · have C1 := Lib.hid (DrawPoolTime_any A c l w hb hlc.1 hlc.2)
    clear hb
    go_enter Try.func14, Try.ntmps14
    go_wp2_with fail
    refine (C1.out).mono ?_
    rintro e w1 ⟨⟨A1, c1, g, p, r, rfl, hg, hg16, hgc, hcm⟩, hb1⟩
    have HG := Lib.hid hg
    have s1 := hb1.size
    have hl9 : g.length ≤ 9223372036854775807 := by omega
    obtain ⟨n, hn⟩ : ∃ n, n = Bs.poolT g p r := ⟨_, rfl⟩
    have c2 := PoolTime_any A1 c1 g p r w.heap.size w1.heap.size w1 HG.out (Nat.le_refl _) hl9
    rw [← hn] at c2
    have C2 := Lib.hid c2
    have CS := Lib.hid (fun w2 hg hs => PoolTimeS_any A1 c1 g p r w.heap.size w1.heap.size w2 hg hs hl9)
    rw [← hn] at CS
    have hx : ¬ n < 0 → _ := fun h0 => Bs.pool_law hn h0
    have HX := Lib.hid hx
    have HB1 := Lib.hid hb1
    clear C1 hg hn c2 hb1 hx
    go_wp2_with fail
    refine (C2.out).mono ?_
    rintro e w2 ⟨rfl, hb2⟩
    have HG2 := Lib.hid (HG.out.below hb2 (Nat.le_refl _))
    have s2 := hb2.size
    have HB2 := Lib.hid (HB1.out.trans (hb2.mono s1))
    have C3 := Lib.hid (CS.out w2 HG2.out s2)
    clear hb2 C2
    have hne : (n != n) = false := by simp
    by_cases h0 : n < 0
    · have hd : decide (n < 0) = true := by simpa using h0
      clear h0 HX
      go_wp2_with fail
      refine (C3.out).mono ?_
      rintro e w3 ⟨rfl, hb3⟩
      have HG3 := Lib.hid (HG2.out.below hb3 s2)
      have s3 := hb3.size
      have HB3 := Lib.hid (HB2.out.trans (hb3.mono (Nat.le_trans s1 s2)))
      have C4 := Lib.hid (CS.out w3 HG3.out (Nat.le_trans s2 s3))
      clear hb3 C3
      go_wp2_with fail
      refine (C4.out).mono ?_
      rintro e w4 ⟨rfl, hb4⟩
      have HB4 := Lib.hid (HB3.out.trans (hb4.mono (Nat.le_trans (Nat.le_trans s1 s2) s3)))
      clear hb4 C4
      have heq : (n == n) = true := by simp
      go_wp2
      go_ret
      exact ⟨rfl, HB4.out⟩
    · have hd : decide (n < 0) = false := by simpa using h0
      obtain ⟨hv, hr4, hr8, hw0, hw640, hn200, hq1, hq2, hq3, hq4, hq5⟩ := HX.out (by omega)
      have hF := valid_fine hv
      have h8 := Bs.fine_len hF
      have HT := Lib.hid (fun i (hi : i < g.length) => And.intro (Bs.fine_time' hF hi) (Bs.fine_task hF hi))
      have HS := Lib.hid (fun k hk => Bs.sumZ_takeT g Bs.workA k hk)
      have HP := Lib.hid (Bs.pool_sum hv hr4 hr8)
      have HE := Lib.hid (Bs.poolLo_end hF)
      have HZ := Lib.hid (Bs.poolLo_start g)
      have CM := Lib.hid (fun (k : Int) W hg hs => PoolTime_any A1 c1 g k r w.heap.size w1.heap.size W hg hs hl9)
      obtain ⟨V, hV⟩ : ∃ V, V = Bs.workS g := ⟨_, rfl⟩
      have HV := Lib.hid hV
      obtain ⟨LO, hLO⟩ : ∃ LO : Nat → Int, LO = Bs.poolLo g := ⟨_, rfl⟩
      have HLO := Lib.hid hLO
      clear h0 HX hv hF hw0 hw640 hn200 hq1 hq2 hq3 hq4 hq5 hV hLO
      go_wp2_with fail
      refine (C3.out).mono ?_
      rintro e w3 ⟨rfl, hb3⟩
      have HG3 := Lib.hid (HG2.out.below hb3 s2)
      have s3 := hb3.size
      have HB3 := Lib.hid (HB2.out.trans (hb3.mono (Nat.le_trans s1 s2)))
      clear hb3 C3
      obtain ⟨W3, rfl⟩ : ∃ W3, W3 = w3 := ⟨_, rfl⟩
      have hs3 : w1.heap.size ≤ W3.heap.size := Nat.le_trans s2 s3
      go_wp2
      go_loopw [7, 9] (fun s i wr => ∃ k : Nat, k ≤ g.length ∧ i = .int .i64 k ∧ (∃ t : Int, s = .int .i64 t ∧ t = Bs.sumZ ((g.take k).map Bs.workA) ∧ 0 ≤ t ∧ t ≤ 80 * k) ∧ ∃ n, wr = W3.drewN n) (fun _ i _ => g.length - (intOf i).toNat)
      case atStart => exact ⟨0, Nat.zero_le _, rfl, ⟨0, rfl, by simp [Bs.sumZ], by omega, by omega⟩, 0, rfl⟩
      case round =>
        obtain ⟨k, hk, rfl, ⟨t, rfl, ht, ht0, ht1⟩, m, rfl⟩ := hrel
        by_cases hlt : k < g.length
        · obtain ⟨bg, og, N, cN, rfl, _, _, k0, k1, k2, k3, hnc, hcN, hN⟩ := HG3.out k hlt
          obtain ⟨⟨u0, u1⟩, _, _, u2, u3⟩ := HT.out k hlt
          have hst := HS.out k hlt
          rw [← ht] at hst
          have hff : Bs.workA g[k] = g[k].time * g[k].units := rfl
          obtain ⟨b0, b1⟩ := Bs.work_b u0 u1 u2 u3
          have d1 : (k : Int) < (g.length : Int) := by omega
          have d2 : (0 : Int) ≤ (k : Int) := by omega
          clear k1 hN hnc ht k2
          rw [hff] at hst
          clear hff
          generalize g[k].time = tv at *
          generalize g[k].units = uv at *
          have H1 := Lib.hid hst
          generalize hm : tv * uv = m2 at *
          have hw1 : IntKind.i64.wrap (tv * uv) = tv * uv := IntWalk.i64_in _ ⟨by omega, by omega⟩
          have hw2 : IntKind.i64.wrap (t + m2) = t + m2 := IntWalk.i64_in _ ⟨by omega, by omega⟩
          clear hst u0 u1 u2 u3
          go_wp2
          go_quiet (fail)
          go_wp2
          go_roundw
          case rel => exact ⟨k + 1, by omega, by go_num, ⟨t + m2, by first | rfl | rw [hm], H1.out.symm, by omega, by omega⟩, _, by first | rfl | rw [World.drewN_drewN]⟩
          case measure => simp [intOf]; omega
        · have e : g.take k = g := List.take_of_length_le (by omega)
          rw [e] at ht
          have htW : t = V := by rw [ht, HV.out]; rfl
          subst htW
          obtain ⟨W4, hW4⟩ : ∃ W4, W4 = W3.drewN m := ⟨_, rfl⟩
          have HG4 := Lib.hid (show RG W4 w.heap.size w1.heap.size A1 g from by rw [hW4]; exact HG3.out.drewN m)
          have HB4 := Lib.hid (show Below w.heap.size w W4 from by rw [hW4]; exact HB3.out.drewN m)
          have hs4 : w1.heap.size ≤ W4.heap.size := by rw [hW4]; exact hs3
          rw [← hW4]
          obtain ⟨e0, e1, e2⟩ := HE.out
          rw [← HV.out] at e0 e1 e2
          rw [← HLO.out] at e0
          have HP2 := Lib.hid (show ∀ k : Nat, k < 3 → ∃ n m : Int, Bs.poolT g k r = n ∧ n * r = m ∧ 0 ≤ m ∧ m ≤ 700 ∧ LO (k + 1) ≤ LO k + m ∧ LO k + m < LO (k + 1) + r from by rw [HLO.out]; exact HP.out)
          have z0 : LO 0 = 0 := by rw [HLO.out]; exact HZ.out
          clear ht e HT HS hW4 HP HE HZ HV HLO HG3 HB3
          go_wp2
          clear hlt hk
          go_loopw [8, 10] (fun s i wr => ∃ k : Nat, k ≤ 3 ∧ i = .int .i64 k ∧ (∃ a : Int, s = .int .i64 a ∧ LO k ≤ a ∧ ((k = 0 → a = LO k) ∧ (k = 1 → a < LO k + r) ∧ (k = 2 → a < LO k + r + r - 1) ∧ (k = 3 → a < LO k + r + r + r - 2)) ∧ 0 ≤ a ∧ a ≤ 700 * k) ∧ Below W4.heap.size W4 wr) (fun _ i _ => 3 - (intOf i).toNat)
          case atStart => exact ⟨0, by omega, rfl, ⟨0, rfl, by omega, ⟨by omega, by omega, by omega, by omega⟩, by omega, by omega⟩, Below.refl _ _⟩
          case round =>
            obtain ⟨q, hq, rfl, ⟨a, rfl, ha0, ha1, ha2, ha3⟩, hbr⟩ := hrel
            have sr := hbr.size
            have HBR := Lib.hid hbr
            have HGr := Lib.hid (HG4.out.below hbr hs4)
            clear hbr
            by_cases hlt : q < 3
            · obtain ⟨n1, m1, hp1, hp2, hp3, hp4, hp5, hp6⟩ := HP2.out q hlt
              have c5 := CM.out (q : Int) wr HGr.out (Nat.le_trans hs4 sr)
              rw [hp1] at c5
              have C5 := Lib.hid c5
              have d3 : (q : Int) < 3 := by omega
              have hw1 : IntKind.i64.wrap (n1 * r) = m1 := by rw [hp2]; exact IntWalk.i64_in _ ⟨by omega, by omega⟩
              have hw2 : IntKind.i64.wrap (a + m1) = a + m1 := IntWalk.i64_in _ ⟨by omega, by omega⟩
              clear c5 hp1 hp2
              go_wp2_with fail
              refine (C5.out).mono ?_
              rintro e w5 ⟨rfl, hb5⟩
              have HB5 := Lib.hid (HBR.out.trans (hb5.mono sr))
              clear hb5 C5
              go_wp2
              go_roundw
              case rel => exact ⟨q + 1, by omega, by go_num, ⟨a + m1, rfl, by omega, ⟨by omega, by omega, by omega, by omega⟩, by omega, by omega⟩, HB5.out⟩
              case measure => simp [intOf]; omega
            · have hq3 : q = 3 := by omega
              subst hq3
              have hw3 : IntKind.i64.wrap (3 * r) = 3 * r := IntWalk.i64_in _ ⟨by omega, by omega⟩
              have hw4 : IntKind.i64.wrap (t + 3 * r) = t + 3 * r := IntWalk.i64_in _ ⟨by omega, by omega⟩
              have e3 : decide (t ≤ a) = true := by simp; omega
              have e4 : decide (a < t + 3 * r) = true := by simp; omega
              go_wp2
              try go_quiet (fail)
              go_wp2
              go_ret
              exact ⟨rfl, by first | exact HB4.out.trans (HBR.out.mono (by have := HB4.out.size; omega)) | exact (HB4.out.trans (HBR.out.mono (by have := HB4.out.size; omega))).drewN _⟩
end Go.Proofs.Ytcddjgiclnnilab
