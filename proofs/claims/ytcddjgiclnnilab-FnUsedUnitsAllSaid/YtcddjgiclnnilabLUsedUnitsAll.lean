/-
  THE WALK OF laws.FnUsedUnitsAll.
-/
import Derived.Test.YtcddjgiclnnilabX6
import Derived.Test.YtcddjgiclnnilabRI
import Derived.Test.YtcddjgiclnnilabLSum
import Derived.Test.YtcddjgiclnnilabMath32
namespace Go.Proofs.Ytcddjgiclnnilab
open Go.RowKit
set_option maxRecDepth 20000 in
set_option maxHeartbeats 1600000 in
theorem fnUsedUnitsAll_walk (A : Option Addr) (c : Nat) (l : List Int) (w : World) (hb : RB w 0 w.heap.size A l) (hlc : l.length ≤ c ∧ c ≤ maxLen) :
    Calls Try.prog 10 #[.slice A l.length c] w fun e w' => e = .returned (.bool true) ∧ Below w.heap.size w w' := by
  have hl63 : l.length ≤ 9223372036854775807 := by have := hlc.2; unfold maxLen at this; omega
  by_cases hbig : 1048576 < l.length
  · go_enter Try.func10, Try.ntmps10
    go_wp2
    go_ret
    exact ⟨rfl, Below.refl _ _⟩
  · have C1 := Lib.hid (DrawUsedUnits_any A c l w hb hlc.1 hlc.2)
    clear hb
    go_enter Try.func10, Try.ntmps10
    go_wp2_with fail
    refine (C1.out).mono ?_
    rintro e w1 ⟨⟨A1, c1, g, A0, c0, d, rfl, hg, hg16, hgc, hcm, hd, hd100, hdc, hdm⟩, hb1⟩
    have HG := Lib.hid hg
    have HD := Lib.hid hd
    have s1 := hb1.size
    have hl9 : g.length ≤ 9223372036854775807 := by omega
    have hd9 : d.length ≤ 9223372036854775807 := by omega
    obtain ⟨L, hL⟩ : ∃ L, L = Bs.usedL g d := ⟨_, rfl⟩
    have c2 := UsedUnits_any A1 c1 g A0 c0 d w.heap.size w1.heap.size w.heap.size w1.heap.size w1 HG.out (Nat.le_refl _) HD.out (Nat.le_refl _) hl9 hd9
    have hlen : L.length ≤ 1000 := by rw [hL]; have := Bs.usedL_len g d; omega
    rw [← hL] at c2
    have C2 := Lib.hid c2
    have CS := Lib.hid (fun w2 hg hd hs => UsedUnitsS_any A1 c1 g A0 c0 d w.heap.size w1.heap.size w.heap.size w1.heap.size w2 hg hs hd hs hl9 hd9)
    rw [← hL] at CS
    have HL := Lib.hid hL
    have HB1 := Lib.hid hb1
    clear C1 hg hd hL c2 hb1
    go_wp2_with fail
    refine (C2.out).mono ?_
    rintro e w2 hr2
    obtain ⟨A2, c2, rfl, q2, hb2, hlc2, hcm2⟩ := hr2.ri
    have s2 := hb2.size
    have HQ2 := Lib.hid q2
    have HG2 := Lib.hid (HG.out.below hb2 (Nat.le_refl _))
    have HD2 := Lib.hid (HD.out.below hb2 (Nat.le_refl _))
    have HB2 := Lib.hid (HB1.out.trans (hb2.mono s1))
    have C3 := Lib.hid (CS.out w2 HG2.out HD2.out s2)
    clear hr2 q2 hb2 C2 HG HD HB1
    go_wp2_with fail
    refine (C3.out).mono ?_
    rintro e w3 hr3
    obtain ⟨A3, c3, rfl, q3, hb3, hlc3, hcm3⟩ := hr3.ri
    have s3 := hb3.size
    have C4 := Lib.hid (equalInts_same A2 c2 A3 c3 L _ _ _ _ w3 (HQ2.out.below hb3 (Nat.le_refl _)) q3 (by omega))
    have HG3 := Lib.hid (HG2.out.below hb3 s2)
    have HD3 := Lib.hid (HD2.out.below hb3 s2)
    have HQ3 := Lib.hid (HQ2.out.below hb3 (Nat.le_refl _))
    have HB3 := Lib.hid (HB2.out.trans (hb3.mono (Nat.le_trans s1 s2)))
    clear hr3 q3 hb3 C3 HQ2 HB2 HG2 HD2
    go_wp2_with fail
    refine (C4.out).mono ?_
    rintro e w4 ⟨rfl, n, rfl⟩
    clear C4
    obtain ⟨W3, rfl⟩ : ∃ W3, W3 = w3 := ⟨_, rfl⟩
    have hs3 : w1.heap.size ≤ (W3.drewN n).heap.size := Nat.le_trans s2 s3
    have C5 := ValidGraph_any A1 c1 g w.heap.size w1.heap.size (W3.drewN n) (HG3.out.drewN n) hs3 hl9
    obtain ⟨hv, hhv⟩ : ∃ hv, hv = Bs.valid g := ⟨_, rfl⟩
    rw [← hhv] at C5
    have HHV := Lib.hid hhv
    have C5 := Lib.hid C5
    clear hhv
    go_wp2_with fail
    refine (C5.out).mono ?_
    rintro e w5 ⟨rfl, hb5⟩
    have s5 := hb5.size
    have HG5 := Lib.hid ((HG3.out.drewN n).below hb5 hs3)
    have HD5 := Lib.hid ((HD3.out.drewN n).below hb5 hs3)
    have HQ5 := Lib.hid ((HQ3.out.drewN n).below hb5 s3)
    have HB5 := Lib.hid (((HB3.out.drewN n).trans (hb5.mono (Nat.le_trans (Nat.le_trans s1 s2) s3))))
    clear hb5 C5 HG3 HD3 HQ3 HB3
    obtain ⟨W5, rfl⟩ : ∃ W5, W5 = w5 := ⟨_, rfl⟩
    have hs5 : w1.heap.size ≤ W5.heap.size := Nat.le_trans hs3 s5
    have hs25 : w2.heap.size ≤ W5.heap.size := Nat.le_trans s3 s5
    cases hv
    · clear HHV HL
      have hsA : w1.heap.size ≤ (W5).heap.size := hs5
      go_wp2_with fail
      refine (CS.out (W5) HG5.out HD5.out hsA).mono ?_
      rintro e wA hrA
      obtain ⟨AA, cA, rfl, qA, hbA, _, _⟩ := hrA.ri
      have sA := hbA.size
      have CB := Lib.hid (equalInts_same A2 c2 AA cA L _ _ _ _ wA (HQ5.out.below hbA (by first | exact hsA | omega)) qA (by omega))
      have HBA := Lib.hid (HB5.out.trans (hbA.mono (Nat.le_trans s1 hsA)))
      clear hrA qA hbA
      go_wp2_with fail
      refine (CB.out).mono ?_
      rintro e wB ⟨rfl, nB, rfl⟩
      go_wp2
      go_ret
      exact ⟨rfl, HBA.out.drewN _⟩
    · have hvv : Bs.valid g = true := HHV.out.symm
      have hF := valid_fine hvv
      have h8 := Bs.fine_len hF
      obtain ⟨ua, ub, uc, hu1, hu2, hu3, hu4, hu5⟩ := Bs.used_all hvv
      obtain ⟨T, hT⟩ : ∃ T, T = Bs.sumZ (g.map fun t => t.units) := ⟨_, rfl⟩
      rw [← hT] at hu2
      have hsm : Bs.sumZ [ua, ub, uc] = T := by rw [← hu2]; simp only [Bs.sumZ]; omega
      obtain ⟨U, hU⟩ : ∃ U, U = [ua, ub, uc] := ⟨_, rfl⟩
      obtain ⟨Z, hZ⟩ : ∃ Z : List Int, Z = [0, 0, 0] := ⟨_, rfl⟩
      have HZS := Lib.hid (show Bs.sumZ Z = 0 from by rw [hZ]; decide)
      have HZP := Lib.hid (show ∀ x ∈ Z, 0 ≤ x ∧ x ≤ 100 from by rw [hZ]; simp)
      have hz0 := Bs.used_none hvv
      rw [← hZ] at hz0
      have hUl : U.length ≤ 1000 := by rw [hU]; simp
      have hZl : Z.length ≤ 1000 := by rw [hZ]; simp
      have hup : ∀ x ∈ U, 0 ≤ x ∧ x ≤ 100 := by intro x hx; rw [hU] at hx; simp only [List.mem_cons, List.not_mem_nil, or_false] at hx; rcases hx with rfl | rfl | rfl <;> assumption
      rw [← hU] at hu1 hsm
      have HUS := Lib.hid hsm
      have HUP := Lib.hid hup
      have HZ := Lib.hid hz0
      have HU1 := Lib.hid hu1
      have HTT := Lib.hid hT
      have HS := Lib.hid (fun k (hk : k < g.length) => Bs.units_take hk)
      have HT := Lib.hid (fun i (hi : i < g.length) => Bs.fine_task hF hi)
      have C7 := Lib.hid (fun A c (q : List Int) lo' hi' W hg hs hd hh hq => UsedUnits_any A1 c1 g A c q w.heap.size w1.heap.size lo' hi' W hg hs hd hh hl9 hq)
      clear hvv hF HHV HL CS hu1 hu2 hT hsm hU hZ hup hz0
      go_wp2
      go_loopw [6, 7, 8] (fun s nn i wr => ∃ (k : Nat) (A3 : Option Addr) (c3 : Nat), k ≤ g.length ∧ i = .int .i64 (k : Int) ∧ s = .slice A3 (Bs.rgZ k).length c3 ∧ (∃ t : Int, nn = .int .i64 t ∧ t = Bs.sumZ ((g.take k).map fun t => t.units) ∧ 0 ≤ t ∧ t ≤ 4 * k) ∧ OI wr W5.heap.size A3 c3 (Bs.rgZ k) ∧ Below W5.heap.size W5 wr) (fun _ _ i _ => g.length - (intOf i).toNat)
      case atStart => exact ⟨0, _, _, Nat.zero_le _, rfl, rfl, ⟨0, rfl, by simp [Bs.sumZ], by omega, by omega⟩, OI.new _ _ (Nat.le_refl _), (Below.refl _ _).alloc (Nat.le_refl _) _⟩
      case round =>
        obtain ⟨k, A3, c3, hk, rfl, rfl, ⟨t, rfl, ht, ht0, ht1⟩, ho, hb⟩ := hrel
        have sr := hb.size
        have HBr := Lib.hid hb
        have HOr := Lib.hid ho
        have hal := Bs.rgZ_len k
        have HAL := Lib.hid (Bs.rgZ_succ k)
        have hl16 : (Bs.rgZ k).length ≤ 16 := by omega
        have HGr := Lib.hid (HG5.out.below HBr.out hs5)
        clear hb ho hal
        by_cases hlt : k < g.length
        · have e1 : decide ((k : Int) < (g.length : Int)) = true := by simp; omega
          obtain ⟨bg, og, N, cN, rfl, hbg1, hbg, k0, k1, k2, k3, hnc, hcN, hN⟩ := HGr.out k hlt
          obtain ⟨_, _, u2, u3⟩ := HT.out k hlt
          have hst := HS.out k hlt
          rw [← ht] at hst
          have H1 := Lib.hid hst
          have d1 : (k : Int) < (g.length : Int) := by omega
          have d2 : (0 : Int) ≤ (k : Int) := by omega
          have hbw : bg < W5.heap.size := by omega
          have HK3 := Lib.hid k3
          clear k0 k1 k2 k3 hN hnc hst ht
          generalize Bs.rgZ k = M at *
          generalize g[k].units = uv at *
          have hw : IntKind.i64.wrap (t + uv) = t + uv := IntWalk.i64_in _ ⟨by omega, by omega⟩
          go_wp2_with (at_builtin; go_loud (refine push_int rfl _ _ rfl W5.heap.size A3 c3 M (k : Int) rfl (HOr.out.alloc _) wr.heap.size 1 rfl (by simp [go_sem]) (by omega) (by simp; omega) ?_; intro A5 c5 w6 ho6 hb6 _; have hk6 := ((((Below.refl W5.heap.size wr).alloc sr _).trans hb6).cell (p := ⟨bg, og + k * 4 + 3, none⟩) hbw).trans HK3.out; have HO6 := Lib.hid ho6; have HB6 := Lib.hid ((HBr.out.alloc sr _).trans hb6); clear ho6 hb6))
          go_wp2
          try go_quiet (fail)
          go_wp2
          go_roundw
          case rel => exact ⟨k + 1, A5, c5, by omega, by go_num, by rw [HAL.out, List.length_append]; rfl, ⟨t + uv, by rfl, H1.out.symm, by omega, by omega⟩, by rw [HAL.out]; first | exact HO6.out | exact HO6.out.drewN _, by first | exact HB6.out | exact HB6.out.drewN _⟩
          case measure => simp [intOf]; omega
        · have e : g.take k = g := List.take_of_length_le (by omega)
          rw [e, ← HTT.out] at ht
          subst ht
          have hkg : k = g.length := by omega
          have e1 : decide ((k : Int) < (g.length : Int)) = false := by simp; omega
          have HV1 := Lib.hid (show Bs.usedL g (Bs.rgZ k) = U from by rw [hkg]; exact HU1.out)
          clear hkg e
          generalize Bs.rgZ k = M at *
          have c8 := C7.out A3 c3 M W5.heap.size wr.heap.size wr HGr.out (Nat.le_trans hs5 sr) HOr.out.ri (Nat.le_refl _) (by omega)
          rw [HV1.out] at c8
          have C8 := Lib.hid c8
          have c9 := fun W hg hs => C7.out none 0 [] 0 0 W hg hs RI.nil (Nat.zero_le _) (by simp)
          rw [HZ.out, List.length_nil] at c9
          have C9 := Lib.hid c9
          have eT : (t == t) = true := by simp
          clear c8 c9 C7
          go_wp2_with fail
          with_reducible refine (C8.out).mono ?_
          rintro e w6 hr6
          obtain ⟨A6, c6, rfl, q6, hb6, hlc6, hcm6⟩ := hr6.ri
          have s6 := hb6.size
          have C10 := lsum_any A6 c6 U _ _ w6 q6 hUl HUP.out
          rw [HUS.out] at C10
          have C10 := Lib.hid C10
          have HG6 := Lib.hid (HGr.out.below hb6 (Nat.le_trans hs5 sr))
          have C9 := Lib.hid (C9.out w6 HG6.out (by omega))
          have HB6 := Lib.hid (HB5.out.trans ((HBr.out.trans (hb6.mono sr)).mono (Nat.le_trans s1 hs5)))
          clear hr6 q6 hb6 C8
          go_wp2_with fail
          with_reducible refine (C10.out).mono ?_
          rintro e w7 ⟨rfl, rfl⟩
          go_wp2_with fail
          with_reducible refine (C9.out).mono ?_
          rintro e w8 hr8
          obtain ⟨A8, c8, rfl, q8, hb8, hlc8, hcm8⟩ := hr8.ri
          have C11 := lsum_any A8 c8 Z _ _ w8 q8 hZl HZP.out
          rw [HZS.out] at C11
          have C11 := Lib.hid C11
          have HB8 := Lib.hid (HB6.out.trans (hb8.mono (by omega)))
          clear hr8 q8 hb8 C9
          go_wp2_with fail
          with_reducible refine (C11.out).mono ?_
          rintro e w9 ⟨rfl, rfl⟩
          go_wp2
          go_ret
          exact ⟨rfl, HB8.out⟩
end Go.Proofs.Ytcddjgiclnnilab
