/-
  THE WALK OF laws.FnHeadTimes.
-/
import Derived.Test.YtiokblodjhmjmaaDrHeadTimes
import Derived.Test.YtiokblodjhmjmaaL1
import Derived.Test.YtiokblodjhmjmaaMath5
import Derived.Test.YtiokblodjhmjmaaW15
namespace Go.Proofs.Ytiokblodjhmjmaa
open Go.RowKit
set_option maxRecDepth 20000 in
set_option maxHeartbeats 6400000 in
theorem fnHeadTimes_walk (A : Option Addr) (c : Nat) (l : List Int) (w : World) (hb : RB w 0 w.heap.size A l) (hlc : l.length ≤ c ∧ c ≤ maxLen) :
    Calls Try.prog 11 #[.slice A l.length c] w fun e w' => e = .returned (.bool true) ∧ Below w.heap.size w w' := by
  have hl63 : l.length ≤ 9223372036854775807 := by have := hlc.2; unfold maxLen at this; omega
  by_cases hbig : 1048576 < l.length
  · go_enter Try.func11, Try.ntmps11
    go_wp2
    go_ret
    exact ⟨rfl, Below.refl _ _⟩
  · have C1 := Lib.hid (DrawHeadTimes_any A c l w hb hlc.1 hlc.2)
    clear hb
    go_enter Try.func11, Try.ntmps11
    go_wp2_with fail
    refine (C1.out).mono ?_
    rintro e w1 ⟨⟨A1, c1, g, rfl, hg, hg16, hgc, hcm⟩, hb1⟩
    have HG := Lib.hid hg
    have s1 := hb1.size
    have hl9 : g.length ≤ 9223372036854775807 := by omega
    obtain ⟨L, hL⟩ : ∃ L, L = if Bs.valid g then Bs.headsC g else [] := ⟨_, rfl⟩
    have c2 := HeadTimes_any A1 c1 g w.heap.size w1.heap.size w1 HG.out (Nat.le_refl _) hl9
    have hlen := HeadTimes_len g
    rw [← hL] at c2 hlen
    have C2 := Lib.hid c2
    have CS := Lib.hid (fun w2 hg hs => HeadTimesS_any A1 c1 g w.heap.size w1.heap.size w2 hg hs hl9)
    rw [← hL] at CS
    have HL := Lib.hid hL
    clear C1 hg hL c2
    go_wp2_with fail
    refine (C2.out).mono ?_
    rintro e w2 hr2
    obtain ⟨A2, c2, rfl, q2, hb2, hlc2, hcm2⟩ := hr2.ri
    have g2 := HG.out.below hb2 (Nat.le_refl _)
    have s2 := hb2.size
    have C3 := Lib.hid (CS.out w2 g2 s2)
    have HQ2 := Lib.hid q2
    have HG2 := Lib.hid g2
    have HB2 := Lib.hid (hb1.trans (hb2.mono s1))
    clear hr2 q2 g2 hb2 C2
    go_wp2_with fail
    refine (C3.out).mono ?_
    rintro e w3 hr3
    obtain ⟨A3, c3, rfl, q3, hb3, hlc3, hcm3⟩ := hr3.ri
    have s3 := hb3.size
    have C4 := Lib.hid (equalInts_same A2 c2 A3 c3 L _ _ _ _ w3 (HQ2.out.below hb3 (Nat.le_refl _)) q3 (by omega))
    have HG3 := Lib.hid (HG2.out.below hb3 s2)
    have HQ3 := Lib.hid (HQ2.out.below hb3 (Nat.le_refl _))
    have HB3 := Lib.hid (HB2.out.trans (hb3.mono (Nat.le_trans s1 s2)))
    clear hr3 q3 hb3 C3 HQ2 HB2 HG2
    go_wp2_with fail
    refine (C4.out).mono ?_
    rintro e w4 ⟨rfl, n, rfl⟩
    clear C4
    obtain ⟨W3, rfl⟩ : ∃ W3, W3 = w3 := ⟨_, rfl⟩
    have HT := Lib.hid (fun hl => heads_law (g := g) HL.out hl)
    clear HL
    by_cases hlen : L.length = g.length
    · have hne : ((L.length : Int) != (g.length : Int)) = false := by simp [hlen]
      have HT := Lib.hid (HT.out hlen)
      have hll := Nat.le_of_eq hlen.symm
      clear hlen
      go_wp2
      go_loopw [5, 6, 7, 8] (fun i _ _ _ wr => ∃ k : Nat, i = .int .i64 (k : Int) ∧ ∃ n, wr = W3.drewN n) (fun i _ _ _ _ => g.length + 1 - (intOf i).toNat)
      case atStart => exact ⟨0, rfl, n, rfl⟩
      case round =>
        obtain ⟨i, rfl, m, rfl⟩ := hrel
        by_cases hi : i < g.length
        · have hiL : i < L.length := by omega
          obtain ⟨b, o, rfl, _, _, hc0⟩ := HQ3.out i hiL
          obtain ⟨b1, o1, N, cN, rfl, _, _, k0, k1, k2, k3, hnc, hcN, hN⟩ := HG3.out i hi
          obtain ⟨t0, t1, t2, t3, t4, t5⟩ := HT.out i hi
          have ey := gi_at hiL
          have b0 : (0 : Int) ≤ (i : Int) := by omega
          have b1' : (i : Int) < (L.length : Int) := by omega
          have b2 : (i : Int) < (g.length : Int) := by omega
          have H4 := Lib.hid t4
          have H5 := Lib.hid t5
          have HN := Lib.hid hN
          rw [ey] at t0 t1 H4 H5
          clear t4 t5 k0 k2 k3 hN ey t2 t3
          generalize L[i] = y at *
          generalize hneeds : g[i].needs = nd at *
          clear hneeds
          by_cases hnd : nd.length = 0
          · have hy : y = 0 := by rcases H5.out with h | h <;> omega
            clear H4 H5
            have hq : (y == 0) = true := by simp [hy]
            have HY := Lib.hid hy
            clear hy
            have hq2 : ((nd.length : Int) == 0) = true := by simp [hnd]
            have hnd' : nd.length ≤ 0 := by omega
            clear hnd
            go_wp2
            go_loopw [6, 7, 8] (fun s j _ wr => s = .bool true ∧ j = .int .i64 0 ∧ ∃ n, wr = W3.drewN n) (fun _ _ _ _ => 0)
            case atStart => exact ⟨rfl, rfl, _, by first | rfl | rw [World.drewN_drewN]⟩
            case round =>
              obtain ⟨rfl, rfl, m2, rfl⟩ := hrel
              go_wp2
              go_roundw
              case rel => exact ⟨i + 1, by go_num, _, by first | rfl | rw [World.drewN_drewN]⟩
              case measure => simp [intOf]; omega
          · have hany : nd.any (fun x => Bs.gi L x.toNat + Bs.timeOf g x.toNat == y) = true := by
              rcases H5.out with h | h
              · exact absurd h.1 hnd
              · exact h.2
            have hq2 : ((nd.length : Int) == 0) = false := by rw [beq_eq_false_iff_ne]; omega
            have HIT := Lib.hid (fun j (hj : j < nd.length) => any_take nd (fun x => Bs.gi L x.toNat + Bs.timeOf g x.toNat == y) j hj)
            generalize (fun x : Int => Bs.gi L x.toNat + Bs.timeOf g x.toNat == y) = hit at *
            have HA := Lib.hid hany
            clear hany H5 hnd
            go_wp2
            go_loopw [6, 7, 8] (fun s j _ wr => ∃ k : Nat, j = .int .i64 (k : Int) ∧ s = .bool ((nd.take k).any hit) ∧ k ≤ nd.length ∧ ∃ n, wr = W3.drewN n) (fun _ j _ _ => nd.length + 1 - (intOf j).toNat)
            case atStart => exact ⟨0, rfl, by simp, Nat.zero_le _, _, by first | rfl | rw [World.drewN_drewN]⟩
            case round =>
              obtain ⟨j, rfl, rfl, hjl, m2, rfl⟩ := hrel
              by_cases hj : j < nd.length
              · obtain ⟨bn, on, rfl, _, _, hcn⟩ := HN.out j hj
                obtain ⟨x0, x1, x2⟩ := H4.out nd[j] (List.getElem_mem hj)
                have hit1 := HIT.out j hj
                generalize nd[j] = x at *
                obtain ⟨v, rfl⟩ : ∃ v : Nat, x = (v : Int) := ⟨x.toNat, by omega⟩
                rw [Int.toNat_natCast] at x2 hit1
                have hv : v < g.length := by omega
                have hvL : v < L.length := by omega
                obtain ⟨b', o', e, _, _, hcv⟩ := HQ3.out v hvL
                cases e
                obtain ⟨b1', o1', N', cN', e, _, _, k0', k1', k2', k3', _, _, _⟩ := HG3.out v hv
                cases e
                obtain ⟨u0, u1, u2, u3, _, _⟩ := HT.out v hv
                rw [time_at hv, gi_at hvL] at x2 hit1
                rw [gi_at hvL] at u0 u1
                have d0 : (0 : Int) ≤ (v : Int) := by omega
                have d1 : (v : Int) < (L.length : Int) := by omega
                have d2 : (v : Int) < (g.length : Int) := by omega
                clear k1' k2' k3'
                generalize L[v] = yv at *
                generalize g[v].time = tv at *
                have hd2 : decide (y < yv + tv) = false := by simp; omega
                have hw : IntKind.i64.wrap (yv + tv) = yv + tv := IntWalk.i64_in _ ⟨by omega, by omega⟩
                have H1 := Lib.hid hit1
                clear hit1
                generalize (nd.take j).any hit = sb at *
                cases sb
                · by_cases heq : yv + tv = y
                  · have hq3 : (yv + tv == y) = true := by simp [heq]
                    have H1 := Lib.hid (show (nd.take (j + 1)).any hit = true from by rw [H1.out, hq3]; rfl)
                    clear heq
                    go_wp2
                    go_quiet (fail)
                    go_wp2
                    go_quiet (fail)
                    go_wp2
                    go_roundw
                    case rel => exact ⟨j + 1, by go_num, by rw [H1.out], by omega, _, by first | rfl | rw [World.drewN_drewN]⟩
                    case measure => simp [intOf]; omega
                  · have hq3 : (yv + tv == y) = false := by simp [heq]
                    have H1 := Lib.hid (show (nd.take (j + 1)).any hit = false from by rw [H1.out, hq3]; rfl)
                    clear heq
                    go_wp2
                    go_quiet (fail)
                    go_wp2
                    go_quiet (fail)
                    go_wp2
                    go_roundw
                    case rel => exact ⟨j + 1, by go_num, by rw [H1.out], by omega, _, by first | rfl | rw [World.drewN_drewN]⟩
                    case measure => simp [intOf]; omega
                · have H1 := Lib.hid (show (nd.take (j + 1)).any hit = true from by rw [H1.out]; rfl)
                  go_wp2
                  go_quiet (fail)
                  go_wp2
                  go_quiet (fail)
                  go_wp2
                  go_roundw
                  case rel => exact ⟨j + 1, by go_num, by rw [H1.out], by omega, _, by first | rfl | rw [World.drewN_drewN]⟩
                  case measure => simp [intOf]; omega
              · have hsb : (nd.take j).any hit = true := by rw [List.take_of_length_le (by omega)]; exact HA.out
                generalize (nd.take j).any hit = sb at *
                subst hsb
                go_wp2
                go_roundw
                case rel => exact ⟨i + 1, by go_num, _, by first | rfl | rw [World.drewN_drewN]⟩
                case measure => simp [intOf]; omega
        · go_wp2
          go_ret
          exact ⟨rfl, HB3.out.drewN _⟩
    · have hne : ((L.length : Int) != (g.length : Int)) = true := by simp; omega
      clear hlen HT
      have hs3 : w1.heap.size ≤ (W3.drewN n).heap.size := Nat.le_trans s2 s3
      go_wp2_with fail
      refine (CS.out (W3.drewN n) (HG3.out.drewN n) hs3).mono ?_
      rintro e w5 hr5
      obtain ⟨A5, c5, rfl, q5, hb5, _, _⟩ := hr5.ri
      have s5 := hb5.size
      have C6 := Lib.hid (equalInts_same A2 c2 A5 c5 L _ _ _ _ w5 ((HQ3.out.drewN n).below hb5 s3) q5 (by omega))
      have HB5 := Lib.hid (((HB3.out.drewN n).trans (hb5.mono (Nat.le_trans (Nat.le_trans s1 s2) s3))))
      clear hr5 q5 hb5
      go_wp2_with fail
      refine (C6.out).mono ?_
      rintro e w6 ⟨rfl, n6, rfl⟩
      go_wp2
      go_ret
      exact ⟨rfl, HB5.out.drewN _⟩
end Go.Proofs.Ytiokblodjhmjmaa
