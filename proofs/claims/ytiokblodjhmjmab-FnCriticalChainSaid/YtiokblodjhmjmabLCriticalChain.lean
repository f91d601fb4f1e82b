/-
  THE WALK OF laws.FnCriticalChain.
-/
import Derived.Test.YtiokblodjhmjmabDrCriticalChain
import Derived.Test.YtiokblodjhmjmabL1
import Derived.Test.YtiokblodjhmjmabMath10
namespace Go.Proofs.Ytiokblodjhmjmab
open Go.RowKit
set_option maxRecDepth 20000 in
set_option maxHeartbeats 6400000 in
theorem fnCriticalChain_walk (A : Option Addr) (c : Nat) (l : List Int) (w : World) (hb : RB w 0 w.heap.size A l) (hlc : l.length ≤ c ∧ c ≤ maxLen) :
    Calls Try.prog 3 #[.slice A l.length c] w fun e w' => e = .returned (.bool true) ∧ Below w.heap.size w w' := by
  have hl63 : l.length ≤ 9223372036854775807 := by have := hlc.2; unfold maxLen at this; omega
  by_cases hbig : 1048576 < l.length
  · go_enter Try.func3, Try.ntmps3
    go_wp2
    go_ret
    exact ⟨rfl, Below.refl _ _⟩
  · have C1 := Lib.hid (DrawCriticalChain_any A c l w hb hlc.1 hlc.2)
    clear hb
    go_enter Try.func3, Try.ntmps3
    go_wp2_with fail
    refine (C1.out).mono ?_
    rintro e w1 ⟨⟨A1, c1, g, rfl, hg, hg16, hgc, hcm⟩, hb1⟩
    have HG := Lib.hid hg
    have s1 := hb1.size
    have hl9 : g.length ≤ 9223372036854775807 := by omega
    obtain ⟨L, hL⟩ : ∃ L, L = chainL g := ⟨_, rfl⟩
    have c2 := CriticalChain_any A1 c1 g w.heap.size w1.heap.size w1 HG.out (Nat.le_refl _) hl9
    have hlen := CriticalChain_len g
    rw [← hL] at c2 hlen
    have C2 := Lib.hid c2
    have CS := Lib.hid (fun w2 hg hs => CriticalChainS_any A1 c1 g w.heap.size w1.heap.size w2 hg hs hl9)
    rw [← hL] at CS
    have HL := Lib.hid hL
    clear C1 hg hL c2
    go_wp2_with fail
    refine (C2.out).mono ?_
    rintro e w2 hr2
    obtain ⟨A2, c2, rfl, q2, hb2, hlc2, hcm2⟩ := hr2.ri
    have g2 := HG.out.below hb2 (Nat.le_refl _)
    have s2 := hb2.size
    have C3 := Lib.hid (CS.out w2 g2 s2)
    have HQ2 := Lib.hid q2
    have HG2 := Lib.hid g2
    have HB2 := Lib.hid (hb1.trans (hb2.mono s1))
    clear hr2 q2 g2 hb2 C2
    go_wp2_with fail
    refine (C3.out).mono ?_
    rintro e w3 hr3
    obtain ⟨A3, c3, rfl, q3, hb3, hlc3, hcm3⟩ := hr3.ri
    have s3 := hb3.size
    have C4 := Lib.hid (equalInts_same A2 c2 A3 c3 L _ _ _ _ w3 (HQ2.out.below hb3 (Nat.le_refl _)) q3 (by omega))
    have HG3 := Lib.hid (HG2.out.below hb3 s2)
    have HQ3 := Lib.hid (HQ2.out.below hb3 (Nat.le_refl _))
    have HB3 := Lib.hid (HB2.out.trans (hb3.mono (Nat.le_trans s1 s2)))
    clear hr3 q3 hb3 C3 HQ2 HB2 HG2
    go_wp2_with fail
    refine (C4.out).mono ?_
    rintro e w4 ⟨rfl, n, rfl⟩
    clear C4
    obtain ⟨W3, rfl⟩ : ∃ W3, W3 = w3 := ⟨_, rfl⟩
    by_cases h0 : L.length = 0
    · have hq : ((L.length : Int) == 0) = true := by simp [h0]
      clear h0 HL
      have hs3 : w1.heap.size ≤ (W3.drewN n).heap.size := Nat.le_trans s2 s3
      go_wp2_with fail
      refine (CS.out (W3.drewN n) (HG3.out.drewN n) hs3).mono ?_
      rintro e w5 hr5
      obtain ⟨A5, c5, rfl, q5, hb5, _, _⟩ := hr5.ri
      have s5 := hb5.size
      have C6 := Lib.hid (equalInts_same A2 c2 A5 c5 L _ _ _ _ w5 ((HQ3.out.drewN n).below hb5 s3) q5 (by omega))
      have HB5 := Lib.hid (((HB3.out.drewN n).trans (hb5.mono (Nat.le_trans (Nat.le_trans s1 s2) s3))))
      clear hr5 q5 hb5
      go_wp2_with fail
      refine (C6.out).mono ?_
      rintro e w6 ⟨rfl, n6, rfl⟩
      go_wp2
      go_ret
      exact ⟨rfl, HB5.out.drewN _⟩
    · have hq : ((L.length : Int) == 0) = false := by rw [beq_eq_false_iff_ne]; omega
      obtain ⟨hv, hl200, h8, hall, hlink, hsum, hfirst⟩ := chain_law HL.out h0
      have HA := Lib.hid hall
      have HK := Lib.hid hlink
      have h00 : 0 < L.length := by omega
      have HF := Lib.hid (hfirst h00)
      have h0' : (0 : Int) < (L.length : Int) := by omega
      have HSU := Lib.hid hsum
      have HST := Lib.hid (fun k (hk : k < L.length) => sumI_take L (fun x => Bs.timeOf g x.toNat) k hk)
      have CLT := Lib.hid (fun W hg hs => LongestTime_any A1 c1 g w.heap.size w1.heap.size W hg hs hl9)
      clear h0 HL CS hall hlink hsum hfirst hv
      go_wp2
      go_loopw [5, 6] (fun s i wr => ∃ k : Nat, i = .int .i64 k ∧ k ≤ L.length ∧ (∃ t : Int, s = .int .i64 t ∧ t = Bs.sumL ((L.take k).map fun x => Bs.timeOf g x.toNat) ∧ 0 ≤ t ∧ t ≤ 20 * k) ∧ ∃ n, wr = W3.drewN n) (fun _ i _ => L.length + 1 - (intOf i).toNat)
      case atStart => exact ⟨0, rfl, Nat.zero_le _, ⟨0, rfl, by simp [Bs.sumL], by omega, by omega⟩, n, rfl⟩
      case round =>
        obtain ⟨k, rfl, hk, ⟨t, rfl, ht, ht0, ht1⟩, m, rfl⟩ := hrel
        by_cases hi : k < L.length
        · obtain ⟨b, o, rfl, _, _, hc0⟩ := HQ3.out k hi
          obtain ⟨x0, x1, x2, x3, _⟩ := HA.out k hi
          have hst := HST.out k hi
          rw [← ht] at hst
          have HPR := Lib.hid (fun k' (e : k = k' + 1) (hk' : k' < L.length) => show L[k'] ∈ Bs.need g L[k].toNat from by subst e; exact HK.out k' hi)
          have b0 : (0 : Int) ≤ (k : Int) := by omega
          have b1 : (k : Int) < (L.length : Int) := by omega
          generalize hx : L[k] = x at *
          clear hx
          obtain ⟨v, rfl⟩ : ∃ v : Nat, x = (v : Int) := ⟨x.toNat, by omega⟩
          rw [Int.toNat_natCast] at x2 x3
          rw [show (((v : Nat) : Int)).toNat = v from Int.toNat_natCast v] at hst
          have hv : v < g.length := by omega
          obtain ⟨bg, og, N, cN, rfl, _, _, k0, k1, k2, k3, hnc, hcN, hN⟩ := HG3.out v hv
          have d1 : decide ((v : Int) < 0) = false := by simp
          have d2 : decide ((g.length : Int) ≤ (v : Int)) = false := by simp; omega
          have d2' : decide (g.length ≤ v) = false := by simp; omega
          rw [time_at hv] at x2 x3 hst
          have H1 := Lib.hid hst
          have HN := Lib.hid hN
          have HPR := Lib.hid (fun k' (e : k = k' + 1) (hk' : k' < L.length) => show g[v].needs.contains L[k'] = true from by have := HPR.out k' e hk'; rw [Int.toNat_natCast, need_at hv] at this; simpa using this)
          clear k2 k3 hN hst ht
          generalize g[v].time = tv at *
          generalize g[v].needs = nd at *
          by_cases hk0 : k = 0
          · have d3 : decide ((0 : Int) < (k : Int)) = false := by simp [hk0]
            have d3' : decide (0 < k) = false := by simp [hk0]
            clear hk0
            go_wp2
            go_quiet (fail)
            have hw2 : IntKind.i64.wrap (t + tv) = t + tv := IntWalk.i64_in _ ⟨by omega, by omega⟩
            go_wp2
            go_roundw
            case rel => exact ⟨k + 1, by go_num, by omega, ⟨t + tv, rfl, H1.out.symm, by omega, by omega⟩, _, by first | rfl | rw [World.drewN_drewN]⟩
            case measure => simp [intOf]; omega
          · obtain ⟨k', hkk⟩ : ∃ k', k = k' + 1 := ⟨k - 1, by omega⟩
            have hk' : k' < L.length := by omega
            obtain ⟨b', o', e, _, _, hc1⟩ := HQ3.out k' hk'
            cases e
            have d3 : decide ((0 : Int) < (k : Int)) = true := by simp; omega
            have d3' : decide (0 < k) = true := by simp; omega
            have hkm : (k : Int) - 1 = (k' : Int) := by omega
            have b2 : (0 : Int) ≤ (k' : Int) := by omega
            have b3 : (k' : Int) < (L.length : Int) := by omega
            have hin := HPR.out k' hkk hk'
            generalize L[k'] = y at *
            have C := fun j => lisIn_quiet2 N cN nd y _ _ W3 HN.out (by omega) m j
            rw [hin] at C
            have C := fun j => Lib.hid (C j)
            clear hin hkk hk0
            go_wp2
            have hw : IntKind.i64.wrap (k' : Int) = (k' : Int) := IntWalk.i64_in _ ⟨by omega, by omega⟩
            go_quiet ((go_at_call 19; exact (C _).out))
            clear hw
            have hw2 : IntKind.i64.wrap (t + tv) = t + tv := IntWalk.i64_in _ ⟨by omega, by omega⟩
            go_wp2
            go_roundw
            case rel => exact ⟨k + 1, by go_num, by omega, ⟨t + tv, rfl, H1.out.symm, by omega, by omega⟩, _, by first | rfl | rw [World.drewN_drewN]⟩
            case measure => simp [intOf]; omega
        · have et : t = longL g := by rw [ht, List.take_of_length_le (by omega)]; exact HSU.out
          have C7 := CLT.out (W3.drewN m) (HG3.out.drewN m) (Nat.le_trans s2 s3)
          rw [← et] at C7
          have C7 := Lib.hid C7
          clear et ht
          go_wp2_with fail
          refine (C7.out).mono ?_
          rintro e w7 ⟨rfl, hb7⟩
          have HG7 := Lib.hid ((HG3.out.drewN m).below hb7 (Nat.le_trans s2 s3))
          have HQ7 := Lib.hid ((HQ3.out.drewN m).below hb7 s3)
          have HB7 := Lib.hid ((HB3.out.drewN m).trans (hb7.mono (Nat.le_trans s1 (Nat.le_trans s2 s3))))
          clear hb7 C7
          obtain ⟨b, o, rfl, _, _, hc0⟩ := HQ7.out 0 h00
          rw [Nat.add_zero] at hc0
          obtain ⟨x0, x1, _⟩ := HA.out 0 h00
          have hf := HF.out
          generalize hx : L[0] = x at *
          clear hx
          obtain ⟨v, rfl⟩ : ∃ v : Nat, x = (v : Int) := ⟨x.toNat, by omega⟩
          have hv : v < g.length := by omega
          obtain ⟨bg, og, N, cN, rfl, _, _, k0, k1, k2, k3, hnc, hcN, hN⟩ := HG7.out v hv
          rw [Int.toNat_natCast, need_at hv] at hf
          rw [hf] at k1
          have hl0 : (0 : Int) < (L.length : Int) := by omega
          have heq : (t == t) = true := by simp
          clear k0 k2 k3 hN hnc hf
          go_wp2
          go_ret
          exact ⟨rfl, HB7.out⟩
end Go.Proofs.Ytiokblodjhmjmab
