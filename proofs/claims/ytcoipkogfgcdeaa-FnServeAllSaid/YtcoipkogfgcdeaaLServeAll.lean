/-
  THE WALK OF laws.FnServeAll.
-/
import Derived.Test.YtcoipkogfgcdeaaX14
import Derived.Test.YtcoipkogfgcdeaaMath84
import Derived.Test.YtcoipkogfgcdeaaR62
namespace Go.Proofs.Ytcoipkogfgcdeaa
open Go.RowKit
set_option maxRecDepth 20000 in
set_option maxHeartbeats 6400000 in
theorem fnServeAll_walk (A : Option Addr) (c : Nat) (l : List Int) (w : World) (hb : RB w 0 w.heap.size A l) (hlc : l.length ≤ c ∧ c ≤ maxLen) :
    Calls Try.prog 9 #[.slice A l.length c] w fun e w' => e = .returned (.bool true) ∧ Below w.heap.size w w' := by
  have hl63 : l.length ≤ 9223372036854775807 := by have := hlc.2; unfold maxLen at this; omega
  by_cases hbig : 1048576 < l.length
  · go_enter Try.func9, Try.ntmps9
    go_wp2
    go_ret
    exact ⟨rfl, Below.refl _ _⟩
  · have C1 := Lib.hid (DrawServeAll_any A c l w hb hlc.1 hlc.2)
    clear hb
    go_enter Try.func9, Try.ntmps9
    go_wp2_with fail
    refine (C1.out).mono ?_
    rintro e w1 ⟨⟨A1, c1, g, a, rfl, hg, hg6, hgc, hcm⟩, hb1⟩
    have HG := Lib.hid hg
    have s1 := hb1.size
    have hl9 : g.length ≤ 9223372036854775807 := by omega
    obtain ⟨L, hL⟩ : ∃ L, L = Bs.seqL g a := ⟨_, rfl⟩
    have c2 := ServeAll_any A1 c1 g a w.heap.size w1.heap.size w1 HG.out (Nat.le_refl _) hl9
    have hlen : L.length ≤ 1000 := by rw [hL]; exact ServeAll_len100 g a (by omega)
    rw [← hL] at c2
    have C2 := Lib.hid c2
    have CS := Lib.hid (fun w2 hg hs => ServeAllS_any A1 c1 g a w.heap.size w1.heap.size w2 hg hs hl9)
    rw [← hL] at CS
    have HL := Lib.hid hL
    have HB1 := Lib.hid hb1
    clear C1 hg hL c2 hb1
    go_wp2_with fail
    refine (C2.out).mono ?_
    rintro e w2 hr2
    obtain ⟨A2, c2, rfl, q2, hb2, hlc2, hcm2⟩ := hr2.ri
    have s2 := hb2.size
    have HQ2 := Lib.hid q2
    have HG2 := Lib.hid (HG.out.below hb2 (Nat.le_refl _))
    have HB2 := Lib.hid (HB1.out.trans (hb2.mono s1))
    have C3 := Lib.hid (CS.out w2 HG2.out s2)
    clear hr2 q2 hb2 C2 HG HB1
    go_wp2_with fail
    refine (C3.out).mono ?_
    rintro e w3 hr3
    obtain ⟨A3, c3, rfl, q3, hb3, hlc3, hcm3⟩ := hr3.ri
    have s3 := hb3.size
    have C4 := Lib.hid (equalInts_same A2 c2 A3 c3 L _ _ _ _ w3 (HQ2.out.below hb3 (Nat.le_refl _)) q3 (by omega))
    have HG3 := Lib.hid (HG2.out.below hb3 s2)
    have HQ3 := Lib.hid (HQ2.out.below hb3 (Nat.le_refl _))
    have HB3 := Lib.hid (HB2.out.trans (hb3.mono (Nat.le_trans s1 s2)))
    clear hr3 q3 hb3 C3 HQ2 HB2 HG2
    go_wp2_with fail
    refine (C4.out).mono ?_
    rintro e w4 ⟨rfl, n, rfl⟩
    clear C4
    obtain ⟨W3, rfl⟩ : ∃ W3, W3 = w3 := ⟨_, rfl⟩
    have hs3 : w1.heap.size ≤ (W3.drewN n).heap.size := Nat.le_trans s2 s3
    have hs23 : w2.heap.size ≤ (W3.drewN n).heap.size := s3
    by_cases h0 : L.length = 0
    · have hq0 : ((L.length : Int) == 0) = true := by simp [h0]
      clear h0 HL
      have hsA : w1.heap.size ≤ (W3.drewN n).heap.size := hs3
      go_wp2_with fail
      refine (CS.out (W3.drewN n) (HG3.out.drewN n) hsA).mono ?_
      rintro e wA hrA
      obtain ⟨AA, cA, rfl, qA, hbA, _, _⟩ := hrA.ri
      have sA := hbA.size
      have CB := Lib.hid (equalInts_same A2 c2 AA cA L _ _ _ _ wA ((HQ3.out.drewN n).below hbA (by first | exact hsA | omega)) qA (by omega))
      have HBA := Lib.hid ((HB3.out.drewN n).trans (hbA.mono (Nat.le_trans s1 hsA)))
      clear hrA qA hbA
      go_wp2_with fail
      refine (CB.out).mono ?_
      rintro e wB ⟨rfl, nB, rfl⟩
      go_wp2
      go_ret
      exact ⟨rfl, HBA.out.drewN _⟩
    · have hq0 : ((L.length : Int) == 0) = false := by rw [beq_eq_false_iff_ne]; omega
      have hok := serv_can HL.out h0
      obtain ⟨hu, ha⟩ := Bs.srvOk_iff.1 hok
      obtain ⟨h1, h5⟩ := (Bs.usersOk_iff.1 hu).1
      have z1 := serv_cnt hok
      rw [← HL.out] at z1
      have z2 := serv_first hok (by rw [← HL.out]; exact h0)
      rw [← HL.out] at z2
      have hlen30 : L.length ≤ 30 := by rw [HL.out, Bs.seqL_yes hok, Bs.seqC_len hu ha]; exact Bs.wN_le hu
      have c5 := fun W (hb : Below (W3.drewN n).heap.size (W3.drewN n) W) => NextUser_any A1 c1 g w.heap.size w1.heap.size W ((HG3.out.drewN n).below hb hs3) (Nat.le_trans hs3 hb.size) hl9
      have HG4 := Lib.hid (HG3.out.drewN n)
      have HQ4 := Lib.hid (HQ3.out.drewN n)
      have HB4 := Lib.hid (HB3.out.drewN n)
      have HZ1 := Lib.hid z1
      have HCT := Lib.hid (fun v k hk => cntV_take v L k hk)
      have HCB := Lib.hid (fun v k => cntV_b v (L.take k))
      have HC0 := Lib.hid (fun v => show cntV v (L.take 0) = 0 from rfl)
      have HLA := Lib.hid (show L.take L.length = L from List.take_length)
      have h0L : 0 < L.length := by omega
      obtain ⟨b2, o2, rfl, _, hb2lt, r0⟩ := HQ4.out.at_ h0L
      have kw : b2 < (W3.drewN n).heap.size := Nat.lt_of_lt_of_le hb2lt hs23
      rw [← Bs.gi_at h0L, z2] at r0
      rw [Nat.add_zero] at r0
      obtain ⟨N, hN⟩ : ∃ N, N = Bs.nextL g := ⟨_, rfl⟩
      rw [← hN] at r0 c5
      have C5 := Lib.hid c5
      have R0 := Lib.hid r0
      have hs03 : w.heap.size ≤ (W3.drewN n).heap.size := Nat.le_trans s1 hs3
      clear HL CS h0 HQ3 HB3 HG3 c5 hok hu z1 z2 r0 hN
      generalize W3.drewN n = W4 at *
      go_wp2
      go_loop [6, 7, 8] (fun i _ _ => ∃ k : Nat, k ≤ g.length ∧ i = .int .i64 k) (fun i _ _ => g.length - (intOf i).toNat)
      case atStart => exact ⟨0, Nat.zero_le _, rfl⟩
      case round =>
        obtain ⟨k, hk, rfl⟩ := hrel
        by_cases hlt : k < g.length
        · obtain ⟨b, o, rfl, _, _, q0, q1, q2⟩ := HG4.out.at_ hlt
          have HZK := Lib.hid (HZ1.out k hlt)
          clear HZ1 q0 q1 C5 R0
          generalize (Bs.gu g k).waits = wk at *
          go_wp2
          go_loop [7, 8] (fun v i => ∃ (p : Nat) (t : Int), p ≤ L.length ∧ i = .int .i64 p ∧ v = .int .i64 t ∧ t = cntV (k : Int) (L.take p)) (fun _ i => L.length - (intOf i).toNat)
          case atStart => exact ⟨0, 0, Nat.zero_le _, rfl, rfl, (HC0.out _).symm⟩
          case round =>
            obtain ⟨p, t, hp, rfl, rfl, ht⟩ := hrel
            by_cases hpl : p < L.length
            · obtain ⟨b3, o3, e3, _, _, hc⟩ := HQ4.out.at_ hpl
              cases e3
              have hct := HCT.out (k : Int) p hpl
              have hcb := HCB.out (k : Int) p
              rw [← ht] at hct hcb
              rw [List.length_take] at hcb
              have HCK := Lib.hid hct
              have hwt : IntKind.i64.wrap (t + 1) = t + 1 := IntWalk.i64_in _ ⟨by omega, by omega⟩
              have d1 : (p : Int) < (L.length : Int) := by omega
              clear ht hct hcb HCT HCB HC0 HZK HLA
              generalize L[p] = x at *
              by_cases hx : x = (k : Int)
              · have e1 : (x == (k : Int)) = true := by rw [beq_iff_eq]; exact hx
                have G1 := Lib.hid (show cntV (k : Int) (L.take (p + 1)) = t + 1 from by rw [HCK.out, e1]; rfl)
                clear hx HCK
                go_wp2
                go_round
                case rel => exact ⟨p + 1, t + 1, by omega, by go_num, by first | rfl | rw [hwt], G1.out.symm⟩
                case measure => simp [intOf]; omega
              · have e1 : (x == (k : Int)) = false := by rw [beq_eq_false_iff_ne]; exact hx
                have G1 := Lib.hid (show cntV (k : Int) (L.take (p + 1)) = t from by rw [HCK.out, e1]; simp)
                clear hx HCK
                go_wp2
                go_round
                case rel => exact ⟨p + 1, t, by omega, by go_num, rfl, G1.out.symm⟩
                case measure => simp [intOf]; omega
            · obtain rfl : p = L.length := by omega
              rw [HLA.out, HZK.out] at ht
              have e1 : (t != wk) = false := by simp [ht]
              clear ht HCT HCB HC0 HZK HLA
              go_wp2
              go_round
              case rel => exact ⟨k + 1, by omega, by go_num⟩
              case measure => simp [intOf]; omega
        · have d1 : ¬ (k : Int) < (g.length : Int) := by omega
          have hdr : Below W4.heap.size W4 W4.drew := (Below.refl _ W4).drewN 1
          have C6 := Lib.hid (C5.out W4.drew hdr)
          have R1 := R0.out
          have j1 : (0 : Int) < (L.length : Int) := by omega
          have e1 : (N == N) = true := by simp
          clear HZ1 HCT HCB HC0 HLA C5
          go_wp2_with fail
          go_region_held3 (fun w' => w'.cell? ⟨b2, o2, none⟩ = some (.int .i64 N))
            (first | go_keep | exact (hb5.cell (p := ⟨b2, o2, none⟩) kw).trans R1)
            (first | (go_at_call 21; (with_reducible refine (C6.out).mono ?_); rintro e w5 ⟨rfl, hb5⟩))
          have HB5 := Lib.hid (HB4.out.trans ((hdr.trans hb5).mono hs03))
          clear hb5
          go_wp2
          go_ret
          exact ⟨by first | rfl | simp, HB5.out⟩
end Go.Proofs.Ytcoipkogfgcdeaa
