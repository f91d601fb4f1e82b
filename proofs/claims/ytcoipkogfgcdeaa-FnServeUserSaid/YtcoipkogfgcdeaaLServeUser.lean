/-
  THE WALK OF laws.FnServeUser.
-/
import Derived.Test.YtcoipkogfgcdeaaX14
import Derived.Test.YtcoipkogfgcdeaaLUsers
namespace Go.Proofs.Ytcoipkogfgcdeaa
open Go.RowKit
theorem serv_user {g : List Bs.U} {a : Int} (h : Bs.seOk g a = true) : ∃ m : Nat, Bs.serA g a = (m : Int) ∧ Bs.nextL g = (m : Int) ∧ m < g.length ∧ Bs.usersOk (Bs.serL g a) = true ∧ (1 ≤ a ∧ a ≤ 20) ∧ (∀ k, k < g.length → Bs.gu (Bs.serL g a) k = if k = m then Bs.servU (Bs.gu g m) a else Bs.gu g k) ∧ (Bs.serL g a).length = g.length ∧ ∀ k, k < g.length → Bs.uOk (Bs.gu g k) = true := by
  obtain ⟨h1, h2⟩ := Bs.seOk_iff.1 h
  obtain ⟨hu, ha⟩ := Bs.srvOk_iff.1 h1
  obtain ⟨_, s2, s3⟩ := serve_some (t := a) hu ha (by omega)
  obtain ⟨hm, _⟩ := Bs.next_at hu h2
  have hgu := Bs.srvL_gu (t := a) hm
  refine ⟨(Bs.nextC g).toNat, by rw [s3]; omega, by rw [Bs.nextL_yes hu]; omega, hm, by rw [s2]; exact Bs.srvL_ok hu h2 ha, ha, fun k _ => by rw [s2]; exact hgu k, by rw [s2, Bs.srvL_len], (Bs.usersOk_iff.1 hu).2⟩
set_option maxRecDepth 20000 in
set_option maxHeartbeats 6400000 in
theorem fnServeUser_walk (A : Option Addr) (c : Nat) (l : List Int) (w : World) (hb : RB w 0 w.heap.size A l) (hlc : l.length ≤ c ∧ c ≤ maxLen) :
    Calls Try.prog 7 #[.slice A l.length c] w fun e w' => e = .returned (.bool true) ∧ Below w.heap.size w w' := by
  have hl63 : l.length ≤ 9223372036854775807 := by have := hlc.2; unfold maxLen at this; omega
  by_cases hbig : 1048576 < l.length
  · go_enter Try.func7, Try.ntmps7
    go_wp2
    go_ret
    exact ⟨rfl, Below.refl _ _⟩
  · have C1 := Lib.hid (DrawServeUser_any A c l w hb hlc.1 hlc.2)
    clear hb
    go_enter Try.func7, Try.ntmps7
    go_wp2_with fail
    refine (C1.out).mono ?_
    rintro e w1 ⟨⟨A1, c1, g, a, rfl, hg, hg6, hgc, hcm⟩, hb1⟩
    have s1 := hb1.size
    have HG := Lib.hid (fun W (hb : Below w1.heap.size w1 W) => hg.below hb (Nat.le_refl _))
    have hl9 : g.length ≤ 9223372036854775807 := by omega
    have c2 := ServeUser_any A1 c1 g a w.heap.size w1.heap.size w1 hg (Nat.le_refl _) hl9
    have c3 := fun W (hb : Below w1.heap.size w1 W) => ServeUserS_any A1 c1 g a w.heap.size w1.heap.size W (HG.out W hb) hb.size hl9
    have c6 := fun W (hb : Below w1.heap.size w1 W) => NextUser_any A1 c1 g w.heap.size w1.heap.size W (HG.out W hb) hb.size hl9
    have HSN := Lib.hid (fun h => serv_user (g := g) (a := a) h)
    have c7 := fun A5 c5 lo W hr hh => ValidUsers_any A5 c5 (Bs.serL g a) lo W.heap.size W hr hh
    have hsl : (Bs.serL g a).length ≤ 6 := by
      unfold Bs.serL
      split
      · rw [Bs.srvL_len]; exact hg6
      · simp
    unfold RetUs at c2 c3
    have HGF := Lib.hid (fun W (hb : Below w1.heap.size w1 W) => HG.out W hb)
    have HB1 := Lib.hid hb1
    clear C1 hg hb1
    generalize Bs.serL g a = S at *
    generalize Bs.serA g a = K at *
    generalize Bs.seOk g a = B at *
    generalize Bs.nextL g = N at *
    have C2 := Lib.hid c2
    have C3 := Lib.hid c3
    have C6 := Lib.hid c6
    have C10 := Lib.hid c7
    have k1 : (K != K) = false := by simp
    have k2 : (K == K) = true := by simp
    have k3 : (B != B) = false := by cases B <;> rfl
    have k4 : (B == B) = true := by cases B <;> rfl
    clear c2 c3 c6 c7 HG
    go_wp2_with fail
    with_reducible refine (C2.out).mono ?_
    rintro e w2 ⟨⟨A2, c2, rfl, ho2⟩, hb2⟩
    have s2 := hb2.size
    have C4 := Lib.hid (C3.out w2 hb2)
    have HO2 := Lib.hid ho2.ru
    have HX2 := Lib.hid hb2
    clear C2 C3 ho2 hb2
    go_wp2_with fail
    with_reducible refine (C4.out).mono ?_
    rintro e w3 ⟨⟨A3, c3, rfl, ho3⟩, hb3⟩
    have s3 := hb3.size
    have HO3 := Lib.hid ho3.ru
    have HO23 := Lib.hid (HO2.out.below hb3 (Nat.le_refl _))
    have C5 := Lib.hid (fun q => equalUsers_same A2 c2 A3 c3 S _ _ _ _ (w3.drewN q) (HO23.out.drewN q) (HO3.out.drewN q) (by omega))
    have hx3 := HX2.out.trans (hb3.mono s2)
    have HX3 := Lib.hid hx3
    have HB3 := Lib.hid (HB1.out.trans (hx3.mono s1))
    have C50 := Lib.hid (show Calls Try.prog 26 #[.slice A2 S.length c2, .slice A3 S.length c3] w3 (fun e w' => e = .returned (.bool true) ∧ ∃ n, w' = w3.drewN n) from equalUsers_same A2 c2 A3 c3 S _ _ _ _ w3 HO23.out HO3.out (by omega))
    clear C4 ho3 hb3 hx3 HO2 HO3 HX2 HB1
    go_wp2_with fail
    with_reducible refine (C50.out).mono ?_
    rintro e w4 ⟨rfl, n, rfl⟩
    have HB4 := Lib.hid (HB3.out.drewN n)
    have HX4 := Lib.hid (HX3.out.drewN n)
    have HS4 := Lib.hid (HO23.out.drewN n)
    have C8 := Lib.hid (C5.out n)
    have s34 := HB4.out.size
    have s24 : w2.heap.size ≤ (w3.drewN n).heap.size := s3
    have s14 := HX4.out.size
    clear C5 C50 HB3 HX3 HO23
    generalize w3.drewN n = W4 at *
    cases B
    · clear HSN
      go_wp2_with fail
      with_reducible refine (C8.out).mono ?_
      rintro e w5 ⟨rfl, n5, rfl⟩
      go_wp2
      go_ret
      exact ⟨by first | rfl | simp, HB4.out.drewN _⟩
    · obtain ⟨m, rfl, rfl, hm, hsu, ha, hgu, hSl, huk⟩ := HSN.out rfl
      have HGU := Lib.hid hgu
      have HUK := Lib.hid huk
      have HSU := Lib.hid hsu
      have HSL := Lib.hid hSl
      clear HSN hgu huk hsu hSl C8
      go_wp2
      go_loopw [11, 12] (fun i _ wr => ∃ k : Nat, k ≤ g.length ∧ i = .int .i64 (k : Int) ∧ Below W4.heap.size W4 wr) (fun i _ _ => g.length - (intOf i).toNat)
      case atStart => exact ⟨0, Nat.zero_le _, rfl, Below.refl _ _⟩
      case round =>
        obtain ⟨k, hk, rfl, hb⟩ := hrel
        have sr := hb.size
        by_cases hlt : k < g.length
        · obtain ⟨b, o, e1, _, _, q0, q1, q2⟩ := (HGF.out wr (HX4.out.trans (hb.mono s14))).at_ hlt
          have hkS : k < S.length := by rw [HSL.out]; exact hlt
          have hSr := fun X (hX : Below W4.heap.size W4 X) => (HS4.out.below hX s24).at_ hkS
          obtain ⟨b', o', e2, _, _, _⟩ := hSr wr hb
          subst e1 e2
          rw [HGU.out k hlt] at hSr
          obtain ⟨_, hus, hwt⟩ := Bs.uOk_iff.1 (HUK.out k hlt)
          have HB := Lib.hid hb
          have i0 : (0 : Int) ≤ (k : Int) := by omega
          have i1 : (k : Int) < (g.length : Int) := by omega
          have i2 : (k : Int) < (S.length : Int) := by omega
          have d0 : decide ((S.length : Int) ≤ (k : Int)) = false := by simp; omega
          by_cases hkm : k = m
          · subst hkm
            rw [if_pos rfl] at hSr
            have hal := hb.alloc sr (.cells #[.int .i64 (Bs.gu g k).share, .int .i64 (Bs.servU (Bs.gu g k) a).used, .int .i64 ((Bs.gu g k).waits - 1)] 29)
            obtain ⟨b3, o3, e3, _, _, r0, r1, r2⟩ := hSr _ hal
            cases e3
            have hn := new_cellsR wr ⟨(Bs.gu g k).share, (Bs.servU (Bs.gu g k) a).used, (Bs.gu g k).waits - 1⟩
            have t0 := hn 0 _ rfl
            have t1 := hn 1 _ rfl
            have t2 := hn 2 _ rfl
            have HA := Lib.hid hal
            unfold Bs.servU at r0 r1 r2 t1 t0 t2 HA
            simp only at r0 r1 r2 t1 t0 t2 HA
            clear hSr hb hal hn HGU HUK HSU HSL
            generalize (Bs.gu g k).share = s at *
            generalize (Bs.gu g k).used = us at *
            generalize (Bs.gu g k).waits = wt at *
            have hw1 : IntKind.i64.wrap (us + a) = us + a := IntWalk.i64_in _ ⟨by omega, by omega⟩
            have hw2 : IntKind.i64.wrap (wt - 1) = wt - 1 := IntWalk.i64_in _ ⟨by omega, by omega⟩
            by_cases hc : 10000 < us + a
            · simp only [if_pos hc] at r0 r1 r2 t0 t1 t2 HA
              have e1 : (if 10000 < us + a then 10000 else us + a) = 10000 := if_pos hc
              go_wp2
              go_quiet (fail)
              go_wp2
              go_roundw
              case rel => exact ⟨k + 1, by omega, by go_num, HA.out.drewN _⟩
              case measure => simp [intOf]; omega
            · simp only [if_neg hc] at r0 r1 r2 t0 t1 t2 HA
              have e1 : (if 10000 < us + a then 10000 else us + a) = us + a := if_neg hc
              go_wp2
              go_quiet (fail)
              go_wp2
              go_roundw
              case rel => exact ⟨k + 1, by omega, by go_num, HA.out.drewN _⟩
              case measure => simp [intOf]; omega
          · rw [if_neg hkm] at hSr
            have hal := hb.alloc sr (.cells #[.int .i64 (Bs.gu g k).share, .int .i64 (Bs.gu g k).used, .int .i64 (Bs.gu g k).waits] 29)
            obtain ⟨b3, o3, e3, _, _, r0, r1, r2⟩ := hSr _ hal
            cases e3
            have hn := new_cellsR wr (Bs.gu g k)
            have t0 := hn 0 _ rfl
            have t1 := hn 1 _ rfl
            have t2 := hn 2 _ rfl
            have HA := Lib.hid hal
            have e9 : ((k : Int) == (m : Int)) = false := by rw [beq_eq_false_iff_ne]; omega
            clear hSr hb hal hn HGU HUK HSU HSL hkm
            generalize (Bs.gu g k).share = s at *
            generalize (Bs.gu g k).used = us at *
            generalize (Bs.gu g k).waits = wt at *
            go_wp2
            go_quiet (fail)
            go_wp2
            go_roundw
            case rel => exact ⟨k + 1, by omega, by go_num, HA.out.drewN _⟩
            case measure => simp [intOf]; omega
        · have d1 : ¬ (k : Int) < (g.length : Int) := by omega
          have C7 := Lib.hid (C6.out wr (HX4.out.trans (hb.mono s14)))
          have HB := Lib.hid hb
          clear hb
          go_wp2_with fail
          with_reducible refine (C7.out).mono ?_
          rintro e w5 ⟨rfl, hb5⟩
          have hb45 := HB.out.trans (hb5.mono sr)
          have c8 := C10.out A2 c2 w.heap.size w5 ((HS4.out.below hb45 s24).more (Nat.le_trans s1 (Nat.le_refl _)) (Nat.le_trans s24 hb45.size)) (Nat.le_refl _) (by omega)
          rw [HSU.out] at c8
          have C9 := Lib.hid c8
          have HB5 := Lib.hid (HB4.out.trans (hb45.mono s34))
          clear hb5 hb45 c8 C7 C10
          go_wp2_with fail
          with_reducible refine (C9.out).mono ?_
          rintro e w6 ⟨rfl, hb6⟩
          have HB6 := Lib.hid (HB5.out.trans (hb6.mono HB5.out.size))
          clear hb6
          go_wp2
          go_ret
          exact ⟨by first | rfl | simp, HB6.out⟩
end Go.Proofs.Ytcoipkogfgcdeaa
