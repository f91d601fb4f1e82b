/-
  THE WALK OF laws.FnTaskKeysChange.
-/
import Derived.Test.YtggekdohcancbaaK17
import Derived.Test.YtggekdohcancbaaX13
import Derived.Test.YtggekdohcancbaaW91
import Derived.Test.YtggekdohcancbaaR51
import Derived.Test.YtggekdohcancbaaMath72
import Derived.Test.YtggekdohcancbaaL1
import Derived.Test.YtggekdohcancbaaCp
namespace Go.Proofs.Ytggekdohcancbaa
open Go.RowKit
set_option maxRecDepth 20000 in
set_option maxHeartbeats 6400000 in
theorem fnTaskKeysChange_walk (A : Option Addr) (c : Nat) (l : List Int) (w : World) (hb : RB w 0 w.heap.size A l) (hlc : l.length ≤ c ∧ c ≤ maxLen) :
    Calls Try.prog 8 #[.slice A l.length c] w fun e w' => e = .returned (.bool true) ∧ Below w.heap.size w w' := by
  have hl63 : l.length ≤ 9223372036854775807 := by have := hlc.2; unfold maxLen at this; omega
  by_cases hbig : 1048576 < l.length
  · go_enter Try.func8, Try.ntmps8
    go_wp2
    go_ret
    exact ⟨rfl, Below.refl _ _⟩
  · have C1 := Lib.hid (DrawTaskKeys_any A c l w hb hlc.1 hlc.2)
    clear hb
    go_enter Try.func8, Try.ntmps8
    go_wp2_with fail
    refine (C1.out).mono ?_
    rintro e w1 ⟨⟨A1, c1, g, A0, c0, d, rfl, hg, hg16, hgc, hcm, hd, hd100, hdc, hdm⟩, hb1⟩
    have HG := Lib.hid hg
    have HD := Lib.hid hd
    have s1 := hb1.size
    have hl9 : g.length ≤ 9223372036854775807 := by omega
    have hd9 : d.length ≤ 9223372036854775807 := by omega
    obtain ⟨L, hL⟩ : ∃ L, L = Bs.keysL g d := ⟨_, rfl⟩
    have c2 := TaskKeys_any A1 c1 g A0 c0 d w.heap.size w1.heap.size w.heap.size w1.heap.size w1 HG.out (Nat.le_refl _) HD.out (Nat.le_refl _) hl9 hd9
    have hlen : L.length ≤ 1000 := by rw [hL]; exact TaskKeys_len100 g d (by omega) (by omega)
    rw [← hL] at c2
    have C2 := Lib.hid c2
    have CS := Lib.hid (fun w2 hg hd hs => TaskKeysS_any A1 c1 g A0 c0 d w.heap.size w1.heap.size w.heap.size w1.heap.size w2 hg hs hd hs hl9 hd9)
    rw [← hL] at CS
    have HL := Lib.hid hL
    have HB1 := Lib.hid hb1
    clear C1 hg hd hL c2 hb1
    go_wp2_with fail
    refine (C2.out).mono ?_
    rintro e w2 hr2
    obtain ⟨A2, c2, rfl, q2, hb2, hlc2, hcm2⟩ := hr2.ri
    have s2 := hb2.size
    have HQ2 := Lib.hid q2
    have HG2 := Lib.hid (HG.out.below hb2 (Nat.le_refl _))
    have HD2 := Lib.hid (HD.out.below hb2 (Nat.le_refl _))
    have HB2 := Lib.hid (HB1.out.trans (hb2.mono s1))
    have C3 := Lib.hid (CS.out w2 HG2.out HD2.out s2)
    clear hr2 q2 hb2 C2 HG HD HB1
    go_wp2_with fail
    refine (C3.out).mono ?_
    rintro e w3 hr3
    obtain ⟨A3, c3, rfl, q3, hb3, hlc3, hcm3⟩ := hr3.ri
    have s3 := hb3.size
    have C4 := Lib.hid (equalInts_same A2 c2 A3 c3 L _ _ _ _ w3 (HQ2.out.below hb3 (Nat.le_refl _)) q3 (by omega))
    have HG3 := Lib.hid (HG2.out.below hb3 s2)
    have HD3 := Lib.hid (HD2.out.below hb3 s2)
    have HQ3 := Lib.hid (HQ2.out.below hb3 (Nat.le_refl _))
    have HB3 := Lib.hid (HB2.out.trans (hb3.mono (Nat.le_trans s1 s2)))
    clear hr3 q3 hb3 C3 HQ2 HB2 HG2 HD2
    go_wp2_with fail
    refine (C4.out).mono ?_
    rintro e w4 ⟨rfl, n, rfl⟩
    clear C4
    obtain ⟨W3, rfl⟩ : ∃ W3, W3 = w3 := ⟨_, rfl⟩
    have hs23 : w2.heap.size ≤ (W3.drewN n).heap.size := s3
    have hs3 : w1.heap.size ≤ (W3.drewN n).heap.size := Nat.le_trans s2 s3
    by_cases h0 : L.length = 0
    · have hq0 : ((L.length : Int) == 0) = true := by simp [h0]
      clear h0 HL
      have hsA : w1.heap.size ≤ (W3.drewN n).heap.size := hs3
      go_wp2_with fail
      refine (CS.out (W3.drewN n) (HG3.out.drewN n) (HD3.out.drewN n) hsA).mono ?_
      rintro e wA hrA
      obtain ⟨AA, cA, rfl, qA, hbA, _, _⟩ := hrA.ri
      have sA := hbA.size
      have CB := Lib.hid (equalInts_same A2 c2 AA cA L _ _ _ _ wA ((HQ3.out.drewN n).below hbA (by first | exact hsA | omega)) qA (by omega))
      have HBA := Lib.hid ((HB3.out.drewN n).trans (hbA.mono (Nat.le_trans s1 hsA)))
      clear hrA qA hbA
      go_wp2_with fail
      refine (CB.out).mono ?_
      rintro e wB ⟨rfl, nB, rfl⟩
      go_wp2
      go_ret
      exact ⟨rfl, HBA.out.drewN _⟩
    · have hq0 : ((L.length : Int) == 0) = false := by rw [beq_eq_false_iff_ne]; omega
      have hok := key_can HL.out h0
      have hLC := key_is HL.out hok
      obtain ⟨hval, hlen, hall⟩ := Bs.inpOk_iff.1 hok
      have h8 := Bs.fine_len (valid_fine hval)
      have hll : L.length = g.length := by rw [hLC]; exact Bs.keysC_len g d
      have hg0 : 0 < g.length := by omega
      have hgz : ((g.length : Int) == 0) = false := by rw [beq_eq_false_iff_ne]; omega
      have hgi : (0 : Int) < (g.length : Int) := by omega
      obtain ⟨k, hk⟩ : ∃ k, k = l.length % g.length := ⟨_, rfl⟩
      have hkl : k < g.length := by rw [hk]; exact Nat.mod_lt _ hg0
      have hrem : Int.tmod (l.length : Int) (g.length : Int) = (k : Int) := by rw [Int.tmod_eq_emod_of_nonneg (by omega)]; omega
      have hrem2 : (l.length : Int) % (g.length : Int) = (k : Int) := by omega
      have hkd : k < d.length := by omega
      have hdk := inp_b hok hkd
      have hok2 := oth_ok hok hkl
      have hol : (othI d k).length = d.length := List.length_set
      have hst := sta_one hval hkl
      have hg4 := HG3.out.drewN n
      have hd4 := HD3.out.drewN n
      have hq4 := HQ3.out.drewN n
      have hb4 := HB3.out.drewN n
      generalize W3.drewN n = W4 at *
      have ck := fun A6 c6 W (hb : Below W4.heap.size W4 W) (hr : RI W W4.heap.size W.heap.size A6 (othI d k)) => TaskKeys_any A1 c1 g A6 c6 (othI d k) w.heap.size w1.heap.size W4.heap.size W.heap.size W (hg4.below hb hs3) (Nat.le_trans hs3 hb.size) hr (Nat.le_refl _) hl9 (by rw [hol]; omega)
      rw [Bs.keysL_yes hok2] at ck
      have CK := Lib.hid ck
      have hnl := Bs.keysC_len g (othI d k)
      have cs := fun A7 c7 W (hb : Below W4.heap.size W4 W) (hr : RI W W4.heap.size W.heap.size A7 [(k : Int)]) => StaleTasks_any A1 c1 g A7 c7 [(k : Int)] w.heap.size w1.heap.size W4.heap.size W.heap.size W (hg4.below hb hs3) (Nat.le_trans hs3 hb.size) hr (Nat.le_refl _) hl9 (by simp)
      rw [Bs.staleL_yes hst] at cs
      have CS2 := Lib.hid cs
      have hsl := Bs.staleC_len g [(k : Int)]
      have HD4 := Lib.hid hd4
      have HQ4 := Lib.hid (fun W (hb : Below W4.heap.size W4 W) => hq4.below hb hs23)
      have HB4 := Lib.hid hb4
      have s4 := hb4.size
      have HO0 := Lib.hid (OI.new W4 W4.heap.size (Nat.le_refl _))
      have hBE := Below.alloc (Below.refl W4.heap.size W4) (Nat.le_refl _) (.cells #[] 3)
      have HDE := Lib.hid (hd4.below hBE hs3)
      have HBE := Lib.hid hBE
      have HSB := Lib.hid (fun i (hi : i < g.length) => show (Bs.staleC g [(k : Int)]).contains (i : Int) = true ∨ ((Bs.staleC g [(k : Int)]).contains (i : Int) = false ∧ Bs.gi (Bs.keysC g (othI d k)) i = Bs.gi L i) from by
        rw [Bs.stale_has hi]
        cases hs : Bs.stB g [(k : Int)] i
        · exact .inr ⟨rfl, by rw [hLC, oth_same hok hkl i hi hs]⟩
        · exact .inl rfl)
      have HNE := Lib.hid (show Bs.gi (Bs.keysC g (othI d k)) k ≠ Bs.gi L k from by rw [hLC]; exact (oth_other hok hkl).symm)
      have HNL := Lib.hid hnl
      clear ck hnl
      have hp1 : ([] : List Int).length + d.length ≤ 1000000000 := by simp only [List.length_nil]; omega
      have i0 : (0 : Int) ≤ (k : Int) := by omega
      have i1 : (k : Int) < (g.length : Int) := by omega
      have hdg : d.length = g.length := hlen
      have HDG := Lib.hid hdg
      have HOL := Lib.hid hol
      have HLL := Lib.hid hll
      have HGI := Lib.hid (show Bs.gi d k = d[k] ∧ ∀ x, d.set k ((d[k] + 1) % 1001) = x → x = othI d k from ⟨Bs.gi_at hkd, fun x hx => by rw [← hx]; unfold othI; rw [Bs.gi_at hkd]⟩)
      have hw1 : IntKind.i64.wrap (Bs.gi d k + 1) = Bs.gi d k + 1 := IntWalk.i64_in _ ⟨by omega, by omega⟩
      have hnn : 0 ≤ Bs.gi d k + 1 := by omega
      clear HL h0 hok hLC hval hlen hall hok2 hst hg4 hd4 hq4 hb4 hBE cs hk hol hll hdg CS HG3 HD3 HQ3 HB3
      generalize Bs.staleC g [(k : Int)] = ST at *
      generalize Bs.keysC g (othI d k) = N at *
      go_wp2_with (at_builtin; go_loud (refine push_ints rfl _ _ rfl W4.heap.size (some ⟨W4.heap.size, 0, none⟩) 0 [] d rfl HO0.out A0 c0 rfl w.heap.size w1.heap.size HDE.out hp1 (by simp) ?_; intro A5 c5 w5 ho5 hb5; rw [List.nil_append] at ho5; have HO5 := Lib.hid ho5; have HB5 := Lib.hid (HBE.out.trans hb5); clear ho5 hb5; (obtain ⟨b5, rfl, hbl5, hbs5, hc5, hf5, hO6⟩ := HO5.out.setO hkd ((Bs.gi d k + 1) % 1001)); rw [← HGI.out.1] at hc5; have HO6 := Lib.hid hO6; have HB6 := Lib.hid (HB5.out.setCell (p := ⟨b5, k, none⟩) hbl5 (.int .i64 ((Bs.gi d k + 1) % 1001))); have i3 : (k : Int) < (d.length : Int) := (by omega); have e5 : ([] : List Int).length + d.length = d.length := (by simp); clear hO6 HO5 HB5 hrem hrem2 hgz hgi hp1; rw [e5]; clear e5))
      have c6 := CK.out (some ⟨b5, 0, none⟩) c5 _ HB6.out (by have := HO6.out.ri; rwa [show d.set k ((Bs.gi d k + 1) % 1001) = othI d k from rfl] at this)
      rw [HOL.out] at c6
      have C6 := Lib.hid c6
      clear c6 CK
      refine (C6.out).mono ?_
      rintro e w6 ⟨⟨A6, c6, rfl, ho6⟩, hb6⟩
      have HX6 := Lib.hid (HB6.out.trans (hb6.mono HB6.out.size))
      have HN6 := Lib.hid ho6.ri
      clear ho6 hb6 C6
      have C7 := Lib.hid (CS2.out (some ⟨w6.heap.size, 0, none⟩) 1 (w6.alloc (.cells #[.int .i64 (k : Int)] 3)) (HX6.out.alloc (HX6.out.size) _) (ri_uno w6 (k : Int) HX6.out.size))
      clear CS2
      go_wp2_with fail
      refine (C7.out).mono ?_
      rintro e w7 ⟨⟨A7, c7, rfl, ho7⟩, hb7⟩
      have hX7 := (HX6.out.alloc HX6.out.size (.cells #[.int .i64 (k : Int)] 3)).trans (hb7.mono (by simp; exact Nat.le_succ_of_le HX6.out.size))
      have HX7 := Lib.hid hX7
      have HS7 := Lib.hid ho7.ri
      have HBF := Lib.hid (HB4.out.trans (hX7.mono s4))
      have HN7 := Lib.hid ((HN6.out.below (Below.alloc (Below.refl w6.heap.size w6) (Nat.le_refl _) (.cells #[.int .i64 (k : Int)] 3)) (Nat.le_refl _)).below hb7 (by simp))
      have HQ7 := Lib.hid (HQ4.out w7 hX7)
      clear ho7 hb7 hX7 C7
      obtain ⟨W7, rfl⟩ : ∃ W7, W7 = w7 := ⟨_, rfl⟩
      go_wp2
      go_loopw [10] (fun i wr => ∃ j : Nat, j ≤ L.length ∧ i = .int .i64 (j : Int) ∧ ∃ m, wr = W7.drewN m) (fun i _ => L.length + 1 - (intOf i).toNat)
      case atStart => exact ⟨0, Nat.zero_le _, rfl, 0, rfl⟩
      case round =>
        obtain ⟨j, hj, rfl, m, rfl⟩ := hrel
        by_cases hlt : j < L.length
        · have hjg : j < g.length := by have := HLL.out; omega
          have hjn : j < N.length := by have := HNL.out; omega
          obtain ⟨bq, oq, rfl, _, _, hcq⟩ := HQ7.out j hlt
          obtain ⟨bn, on, rfl, _, _, hcn⟩ := HN7.out j hjn
          have j0 : (0 : Int) ≤ (j : Int) := by omega
          have j1 : (j : Int) < (L.length : Int) := by omega
          have j2 : (j : Int) < (N.length : Int) := by omega
          have j3 : decide ((N.length : Int) ≤ (j : Int)) = false := by simp; omega
          have j4 : decide (N.length ≤ j) = false := by simp; omega
          have j5 : decide ((j : Int) ≥ (N.length : Int)) = false := by simp; omega
          have hsb := HSB.out j hjg
          rw [Bs.gi_at hjn, Bs.gi_at hlt] at hsb
          have hne : j = k → N[j] ≠ L[j] := by
            rintro rfl
            have := HNE.out
            rwa [Bs.gi_at hjn, Bs.gi_at hlt] at this
          have C9 := fun q => lisIn_quiet2 A7 c7 ST (j : Int) _ _ W7 HS7.out (by omega) m q
          have C9 := fun q => Lib.hid (C9 q)
          clear HSB HNE
          generalize L[j] = x at *
          generalize N[j] = y at *
          generalize ST.contains (j : Int) = sb at *
          by_cases hjk : j = k
          · have hyx := hne hjk
            have e1 : ((j : Int) == (k : Int)) = true := by simp [hjk]
            have e2 : (y == x) = false := by simpa using hyx
            have e3 : (y != x) = true := by simpa using hyx
            rcases hsb with rfl | ⟨rfl, hyx2⟩
            · clear hne hyx hjk
              go_wp2
              go_quiet ((go_at_call 19; exact (C9 _).out))
              go_wp2
              go_roundw
              case rel => exact ⟨j + 1, by omega, by go_num, _, by first | rfl | rw [World.drewN_drewN]⟩
              case measure => simp [intOf]; omega
            · exact absurd hyx2 hyx
          · have e1 : ((j : Int) == (k : Int)) = false := by rw [beq_eq_false_iff_ne]; omega
            rcases hsb with rfl | ⟨rfl, rfl⟩
            · clear hne hjk
              go_wp2
              go_quiet ((go_at_call 19; exact (C9 _).out))
              go_wp2
              go_roundw
              case rel => exact ⟨j + 1, by omega, by go_num, _, by first | rfl | rw [World.drewN_drewN]⟩
              case measure => simp [intOf]; omega
            · have e2 : (y != y) = false := by simp
              clear hne hjk
              go_wp2
              go_quiet ((go_at_call 19; exact (C9 _).out))
              go_wp2
              go_roundw
              case rel => exact ⟨j + 1, by omega, by go_num, _, by first | rfl | rw [World.drewN_drewN]⟩
              case measure => simp [intOf]; omega
        · go_wp2
          go_ret
          exact ⟨rfl, HBF.out.drewN _⟩
end Go.Proofs.Ytggekdohcancbaa
