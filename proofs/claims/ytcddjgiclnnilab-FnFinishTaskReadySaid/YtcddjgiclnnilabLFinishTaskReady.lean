/-
  THE WALK OF laws.FnFinishTaskReady.
-/
import Derived.Test.YtcddjgiclnnilabX6
import Derived.Test.YtcddjgiclnnilabRI
namespace Go.Proofs.Ytcddjgiclnnilab
open Go.RowKit
set_option maxRecDepth 20000 in
set_option maxHeartbeats 6400000 in
theorem fnFinishTaskReady_walk (A : Option Addr) (c : Nat) (l : List Int) (w : World) (hb : RB w 0 w.heap.size A l) (hlc : l.length ≤ c ∧ c ≤ maxLen) :
    Calls Try.prog 8 #[.slice A l.length c] w fun e w' => e = .returned (.bool true) ∧ Below w.heap.size w w' := by
  have hl63 : l.length ≤ 9223372036854775807 := by have := hlc.2; unfold maxLen at this; omega
  by_cases hbig : 1048576 < l.length
  · go_enter Try.func8, Try.ntmps8
    go_wp2
    go_ret
    exact ⟨rfl, Below.refl _ _⟩
  · have C1 := Lib.hid (DrawFinishTask_any A c l w hb hlc.1 hlc.2)
    clear hb
    go_enter Try.func8, Try.ntmps8
    go_wp2_with fail
    refine (C1.out).mono ?_
    rintro e w1 ⟨⟨A1, c1, g, A0, c0, d, a, rfl, hg, hg16, hgc, hcm, hd, hd100, hdc, hdm⟩, hb1⟩
    have HG := Lib.hid hg
    have HD := Lib.hid hd
    have s1 := hb1.size
    have hl9 : g.length ≤ 9223372036854775807 := by omega
    have hd9 : d.length ≤ 9223372036854775807 := by omega
    obtain ⟨L, hL⟩ : ∃ L, L = Bs.finL g d a := ⟨_, rfl⟩
    obtain ⟨ok, hok⟩ : ∃ ok, ok = Bs.finOk g d a := ⟨_, rfl⟩
    have c2 := FinishTask_any A1 c1 g A0 c0 d a w.heap.size w1.heap.size w.heap.size w1.heap.size w1 HG.out (Nat.le_refl _) HD.out (Nat.le_refl _) hl9 hd9
    have c3 := fun w2 hg hd hs => FinishTaskS_any A1 c1 g A0 c0 d a w.heap.size w1.heap.size w.heap.size w1.heap.size w2 hg hs hd hs hl9 hd9
    have hlen : L.length ≤ 1000 := by rw [hL]; have := finL_len g d a; omega
    rw [← hL, ← hok] at c2 c3
    have C2 := Lib.hid c2
    have C3 := Lib.hid c3
    have HL := Lib.hid hL
    have HOK := Lib.hid hok
    have HB1 := Lib.hid hb1
    clear C1 hg hd hL hok c2 c3 hb1
    go_wp2_with fail
    refine (C2.out).mono ?_
    rintro e w2 ⟨⟨A2, c2, rfl, ho2⟩, hb2⟩
    have s2 := hb2.size
    have HQ2 := Lib.hid ho2.ri
    have HG2 := Lib.hid (HG.out.below hb2 (Nat.le_refl _))
    have HD2 := Lib.hid (HD.out.below hb2 (Nat.le_refl _))
    have HB2 := Lib.hid (HB1.out.trans (hb2.mono s1))
    have C3 := Lib.hid (C3.out w2 HG2.out HD2.out s2)
    clear ho2 hb2 C2 HG HD HB1
    go_wp2_with fail
    refine (C3.out).mono ?_
    rintro e w3 ⟨⟨A3, c3, rfl, ho3⟩, hb3⟩
    have s3 := hb3.size
    have C4 := Lib.hid (fun n => equalInts_same A2 c2 A3 c3 L _ _ _ _ (w3.drewN n) ((HQ2.out.below hb3 (Nat.le_refl _)).drewN n) (ho3.ri.drewN n) (by omega))
    have HG3 := Lib.hid (HG2.out.below hb3 s2)
    have HD3 := Lib.hid (HD2.out.below hb3 s2)
    have HQ3 := Lib.hid (HQ2.out.below hb3 (Nat.le_refl _))
    have HB3 := Lib.hid (HB2.out.trans (hb3.mono (Nat.le_trans s1 s2)))
    clear ho3 hb3 C3 HQ2 HB2 HG2 HD2
    obtain ⟨W3, rfl⟩ : ∃ W3, W3 = w3 := ⟨_, rfl⟩
    have hs3 : w1.heap.size ≤ W3.heap.size := Nat.le_trans s2 s3
    go_wp2_with fail
    refine (C4.out 0).mono ?_
    rintro e w4 ⟨rfl, n0, hw4⟩
    obtain ⟨n, rfl⟩ : ∃ n, w4 = W3.drewN n := ⟨n0, hw4⟩
    clear hw4 n0
    cases ok
    · clear HL HOK HG3 HD3
      go_wp2_with fail
      refine (C4.out n).mono ?_
      rintro e w5 ⟨rfl, n5, rfl⟩
      go_wp2
      go_ret
      exact ⟨rfl, by first | exact HB3.out.drewN _ | exact (HB3.out.drewN _).drewN _⟩
    · have hok : Bs.finOk g d a = true := HOK.out.symm
      have hLC : L = Bs.finC g d a := by rw [HL.out]; exact finL_yes hok
      obtain ⟨f1, f2, f3, f4, f5, f6, f7⟩ := Bs.fin_law hok
      obtain ⟨h1, h2⟩ := Bs.after_law hok
      have hvd := (Bs.finOk_iff.1 hok).1
      obtain ⟨R, hR⟩ : ∃ R, R = Bs.readyL g d := ⟨_, rfl⟩
      obtain ⟨S, hS⟩ : ∃ S, S = Bs.readyL g L := ⟨_, rfl⟩
      have hRC : R = Bs.readyC g d := by rw [hR]; exact readyL_yes hvd
      have hSC : S = Bs.readyC g L := by rw [hS]; exact readyL_yes (by rw [hLC]; exact f5)
      rw [← hLC, ← hSC] at h1 h2
      rw [← hRC] at h2
      have hrl := readyL_len g d
      have hsl := readyL_len g L
      rw [← hR] at hrl
      rw [← hS] at hsl
      have hsr : ∀ x ∈ S, 0 ≤ x := by rw [hSC]; intro x hx; unfold Bs.readyC at hx; obtain ⟨j, _, _, rfl⟩ := (Bs.mem_pick _ _ _).1 hx; omega
      have H1 := Lib.hid h1
      have H2 := Lib.hid h2
      have HS := Lib.hid hsr
      have c5 := fun W hg hd hs => ReadyTasks_any A1 c1 g A0 c0 d w.heap.size w1.heap.size w.heap.size w1.heap.size W hg hs hd hs hl9 hd9
      have c6 := fun W hg hs hq hs2 => ReadyTasks_any A1 c1 g A2 c2 L w.heap.size w1.heap.size w1.heap.size w2.heap.size W hg hs hq hs2 hl9 (by omega)
      rw [← hR] at c5
      rw [← hS] at c6
      have C5 := Lib.hid (c5 (W3.drewN n) (HG3.out.drewN n) (HD3.out.drewN n) hs3)
      have C6 := Lib.hid c6
      clear HL HOK hok hLC f1 f2 f3 f4 f5 f6 f7 h1 h2 hvd hR hS hRC hSC hsr c5 c6 C4
      go_wp2_with fail
      refine (C5.out).mono ?_
      rintro e w5 hr5
      obtain ⟨A5, c5, rfl, q5, hb5, hlc5, hcm5⟩ := hr5.ri
      have s5 : W3.heap.size ≤ w5.heap.size := hb5.size
      have HG5 := Lib.hid ((HG3.out.drewN n).below hb5 hs3)
      have HQ5 := Lib.hid ((HQ3.out.drewN n).below hb5 s3)
      have HB5 := Lib.hid ((HB3.out.drewN n).trans (hb5.mono (Nat.le_trans s1 hs3)))
      have HR5 := Lib.hid q5
      have C6 := Lib.hid (C6.out w5 HG5.out (Nat.le_trans hs3 s5) HQ5.out (Nat.le_trans s3 s5))
      clear hr5 q5 hb5 C5 HG3 HQ3 HB3 HD3
      go_wp2_with fail
      refine (C6.out).mono ?_
      rintro e w6 hr6
      obtain ⟨A6, c6, rfl, q6, hb6, hlc6, hcm6⟩ := hr6.ri
      have s6 := hb6.size
      have HG6 := Lib.hid (HG5.out.below hb6 (Nat.le_trans hs3 s5))
      have HR6 := Lib.hid (HR5.out.below hb6 (Nat.le_refl _))
      have HB6 := Lib.hid (HB5.out.trans (hb6.mono (Nat.le_trans s1 (Nat.le_trans hs3 s5))))
      have HS6 := Lib.hid q6
      clear hr6 q6 hb6 C6 HG5 HQ5 HB5 HR5
      obtain ⟨W6, rfl⟩ : ∃ W6, W6 = w6 := ⟨_, rfl⟩
      go_wp2
      go_loopw [12] (fun i wr => ∃ k : Nat, i = .int .i64 (k : Int) ∧ ∃ n, wr = W6.drewN n) (fun i _ => S.length + 1 - (intOf i).toNat)
      case atStart => exact ⟨0, rfl, 0, rfl⟩
      case round =>
        obtain ⟨k, rfl, m, rfl⟩ := hrel
        by_cases hi : k < S.length
        · obtain ⟨b, o, rfl, _, _, hc0⟩ := HS6.out k hi
          have hx0 := HS.out S[k] (List.getElem_mem hi)
          have hmem : S[k] ∈ S := List.getElem_mem hi
          have b0 : (0 : Int) ≤ (k : Int) := by omega
          have b1 : (k : Int) < (S.length : Int) := by omega
          generalize S[k] = x at *
          obtain ⟨v, rfl⟩ : ∃ v : Nat, x = (v : Int) := ⟨x.toNat, by omega⟩
          obtain ⟨hv, hor⟩ := H2.out v (Bs.contains_iff.2 hmem)
          obtain ⟨b1', o1, N, cN, rfl, _, _, k0, k1, k2, k3, hnc, hcN, hN⟩ := HG6.out v hv
          rw [need_at hv, ← Bs.contains_iff] at hor
          have d2 : (v : Int) < (g.length : Int) := by omega
          have C7 := fun j => lisIn_quiet2 A5 c5 R (v : Int) _ _ W6 HR6.out (by omega) m j
          have C8 := fun j => lisIn_quiet2 N cN g[v].needs a _ _ W6 hN (by omega) m j
          have C9 := lisIn_any A5 c5 R (v : Int) _ _ (W6.drewN m) HR6.out (by omega)
          have C10 := lisIn_any N cN g[v].needs a _ _ (W6.drewN m) (hN.drewN m) (by omega)
          generalize R.contains (v : Int) = br at *
          generalize g[v].needs.contains a = bn at *
          generalize g[v].needs = nd at *
          have C7 := fun j => Lib.hid (C7 j)
          have C8 := fun j => Lib.hid (C8 j)
          have C9 := Lib.hid C9
          have C10 := Lib.hid C10
          clear hmem k0 k2 k3 hN hx0
          cases br
          · have hbn : bn = true := by
              rcases hor with h | h
              · cases h
              · exact h
            subst hbn
            clear hor
            first
              | (go_wp2; go_quiet ((first | (go_at_call 19; with_reducible exact (C7 _).out) | (go_at_call 19; with_reducible exact (C8 _).out))); go_wp2; go_roundw; (case rel => exact ⟨k + 1, by go_num, _, by first | rfl | rw [World.drewN_drewN]⟩); (case measure => simp [intOf]; omega))
              | (go_wp2_with fail; refine (C9.out).mono ?_; rintro e w8 ⟨rfl, rfl⟩; go_wp2_with fail; refine (C10.out).mono ?_; rintro e w9 ⟨rfl, rfl⟩; go_wp2; go_roundw; (case rel => exact ⟨k + 1, by go_num, _, by first | rfl | rw [World.drewN_drewN]⟩); (case measure => simp [intOf]; omega))
          · clear hor
            first
              | (go_wp2; go_quiet ((first | (go_at_call 19; with_reducible exact (C7 _).out) | (go_at_call 19; with_reducible exact (C8 _).out))); go_wp2; go_roundw; (case rel => exact ⟨k + 1, by go_num, _, by first | rfl | rw [World.drewN_drewN]⟩); (case measure => simp [intOf]; omega))
              | (go_wp2_with fail; refine (C9.out).mono ?_; rintro e w8 ⟨rfl, rfl⟩; go_wp2; go_roundw; (case rel => exact ⟨k + 1, by go_num, _, by first | rfl | rw [World.drewN_drewN]⟩); (case measure => simp [intOf]; omega))
        · have c7 := lisIn_any A6 c6 S a _ _ (W6.drewN m) (HS6.out.drewN m) (by omega)
          rw [H1.out] at c7
          have C7 := Lib.hid c7
          clear c7
          go_wp2_with fail
          refine (C7.out).mono ?_
          rintro e w7 ⟨rfl, rfl⟩
          go_wp2
          go_ret
          exact ⟨rfl, HB6.out.drewN _⟩
end Go.Proofs.Ytcddjgiclnnilab
