/-
  THE WALK OF laws.FnFinishTaskOrder.
-/
import Derived.Test.YtcddjgiclnnilaaX6
import Derived.Test.YtcddjgiclnnilaaRI
namespace Go.Proofs.Ytcddjgiclnnilaa
open Go.RowKit
set_option maxRecDepth 20000 in
set_option maxHeartbeats 6400000 in
theorem fnFinishTaskOrder_walk (A : Option Addr) (c : Nat) (l : List Int) (w : World) (hb : RB w 0 w.heap.size A l) (hlc : l.length ≤ c ∧ c ≤ maxLen) :
    Calls Try.prog 8 #[.slice A l.length c] w fun e w' => e = .returned (.bool true) ∧ Below w.heap.size w w' := by
  have hl63 : l.length ≤ 9223372036854775807 := by have := hlc.2; unfold maxLen at this; omega
  by_cases hbig : 1048576 < l.length
  · go_enter Try.func8, Try.ntmps8
    go_wp2
    go_ret
    exact ⟨rfl, Below.refl _ _⟩
  · have C1 := Lib.hid (DrawFinishTask_any A c l w hb hlc.1 hlc.2)
    clear hb
    go_enter Try.func8, Try.ntmps8
    go_wp2_with fail
    refine (C1.out).mono ?_
    rintro e w1 ⟨⟨A1, c1, g, A0, c0, d, a, rfl, hg, hg16, hgc, hcm, hd, hd100, hdc, hdm⟩, hb1⟩
    have HG := Lib.hid hg
    have HD := Lib.hid hd
    have s1 := hb1.size
    have hl9 : g.length ≤ 9223372036854775807 := by omega
    have hd9 : d.length ≤ 9223372036854775807 := by omega
    obtain ⟨L, hL⟩ : ∃ L, L = Bs.finL g d a := ⟨_, rfl⟩
    obtain ⟨ok, hok⟩ : ∃ ok, ok = Bs.finOk g d a := ⟨_, rfl⟩
    have c2 := FinishTask_any A1 c1 g A0 c0 d a w.heap.size w1.heap.size w.heap.size w1.heap.size w1 HG.out (Nat.le_refl _) HD.out (Nat.le_refl _) hl9 hd9
    have c3 := fun w2 hg hd hs => FinishTaskS_any A1 c1 g A0 c0 d a w.heap.size w1.heap.size w.heap.size w1.heap.size w2 hg hs hd hs hl9 hd9
    have hlen : L.length ≤ 1000 := by rw [hL]; have := finL_len g d a; omega
    rw [← hL, ← hok] at c2 c3
    have C2 := Lib.hid c2
    have C3 := Lib.hid c3
    have HL := Lib.hid hL
    have HOK := Lib.hid hok
    have HB1 := Lib.hid hb1
    clear C1 hg hd hL hok c2 c3 hb1
    go_wp2_with fail
    refine (C2.out).mono ?_
    rintro e w2 ⟨⟨A2, c2, rfl, ho2⟩, hb2⟩
    have s2 := hb2.size
    have HQ2 := Lib.hid ho2.ri
    have HG2 := Lib.hid (HG.out.below hb2 (Nat.le_refl _))
    have HD2 := Lib.hid (HD.out.below hb2 (Nat.le_refl _))
    have HB2 := Lib.hid (HB1.out.trans (hb2.mono s1))
    have C3 := Lib.hid (C3.out w2 HG2.out HD2.out s2)
    clear ho2 hb2 C2 HG HD HB1
    go_wp2_with fail
    refine (C3.out).mono ?_
    rintro e w3 ⟨⟨A3, c3, rfl, ho3⟩, hb3⟩
    have s3 := hb3.size
    have C4 := Lib.hid (fun n => equalInts_same A2 c2 A3 c3 L _ _ _ _ (w3.drewN n) ((HQ2.out.below hb3 (Nat.le_refl _)).drewN n) (ho3.ri.drewN n) (by omega))
    have HG3 := Lib.hid (HG2.out.below hb3 s2)
    have HD3 := Lib.hid (HD2.out.below hb3 s2)
    have HQ3 := Lib.hid (HQ2.out.below hb3 (Nat.le_refl _))
    have HB3 := Lib.hid (HB2.out.trans (hb3.mono (Nat.le_trans s1 s2)))
    clear ho3 hb3 C3 HQ2 HB2 HG2 HD2
    obtain ⟨W3, rfl⟩ : ∃ W3, W3 = w3 := ⟨_, rfl⟩
    have hs3 : w1.heap.size ≤ W3.heap.size := Nat.le_trans s2 s3
    go_wp2_with fail
    refine (C4.out 0).mono ?_
    rintro e w4 ⟨rfl, n0, hw4⟩
    obtain ⟨n, rfl⟩ : ∃ n, w4 = W3.drewN n := ⟨n0, hw4⟩
    clear hw4 n0
    cases ok
    · clear HL HOK HG3 HD3
      go_wp2_with fail
      refine (C4.out n).mono ?_
      rintro e w5 ⟨rfl, n5, rfl⟩
      go_wp2
      go_ret
      exact ⟨rfl, by first | exact HB3.out.drewN _ | exact (HB3.out.drewN _).drewN _⟩
    · have hok : Bs.finOk g d a = true := HOK.out.symm
      have hLC : L = Bs.finC g d a := by rw [HL.out]; exact finL_yes hok
      have hvd := (Bs.finOk_iff.1 hok).1
      obtain ⟨R, hR⟩ : ∃ R, R = Bs.readyL g d := ⟨_, rfl⟩
      have hRC : R = Bs.readyC g d := by rw [hR]; exact readyL_yes hvd
      have hrl := readyL_len g d
      rw [← hR] at hrl
      have HF := Lib.hid (fun x (hx : x ∈ R) (hne : ¬ x = a) => show ∃ LA LB, Bs.finL g L x = LA ∧ Bs.finOk g L x = true ∧ Bs.finL g d x = LB ∧ Bs.finOk g d x = true ∧ Bs.finL g LB a = LA ∧ Bs.finOk g LB a = true ∧ LA.length ≤ 16 ∧ LB.length ≤ 16 from by
        obtain ⟨o1, o2, o3, o4⟩ := Bs.order_fin hok (b := x) (by rw [← hRC]; exact hx) hne
        rw [hLC]
        refine ⟨_, Bs.finC g d x, finL_yes o1, o1, finL_yes o2, o2, ?_, o3, ?_, ?_⟩
        · rw [finL_yes o3, o4]
        · have := Bs.finC_len g (Bs.finC g d a) x; omega
        · have := Bs.finC_len g d x; omega)
      have c5 := fun W hg hd hs => ReadyTasks_any A1 c1 g A0 c0 d w.heap.size w1.heap.size w.heap.size w1.heap.size W hg hs hd hs hl9 hd9
      rw [← hR] at c5
      have C5 := Lib.hid (c5 (W3.drewN n) (HG3.out.drewN n) (HD3.out.drewN n) hs3)
      have CF := Lib.hid (fun A0 c0 (d : List Int) (x : Int) lo' hi' W hg hs hd hh' hd9 => FinishTask_any A1 c1 g A0 c0 d x w.heap.size w1.heap.size lo' hi' W hg hs hd hh' hl9 hd9)
      clear HL HOK hok hLC hvd hR hRC c5 C4
      go_wp2_with fail
      refine (C5.out).mono ?_
      rintro e w5 hr5
      obtain ⟨A5, c5, rfl, q5, hb5, hlc5, hcm5⟩ := hr5.ri
      have s5 : W3.heap.size ≤ w5.heap.size := hb5.size
      have HG5 := Lib.hid ((HG3.out.drewN n).below hb5 hs3)
      have HD5 := Lib.hid ((HD3.out.drewN n).below hb5 hs3)
      have HQ5 := Lib.hid ((HQ3.out.drewN n).below hb5 s3)
      have HB5 := Lib.hid ((HB3.out.drewN n).trans (hb5.mono (Nat.le_trans s1 hs3)))
      have HR5 := Lib.hid q5
      clear hr5 q5 hb5 C5 HG3 HQ3 HB3 HD3
      obtain ⟨W5, rfl⟩ : ∃ W5, W5 = w5 := ⟨_, rfl⟩
      have hs5 : w1.heap.size ≤ W5.heap.size := Nat.le_trans hs3 s5
      have hs25 : w2.heap.size ≤ W5.heap.size := Nat.le_trans s3 s5
      go_wp2
      go_loopw [11, 12, 13, 14, 15, 16, 17] (fun i _ _ _ _ _ _ wr => ∃ k : Nat, i = .int .i64 (k : Int) ∧ Below W5.heap.size W5 wr) (fun i _ _ _ _ _ _ _ => R.length + 1 - (intOf i).toNat)
      case atStart => exact ⟨0, rfl, Below.refl _ _⟩
      case round =>
        obtain ⟨k, rfl, hbr⟩ := hrel
        have sr := hbr.size
        have HBR := Lib.hid hbr
        have HGr := Lib.hid (HG5.out.below hbr hs5)
        have HDr := Lib.hid (HD5.out.below hbr hs5)
        have HQr := Lib.hid (HQ5.out.below hbr hs25)
        have HRr := Lib.hid (HR5.out.below hbr (Nat.le_refl _))
        clear hbr
        by_cases hi : k < R.length
        · obtain ⟨b, o, rfl, _, hbl, hc0⟩ := HRr.out k hi
          have hm : R[k] ∈ R := List.getElem_mem hi
          have b0 : (0 : Int) ≤ (k : Int) := by omega
          have b1 : (k : Int) < (R.length : Int) := by omega
          generalize R[k] = x at *
          by_cases hxa : x = a
          · have e1 : (x == a) = true := by simp [hxa]
            clear hxa hm
            go_wp2
            first
              | (refine ⟨⟨k + 1, by go_num, HBR.out⟩, ?_⟩; simp [intOf]; omega)
              | (go_roundw; (case rel => exact ⟨k + 1, by go_num, HBR.out⟩); (case measure => simp [intOf]; omega))
          · have e1 : (x == a) = false := by simp [hxa]
            obtain ⟨LA, LB, g1, g2, g3, g4, g5, g6, la, lb⟩ := HF.out x hm hxa
            have c6 := CF.out A2 c2 L x w1.heap.size w2.heap.size wr HGr.out (Nat.le_trans hs5 sr) HQr.out (Nat.le_trans hs25 sr) (by omega)
            rw [g1, g2] at c6
            have c7 := fun W hg hs hd hh => CF.out A0 c0 d x w.heap.size w1.heap.size W hg hs hd hh hd9
            rw [g3, g4] at c7
            have c8 := fun A c lo' hi' W hg hs hd hh => CF.out A c LB a lo' hi' W hg hs hd hh (by omega)
            rw [g5, g6] at c8
            have C6 := Lib.hid c6
            have C7 := Lib.hid c7
            have C8 := Lib.hid c8
            have hbw : b < wr.heap.size := by omega
            clear hxa hm g1 g2 g3 g4 g5 g6 c6 c7 c8
            go_wp2_with fail
            refine (C6.out).mono ?_
            rintro e w6 ⟨⟨A6, c6, rfl, ho6⟩, hb6⟩
            have s6 := hb6.size
            have hc6 := (hb6.cell (p := ⟨b, o + k, none⟩) hbw).trans hc0
            have HA6 := Lib.hid ho6.ri
            have HG6 := Lib.hid (HGr.out.below hb6 (Nat.le_trans hs5 sr))
            have HD6 := Lib.hid (HDr.out.below hb6 (Nat.le_trans hs5 sr))
            have HB6 := Lib.hid (HBR.out.trans (hb6.mono sr))
            have C7 := Lib.hid (C7.out w6 HG6.out (by omega) HD6.out (by omega))
            clear ho6 hb6 C6
            go_wp2_with fail
            refine (C7.out).mono ?_
            rintro e w7 ⟨⟨A7, c7, rfl, ho7⟩, hb7⟩
            have s7 := hb7.size
            have HA7 := Lib.hid (HA6.out.below hb7 (Nat.le_refl _))
            have HG7 := Lib.hid (HG6.out.below hb7 (by omega))
            have HB7 := Lib.hid (HB6.out.trans (hb7.mono (by omega)))
            have C8 := Lib.hid (C8.out A7 c7 w6.heap.size w7.heap.size w7 HG7.out (by omega) ho7.ri (Nat.le_refl _))
            clear ho7 hb7 C7
            go_wp2_with fail
            refine (C8.out).mono ?_
            rintro e w8 ⟨⟨A8, c8, rfl, ho8⟩, hb8⟩
            have s8 := hb8.size
            have HB8 := Lib.hid (HB7.out.trans (hb8.mono (by omega)))
            have C9 := Lib.hid (equalInts_same A6 c6 A8 c8 LA _ _ _ _ w8 (HA7.out.below hb8 s7) ho8.ri (by omega))
            clear ho8 hb8 C8
            go_wp2_with fail
            refine (C9.out).mono ?_
            rintro e w9 ⟨rfl, n9, rfl⟩
            go_wp2
            go_roundw
            case rel => exact ⟨k + 1, by go_num, HB8.out.drewN _⟩
            case measure => simp [intOf]; omega
        · go_wp2
          go_ret
          exact ⟨rfl, HB5.out.trans (HBR.out.mono (Nat.le_trans s1 hs5))⟩
end Go.Proofs.Ytcddjgiclnnilaa
