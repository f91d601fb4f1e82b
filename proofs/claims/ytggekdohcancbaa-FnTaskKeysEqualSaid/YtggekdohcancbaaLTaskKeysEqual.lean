/-
  THE WALK OF laws.FnTaskKeysEqual.
-/
import Derived.Test.YtggekdohcancbaaK17
import Derived.Test.YtggekdohcancbaaX13
import Derived.Test.YtggekdohcancbaaW91
import Derived.Test.YtggekdohcancbaaR51
import Derived.Test.YtggekdohcancbaaMath72
import Derived.Test.YtggekdohcancbaaL1
import Derived.Test.YtggekdohcancbaaOW
namespace Go.Proofs.Ytggekdohcancbaa
open Go.RowKit
set_option maxRecDepth 20000 in
set_option maxHeartbeats 6400000 in
theorem fnTaskKeysEqual_walk (A : Option Addr) (c : Nat) (l : List Int) (w : World) (hb : RB w 0 w.heap.size A l) (hlc : l.length ≤ c ∧ c ≤ maxLen) :
    Calls Try.prog 9 #[.slice A l.length c] w fun e w' => e = .returned (.bool true) ∧ Below w.heap.size w w' := by
  have hl63 : l.length ≤ 9223372036854775807 := by have := hlc.2; unfold maxLen at this; omega
  by_cases hbig : 1048576 < l.length
  · go_enter Try.func9, Try.ntmps9
    go_wp2
    go_ret
    exact ⟨rfl, Below.refl _ _⟩
  · have C1 := Lib.hid (DrawTaskKeys_any A c l w hb hlc.1 hlc.2)
    clear hb
    go_enter Try.func9, Try.ntmps9
    go_wp2_with fail
    refine (C1.out).mono ?_
    rintro e w1 ⟨⟨A1, c1, g, A0, c0, d, rfl, hg, hg16, hgc, hcm, hd, hd100, hdc, hdm⟩, hb1⟩
    have HG := Lib.hid hg
    have HD := Lib.hid hd
    have s1 := hb1.size
    have hl9 : g.length ≤ 9223372036854775807 := by omega
    have hd9 : d.length ≤ 9223372036854775807 := by omega
    obtain ⟨L, hL⟩ : ∃ L, L = Bs.keysL g d := ⟨_, rfl⟩
    have c2 := TaskKeys_any A1 c1 g A0 c0 d w.heap.size w1.heap.size w.heap.size w1.heap.size w1 HG.out (Nat.le_refl _) HD.out (Nat.le_refl _) hl9 hd9
    have hlen : L.length ≤ 1000 := by rw [hL]; exact TaskKeys_len100 g d (by omega) (by omega)
    rw [← hL] at c2
    have C2 := Lib.hid c2
    have CS := Lib.hid (fun w2 hg hd hs => TaskKeysS_any A1 c1 g A0 c0 d w.heap.size w1.heap.size w.heap.size w1.heap.size w2 hg hs hd hs hl9 hd9)
    rw [← hL] at CS
    have HL := Lib.hid hL
    have HB1 := Lib.hid hb1
    clear C1 hg hd hL c2 hb1
    go_wp2_with fail
    refine (C2.out).mono ?_
    rintro e w2 hr2
    obtain ⟨A2, c2, rfl, q2, hb2, hlc2, hcm2⟩ := hr2.ri
    have s2 := hb2.size
    have HQ2 := Lib.hid q2
    have HG2 := Lib.hid (HG.out.below hb2 (Nat.le_refl _))
    have HD2 := Lib.hid (HD.out.below hb2 (Nat.le_refl _))
    have HB2 := Lib.hid (HB1.out.trans (hb2.mono s1))
    have C3 := Lib.hid (CS.out w2 HG2.out HD2.out s2)
    clear hr2 q2 hb2 C2 HG HD HB1
    go_wp2_with fail
    refine (C3.out).mono ?_
    rintro e w3 hr3
    obtain ⟨A3, c3, rfl, q3, hb3, hlc3, hcm3⟩ := hr3.ri
    have s3 := hb3.size
    have C4 := Lib.hid (equalInts_same A2 c2 A3 c3 L _ _ _ _ w3 (HQ2.out.below hb3 (Nat.le_refl _)) q3 (by omega))
    have HG3 := Lib.hid (HG2.out.below hb3 s2)
    have HD3 := Lib.hid (HD2.out.below hb3 s2)
    have HQ3 := Lib.hid (HQ2.out.below hb3 (Nat.le_refl _))
    have HB3 := Lib.hid (HB2.out.trans (hb3.mono (Nat.le_trans s1 s2)))
    clear hr3 q3 hb3 C3 HQ2 HB2 HG2 HD2
    go_wp2_with fail
    refine (C4.out).mono ?_
    rintro e w4 ⟨rfl, n, rfl⟩
    clear C4
    obtain ⟨W3, rfl⟩ : ∃ W3, W3 = w3 := ⟨_, rfl⟩
    have hs23 : w2.heap.size ≤ (W3.drewN n).heap.size := s3
    have hs3 : w1.heap.size ≤ (W3.drewN n).heap.size := Nat.le_trans s2 s3
    by_cases h0 : L.length = 0
    · have hq0 : ((L.length : Int) == 0) = true := by simp [h0]
      clear h0 HL
      have hsA : w1.heap.size ≤ (W3.drewN n).heap.size := hs3
      go_wp2_with fail
      refine (CS.out (W3.drewN n) (HG3.out.drewN n) (HD3.out.drewN n) hsA).mono ?_
      rintro e wA hrA
      obtain ⟨AA, cA, rfl, qA, hbA, _, _⟩ := hrA.ri
      have sA := hbA.size
      have CB := Lib.hid (equalInts_same A2 c2 AA cA L _ _ _ _ wA ((HQ3.out.drewN n).below hbA (by first | exact hsA | omega)) qA (by omega))
      have HBA := Lib.hid ((HB3.out.drewN n).trans (hbA.mono (Nat.le_trans s1 hsA)))
      clear hrA qA hbA
      go_wp2_with fail
      refine (CB.out).mono ?_
      rintro e wB ⟨rfl, nB, rfl⟩
      go_wp2
      go_ret
      exact ⟨rfl, HBA.out.drewN _⟩
    · have hq0 : ((L.length : Int) == 0) = false := by rw [beq_eq_false_iff_ne]; omega
      have hok := key_can HL.out h0
      have hLC := key_is HL.out hok
      obtain ⟨hval, hlen, hall⟩ := Bs.inpOk_iff.1 hok
      have h8 := Bs.fine_len (valid_fine hval)
      have hok2 : Bs.inpOk (g.map Bs.plainT) d = true := Bs.inpOk_iff.2 ⟨Bs.plain_valid hval, by rw [List.length_map]; exact hlen, hall⟩
      have hkp : Bs.keysL (g.map Bs.plainT) d = L := by rw [Bs.keysL_yes hok2, Bs.plain_keys, hLC]
      have HNL := Lib.hid (fun k (hk : k < g.length) => Bs.fine_needs_len (valid_fine hval) hk)
      have hg4 := HG3.out.drewN n
      have hd4 := HD3.out.drewN n
      have hq4 := HQ3.out.drewN n
      have hb4 := HB3.out.drewN n
      generalize W3.drewN n = W4 at *
      have CK := Lib.hid (fun A5 c5 W (hb : Below W4.heap.size W4 W) (hr : RG W w.heap.size W.heap.size A5 (g.map Bs.plainT)) => show Calls Try.prog 24 #[.slice A5 g.length c5, .slice A0 d.length c0] W (RetI W L) from by
        have := TaskKeys_any A5 c5 (g.map Bs.plainT) A0 c0 d w.heap.size W.heap.size w.heap.size w1.heap.size W hr (Nat.le_refl _) (hd4.below hb hs3) (Nat.le_trans hs3 hb.size) (by rw [List.length_map]; exact hl9) hd9
        rw [hkp, List.length_map] at this
        exact this)
      have HG4 := Lib.hid hg4
      have HQ4 := Lib.hid (fun W (hb : Below W4.heap.size W4 W) => hq4.below hb hs23)
      have HB4 := Lib.hid hb4
      have s4 := hb4.size
      have HO0 := Lib.hid (OU.nil W4 W4.heap.size (Nat.le_refl _))
      have HBE := Lib.hid (Below.alloc (Below.refl W4.heap.size W4) (Nat.le_refl _) (.cells #[] 35))
      clear HL h0 hok hLC hval hlen hall hok2 hkp hg4 hd4 hq4 hb4 CS HG3 HD3 HQ3 HB3
      go_wp2
      go_loopw [6, 7] (fun v i wr => ∃ (k : Nat) (A5 : Option Addr) (c5 : Nat) (rs : List RW), k ≤ g.length ∧ i = .int .i64 k ∧ v = .slice A5 rs.length c5 ∧ rs.length = k ∧ (∀ j (hj : j < rs.length) (hj' : j < g.length), rs[j].t = Bs.plainT g[j] ∧ g[j].needs.length ≤ rs[j].c ∧ rs[j].c ≤ 9223372036854775807 ∧ RI W4 w.heap.size w1.heap.size rs[j].N g[j].needs) ∧ OU wr W4.heap.size A5 c5 rs ∧ Below W4.heap.size W4 wr) (fun _ i _ => g.length - (intOf i).toNat)
      case atStart => exact ⟨0, _, _, [], Nat.zero_le _, rfl, rfl, rfl, fun j hj => absurd hj (by simp), HO0.out, HBE.out⟩
      case round =>
        obtain ⟨k, A5, c5, rs, hk, rfl, rfl, hrl, hrows, ho, hb⟩ := hrel
        have HRL := Lib.hid hrl
        have hrl8 : rs.length ≤ 8 := by omega
        have HRO := Lib.hid hrows
        have HO := Lib.hid ho
        have HBk := Lib.hid hb
        have sr := hb.size
        clear hrows ho hb hrl
        by_cases hlt : k < g.length
        · obtain ⟨bg, og, N, cN, rfl, _, hgh, q0, q1, q2, q3, hlN, hcN, hN⟩ := HG4.out k hlt
          have hq1 := (HBk.out.cell (p := ⟨bg, og + k * 4 + 1, none⟩) (show bg < W4.heap.size from by omega)).trans q1
          have d1 : (k : Int) < (g.length : Int) := by omega
          have HNN := Lib.hid hN
          have HNC := Lib.hid (new_cellsU wr ⟨Bs.plainT g[k], N, cN⟩)
          have hpl : [({ t := Bs.plainT g[k], N := N, c := cN } : RW)].length = 1 := rfl
          clear q0 q2 q3 q1 hN HNL
          go_wp2_with (at_builtin; go_loud (refine push_rows rfl _ _ rfl W4.heap.size A5 c5 rs [⟨Bs.plainT g[k], N, cN⟩] rfl (HO.out.alloc _) wr.heap.size 0 1 rfl HNC.out (by simp; omega) (by simp; omega) ?_; intro A7 c7 w7 ho7 hb7))
          go_roundw
          case rel =>
            refine ⟨k + 1, A7, c7, rs ++ [⟨Bs.plainT g[k], N, cN⟩], by omega, by go_num, by rw [List.length_append]; rfl, by rw [List.length_append]; have := HRL.out; simp; omega, ?_, ho7, (HBk.out.alloc sr _).trans hb7⟩
            intro j hj hj'
            by_cases e : j < rs.length
            · rw [List.getElem_append_left e]
              exact HRO.out j e hj'
            · have hjk : j = k := by rw [List.length_append] at hj; simp at hj; have := HRL.out; omega
              subst hjk
              rw [List.getElem_append_right (by omega)]
              simp only [HRL.out, Nat.sub_self, List.getElem_cons_zero]
              refine ⟨by first | rfl | trivial, hlN, hcN, HNN.out⟩
          case measure => simp [intOf]; omega
        · have hkg : rs.length = g.length := by have := HRL.out; omega
          have hrg := HO.out.plainRG (W := W4) (lo := w.heap.size) (hi := w1.heap.size) hkg (fun j hj hj' => HRO.out j hj hj') (HBk.out.mono hs3) (by omega) (by omega)
          have c6 := CK.out A5 c5 wr HBk.out hrg
          rw [← hkg] at c6
          have C6 := Lib.hid c6
          have HQr := Lib.hid (HQ4.out wr HBk.out)
          have HBF := Lib.hid (HB4.out.trans (HBk.out.mono s4))
          have hd : decide ((k : Int) < (g.length : Int)) = false := by simp; omega
          clear c6 hrg HRO HO CK HQ4 hkg
          go_wp2_with fail
          with_reducible refine (C6.out).mono ?_
          rintro e w7 ⟨⟨A7, c7, rfl, ho7⟩, hb7⟩
          have C8 := Lib.hid (equalInts_same A7 c7 A2 c2 L _ _ _ _ w7 ho7.ri (HQr.out.below hb7 (by omega)) (by omega))
          have HB7 := Lib.hid (HBF.out.trans (hb7.mono HBF.out.size))
          clear ho7 hb7 C6
          go_wp2_with fail
          with_reducible refine (C8.out).mono ?_
          rintro e w8 ⟨rfl, m8, rfl⟩
          go_wp2
          go_ret
          exact ⟨rfl, HB7.out.drewN _⟩
end Go.Proofs.Ytggekdohcancbaa
