/-
  THE WALK OF laws.FnFinishTask.
-/
import Derived.Test.YtcddjgiclnnilaaX6
import Derived.Test.YtcddjgiclnnilaaRI
namespace Go.Proofs.Ytcddjgiclnnilaa
open Go.RowKit
set_option maxRecDepth 20000 in
set_option maxHeartbeats 6400000 in
theorem fnFinishTask_walk (A : Option Addr) (c : Nat) (l : List Int) (w : World) (hb : RB w 0 w.heap.size A l) (hlc : l.length ≤ c ∧ c ≤ maxLen) :
    Calls Try.prog 7 #[.slice A l.length c] w fun e w' => e = .returned (.bool true) ∧ Below w.heap.size w w' := by
  have hl63 : l.length ≤ 9223372036854775807 := by have := hlc.2; unfold maxLen at this; omega
  by_cases hbig : 1048576 < l.length
  · go_enter Try.func7, Try.ntmps7
    go_wp2
    go_ret
    exact ⟨rfl, Below.refl _ _⟩
  · have C1 := Lib.hid (DrawFinishTask_any A c l w hb hlc.1 hlc.2)
    clear hb
    go_enter Try.func7, Try.ntmps7
    go_wp2_with fail
    refine (C1.out).mono ?_
    rintro e w1 ⟨⟨A1, c1, g, A0, c0, d, a, rfl, hg, hg16, hgc, hcm, hd, hd100, hdc, hdm⟩, hb1⟩
    have HG := Lib.hid hg
    have HD := Lib.hid hd
    have s1 := hb1.size
    have hl9 : g.length ≤ 9223372036854775807 := by omega
    have hd9 : d.length ≤ 9223372036854775807 := by omega
    obtain ⟨L, hL⟩ : ∃ L, L = Bs.finL g d a := ⟨_, rfl⟩
    obtain ⟨ok, hok⟩ : ∃ ok, ok = Bs.finOk g d a := ⟨_, rfl⟩
    have c2 := FinishTask_any A1 c1 g A0 c0 d a w.heap.size w1.heap.size w.heap.size w1.heap.size w1 HG.out (Nat.le_refl _) HD.out (Nat.le_refl _) hl9 hd9
    have c3 := fun w2 hg hd hs => FinishTaskS_any A1 c1 g A0 c0 d a w.heap.size w1.heap.size w.heap.size w1.heap.size w2 hg hs hd hs hl9 hd9
    have hlen : L.length ≤ 1000 := by rw [hL]; have := finL_len g d a; omega
    rw [← hL, ← hok] at c2 c3
    have C2 := Lib.hid c2
    have C3 := Lib.hid c3
    have HL := Lib.hid hL
    have HOK := Lib.hid hok
    have HB1 := Lib.hid hb1
    clear C1 hg hd hL hok c2 c3 hb1
    go_wp2_with fail
    refine (C2.out).mono ?_
    rintro e w2 ⟨⟨A2, c2, rfl, ho2⟩, hb2⟩
    have s2 := hb2.size
    have HQ2 := Lib.hid ho2.ri
    have HG2 := Lib.hid (HG.out.below hb2 (Nat.le_refl _))
    have HD2 := Lib.hid (HD.out.below hb2 (Nat.le_refl _))
    have HB2 := Lib.hid (HB1.out.trans (hb2.mono s1))
    have C3 := Lib.hid (C3.out w2 HG2.out HD2.out s2)
    clear ho2 hb2 C2 HG HD HB1
    go_wp2_with fail
    refine (C3.out).mono ?_
    rintro e w3 ⟨⟨A3, c3, rfl, ho3⟩, hb3⟩
    have s3 := hb3.size
    have C4 := Lib.hid (fun n => equalInts_same A2 c2 A3 c3 L _ _ _ _ (w3.drewN n) ((HQ2.out.below hb3 (Nat.le_refl _)).drewN n) (ho3.ri.drewN n) (by omega))
    have HG3 := Lib.hid (HG2.out.below hb3 s2)
    have HD3 := Lib.hid (HD2.out.below hb3 s2)
    have HQ3 := Lib.hid (HQ2.out.below hb3 (Nat.le_refl _))
    have HB3 := Lib.hid (HB2.out.trans (hb3.mono (Nat.le_trans s1 s2)))
    clear ho3 hb3 C3 HQ2 HB2 HG2 HD2
    obtain ⟨W3, rfl⟩ : ∃ W3, W3 = w3 := ⟨_, rfl⟩
    have hs3 : w1.heap.size ≤ W3.heap.size := Nat.le_trans s2 s3
    go_wp2_with fail
    refine (C4.out 0).mono ?_
    rintro e w4 ⟨rfl, n0, hw4⟩
    obtain ⟨n, rfl⟩ : ∃ n, w4 = W3.drewN n := ⟨n0, hw4⟩
    clear hw4 n0
    cases ok
    · clear HL HOK HG3 HD3
      go_wp2_with fail
      refine (C4.out n).mono ?_
      rintro e w5 ⟨rfl, n5, rfl⟩
      go_wp2
      go_ret
      exact ⟨rfl, by first | exact HB3.out.drewN _ | exact (HB3.out.drewN _).drewN _⟩
    · have hok : Bs.finOk g d a = true := HOK.out.symm
      have hLC : L = Bs.finC g d a := by rw [HL.out]; exact finL_yes hok
      obtain ⟨f1, f2, f3, f4, f5, f6, f7⟩ := Bs.fin_law hok
      rw [← hLC] at f1 f2 f4 f5
      have H1 := Lib.hid f1
      have H2 := Lib.hid (Bs.contains_iff.2 f2)
      have H3 := Lib.hid (show d.contains a = false from by simpa using f3)
      have hl1 : ((L.length : Int) == (d.length : Int) + 1) = true := by rw [beq_iff_eq]; omega
      have c5 := fun W hg hq hs hs2 => ValidDone_any A1 c1 g A2 c2 L w.heap.size w1.heap.size w1.heap.size w2.heap.size W hg hs hq hs2 hl9 (by omega)
      rw [f5] at c5
      have C5 := Lib.hid c5
      clear HL HOK hok hLC f1 f2 f3 f4 f5 f6 f7 c5 C4
      go_wp2
      go_loopw [10] (fun i wr => ∃ k : Nat, i = .int .i64 (k : Int) ∧ wr = W3.drewN n) (fun i _ => d.length + 1 - (intOf i).toNat)
      case atStart => exact ⟨0, rfl, rfl⟩
      case round =>
        obtain ⟨k, rfl, rfl⟩ := hrel
        by_cases hi : k < d.length
        · obtain ⟨b, o, rfl, _, _, hc0⟩ := HD3.out k hi
          have hx := Bs.contains_iff.2 (H1.out d[k] (List.getElem_mem hi))
          have b0 : (0 : Int) ≤ (k : Int) := by omega
          have b1 : (k : Int) < (d.length : Int) := by omega
          generalize d[k] = x at *
          have c6 := lisIn_any A2 c2 L x _ _ (W3.drewN n) (HQ3.out.drewN n) (by omega)
          rw [hx] at c6
          have C6 := Lib.hid c6
          clear c6 hx
          go_wp2_with fail
          refine (C6.out).mono ?_
          rintro e w6 ⟨rfl, rfl⟩
          go_wp2
          go_roundw
          case rel => exact ⟨k + 1, by go_num, by first | rfl | trivial⟩
          case measure => simp [intOf]; omega
        · have c6 := lisIn_any A2 c2 L a _ _ (W3.drewN n) (HQ3.out.drewN n) (by omega)
          have c7 := lisIn_any A0 c0 d a _ _ (W3.drewN n) (HD3.out.drewN n) (by omega)
          rw [H2.out] at c6
          rw [H3.out] at c7
          have C6 := Lib.hid c6
          have C7 := Lib.hid c7
          have C8 := Lib.hid (C5.out (W3.drewN n) (HG3.out.drewN n) (HQ3.out.drewN n) hs3 s3)
          have hw : IntKind.i64.wrap ((d.length : Int) + 1) = (d.length : Int) + 1 := IntWalk.i64_in _ ⟨by omega, by omega⟩
          clear c6 c7
          go_wp2_with fail
          refine (C6.out).mono ?_
          rintro e w6 ⟨rfl, rfl⟩
          go_wp2_with fail
          refine (C7.out).mono ?_
          rintro e w7 ⟨rfl, rfl⟩
          go_wp2_with fail
          refine (C8.out).mono ?_
          rintro e w8 ⟨rfl, hb8⟩
          have HB8 := Lib.hid ((HB3.out.drewN n).trans (hb8.mono (Nat.le_trans s1 hs3)))
          clear hb8
          go_wp2
          go_ret
          exact ⟨rfl, HB8.out⟩
end Go.Proofs.Ytcddjgiclnnilaa
