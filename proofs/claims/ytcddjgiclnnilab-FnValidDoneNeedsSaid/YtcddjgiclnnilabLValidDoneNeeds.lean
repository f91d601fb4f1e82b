/-
  THE WALK OF laws.FnValidDoneNeeds.
-/
import Derived.Test.YtcddjgiclnnilabX6
import Derived.Test.YtcddjgiclnnilabRI
import Derived.Test.YtcddjgiclnnilabK5
namespace Go.Proofs.Ytcddjgiclnnilab
open Go.RowKit
set_option maxRecDepth 20000 in
set_option maxHeartbeats 6400000 in
theorem fnValidDoneNeeds_walk (A : Option Addr) (c : Nat) (l : List Int) (w : World) (hb : RB w 0 w.heap.size A l) (hlc : l.length ≤ c ∧ c ≤ maxLen) :
    Calls Try.prog 5 #[.slice A l.length c] w fun e w' => e = .returned (.bool true) ∧ Below w.heap.size w w' := by
  have hl63 : l.length ≤ 9223372036854775807 := by have := hlc.2; unfold maxLen at this; omega
  by_cases hbig : 1048576 < l.length
  · go_enter Try.func5, Try.ntmps5
    go_wp2
    go_ret
    exact ⟨rfl, Below.refl _ _⟩
  · have C1 := Lib.hid (DrawValidDone_any A c l w hb hlc.1 hlc.2)
    clear hb
    go_enter Try.func5, Try.ntmps5
    go_wp2_with fail
    refine (C1.out).mono ?_
    rintro e w1 ⟨⟨A1, c1, g, A0, c0, d, rfl, hg, hg16, hgc, hcm, hd, hd100, hdc, hdm⟩, hb1⟩
    have HG := Lib.hid hg
    have HD := Lib.hid hd
    have s1 := hb1.size
    have hl9 : g.length ≤ 9223372036854775807 := by omega
    have hd9 : d.length ≤ 9223372036854775807 := by omega
    have c2 := fun W hg hs hd hs2 => ValidDone_any A1 c1 g A0 c0 d w.heap.size w1.heap.size w.heap.size w1.heap.size W hg hs hd hs2 hl9 hd9
    have cs := fun W hg hs hd hs2 => ValidDoneS_any A1 c1 g A0 c0 d w.heap.size w1.heap.size w.heap.size w1.heap.size W hg hs hd hs2 hl9 hd9
    have C2 := Lib.hid (c2 w1 HG.out (Nat.le_refl _) HD.out (Nat.le_refl _))
    have HDN : Hid (Bs.vdone g d = true → ∀ x ∈ d, ∀ y ∈ Bs.needsA g x, d.contains y = true) := Lib.hid Bs.done_needs
    generalize Bs.vdone g d = ok at *
    have CS := Lib.hid cs
    have HB1 := Lib.hid hb1
    clear C1 hg hd c2 cs hb1
    go_wp2_with fail
    refine (C2.out).mono ?_
    rintro e w2 ⟨rfl, hb2⟩
    have s2 := hb2.size
    have HG2 := Lib.hid (HG.out.below hb2 (Nat.le_refl _))
    have HD2 := Lib.hid (HD.out.below hb2 (Nat.le_refl _))
    have HB2 := Lib.hid (HB1.out.trans (hb2.mono s1))
    have C3 := Lib.hid (CS.out w2 HG2.out s2 HD2.out s2)
    clear hb2 C2 HG HD HB1
    go_wp2_with fail
    refine (C3.out).mono ?_
    rintro e w3 ⟨rfl, hb3⟩
    have s3 := hb3.size
    have HG3 := Lib.hid (HG2.out.below hb3 s2)
    have HD3 := Lib.hid (HD2.out.below hb3 s2)
    have HB3 := Lib.hid (HB2.out.trans (hb3.mono (Nat.le_trans s1 s2)))
    have hs3 : w1.heap.size ≤ w3.heap.size := Nat.le_trans s2 s3
    have hne : (ok != ok) = false := by simp
    have heq : (ok == ok) = true := by simp
    obtain ⟨W3, rfl⟩ : ∃ W3, W3 = w3 := ⟨_, rfl⟩
    clear hb3 C3 HG2 HD2 HB2
    cases ok
    · have C6 := Lib.hid (CS.out W3 HG3.out hs3 HD3.out hs3)
      clear CS HDN
      go_wp2_with fail
      refine (C6.out).mono ?_
      rintro e w6 ⟨rfl, hb6⟩
      have HB6 := Lib.hid (HB3.out.trans (hb6.mono (Nat.le_trans s1 hs3)))
      clear hb6 C6
      go_wp2
      go_ret
      exact ⟨rfl, HB6.out⟩
    · have HX := Lib.hid (HDN.out rfl)
      have CN := Lib.hid (fun x W hg hs => AllNeeds_any A1 c1 g x w.heap.size w1.heap.size W hg hs hl9)
      have CL := Lib.hid (AllNeeds_len g)
      clear CS HDN hne heq
      go_wp2
      go_loopw [6, 7, 8] (fun i _ _ wr => ∃ k : Nat, i = .int .i64 (k : Int) ∧ Below W3.heap.size W3 wr) (fun i _ _ _ => d.length + 1 - (intOf i).toNat)
      case atStart => exact ⟨0, rfl, Below.refl _ _⟩
      case round =>
        obtain ⟨i, rfl, hbr⟩ := hrel
        have sr := hbr.size
        have HBR := Lib.hid hbr
        have HGr := Lib.hid (HG3.out.below hbr hs3)
        have HDr := Lib.hid (HD3.out.below hbr hs3)
        clear hbr
        by_cases hi : i < d.length
        · obtain ⟨b, o, rfl, _, hbo, hc0⟩ := HDr.out i hi
          have x3 := HX.out d[i] (List.getElem_mem hi)
          have b0 : (0 : Int) ≤ (i : Int) := by omega
          have b1 : (i : Int) < (d.length : Int) := by omega
          generalize d[i] = x at *
          obtain ⟨P, hP⟩ : ∃ P, P = Bs.needsA g x := ⟨_, rfl⟩
          have c5 := CN.out x wr HGr.out (Nat.le_trans hs3 sr)
          have hpl := CL.out x
          rw [← hP] at c5 hpl x3
          have C5 := Lib.hid c5
          have H3 := Lib.hid x3
          clear hP c5 x3
          go_wp2_with fail
          refine (C5.out).mono ?_
          rintro e w5 hr5
          obtain ⟨A5, c5, rfl, q5, hb5, hlc5, hcm5⟩ := hr5.ri
          have HP5 := Lib.hid q5
          have HB5 := Lib.hid (HBR.out.trans (hb5.mono sr))
          have HD5 := Lib.hid (HDr.out.below hb5 (Nat.le_trans hs3 sr))
          clear hr5 q5 hb5 C5
          obtain ⟨W6, rfl⟩ : ∃ W6, W6 = w5 := ⟨_, rfl⟩
          go_wp2
          go_loopw [8] (fun j wr => ∃ k : Nat, j = .int .i64 (k : Int) ∧ wr = W6) (fun j _ => P.length + 1 - (intOf j).toNat)
          case atStart => exact ⟨0, rfl, rfl⟩
          case round =>
            obtain ⟨j, rfl, rfl⟩ := hrel
            by_cases hj : j < P.length
            · obtain ⟨bn, on, rfl, _, _, hcn⟩ := HP5.out j hj
              have hy := H3.out P[j] (List.getElem_mem hj)
              have e0 : (0 : Int) ≤ (j : Int) := by omega
              have e1 : (j : Int) < (P.length : Int) := by omega
              generalize P[j] = y at *
              have c7 := lisIn_any (some ⟨b, o, none⟩) c0 d y _ _ wr HD5.out (by omega)
              rw [hy] at c7
              have C7 := Lib.hid c7
              clear hy c7
              go_wp2_with fail
              refine (C7.out).mono ?_
              rintro e w7 ⟨rfl, rfl⟩
              go_wp2
              go_roundw
              case rel => exact ⟨j + 1, by go_num, by first | rfl | trivial⟩
              case measure => simp [intOf]; omega
            · go_wp2
              go_roundw
              case rel => exact ⟨i + 1, by go_num, HB5.out⟩
              case measure => simp [intOf]; omega
        · go_wp2
          go_ret
          exact ⟨rfl, HB3.out.trans (HBR.out.mono (Nat.le_trans s1 hs3))⟩
end Go.Proofs.Ytcddjgiclnnilab
