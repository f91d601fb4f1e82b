/-
  THE WALK OF laws.FnLongestTimeMore.
-/
import Derived.Test.YtiokblodjhmjmabDrLongestTime
import Derived.Test.YtiokblodjhmjmabOU
namespace Go.Proofs.Ytiokblodjhmjmab
open Go.RowKit
set_option maxRecDepth 20000 in
set_option maxHeartbeats 6400000 in
theorem fnLongestTimeMore_walk (A : Option Addr) (c : Nat) (l : List Int) (w : World) (hb : RB w 0 w.heap.size A l) (hlc : l.length ≤ c ∧ c ≤ maxLen) :
    Calls Try.prog 13 #[.slice A l.length c] w fun e w' => e = .returned (.bool true) ∧ Below w.heap.size w w' := by
  have hl63 : l.length ≤ 9223372036854775807 := by have := hlc.2; unfold maxLen at this; omega
  by_cases hbig : 1048576 < l.length
  · go_enter Try.func13, Try.ntmps13
    go_wp2
    go_ret
    exact ⟨rfl, Below.refl _ _⟩
  · have C1 := Lib.hid (DrawLongestTime_any A c l w hb hlc.1 hlc.2)
    clear hb
    go_enter Try.func13, Try.ntmps13
    go_wp2_with fail
    refine (C1.out).mono ?_
    rintro e w1 ⟨⟨A1, c1, g, rfl, hg, hg16, hgc, hcm⟩, hb1⟩
    have HG := Lib.hid hg
    have s1 := hb1.size
    have hl9 : g.length ≤ 9223372036854775807 := by omega
    obtain ⟨n, hn⟩ : ∃ n, n = longL g := ⟨_, rfl⟩
    have c2 := LongestTime_any A1 c1 g w.heap.size w1.heap.size w1 HG.out (Nat.le_refl _) hl9
    rw [← hn] at c2
    have C2 := Lib.hid c2
    have CS := Lib.hid (fun w2 hg hs => LongestTimeS_any A1 c1 g w.heap.size w1.heap.size w2 hg hs hl9)
    rw [← hn] at CS
    have hx : ¬ n < 0 → _ := fun h0 => Bs.more_law hn h0
    have HX := Lib.hid hx
    have HB1 := Lib.hid hb1
    clear C1 hg hn c2 hb1 hx
    go_wp2_with fail
    refine (C2.out).mono ?_
    rintro e w2 ⟨rfl, hb2⟩
    have HG2 := Lib.hid (HG.out.below hb2 (Nat.le_refl _))
    have s2 := hb2.size
    have HB2 := Lib.hid (HB1.out.trans (hb2.mono s1))
    have C3 := Lib.hid (CS.out w2 HG2.out s2)
    clear hb2 C2
    have hne : (n != n) = false := by simp
    by_cases h0 : n < 0
    · have hd : decide (n < 0) = true := by simpa using h0
      clear h0 HX
      go_wp2_with fail
      refine (C3.out).mono ?_
      rintro e w3 ⟨rfl, hb3⟩
      have HG3 := Lib.hid (HG2.out.below hb3 s2)
      have s3 := hb3.size
      have HB3 := Lib.hid (HB2.out.trans (hb3.mono (Nat.le_trans s1 s2)))
      have C4 := Lib.hid (CS.out w3 HG3.out (Nat.le_trans s2 s3))
      clear hb3 C3
      go_wp2_with fail
      refine (C4.out).mono ?_
      rintro e w4 ⟨rfl, hb4⟩
      have HB4 := Lib.hid (HB3.out.trans (hb4.mono (Nat.le_trans (Nat.le_trans s1 s2) s3)))
      clear hb4 C4
      have heq : (n == n) = true := by simp
      go_wp2
      go_ret
      exact ⟨rfl, HB4.out⟩
    · have hd : decide (n < 0) = false := by simpa using h0
      obtain ⟨h8, hn2, hn0, hX⟩ := HX.out (by omega)
      have HT := Lib.hid hX
      clear h0 HX hX
      go_wp2_with fail
      refine (C3.out).mono ?_
      rintro e w3 ⟨rfl, hb3⟩
      have HG3 := Lib.hid (HG2.out.below hb3 s2)
      have s3 := hb3.size
      have HB3 := Lib.hid (HB2.out.trans (hb3.mono (Nat.le_trans s1 s2)))
      clear hb3 C3
      obtain ⟨W3, rfl⟩ : ∃ W3, W3 = w3 := ⟨_, rfl⟩
      have hs3 : w1.heap.size ≤ W3.heap.size := Nat.le_trans s2 s3
      go_wp2
      go_loopw [5, 6, 7] (fun i _ _ wr => ∃ k : Nat, k ≤ g.length ∧ i = .int .i64 k ∧ Below W3.heap.size W3 wr) (fun i _ _ _ => g.length + 1 - (intOf i).toNat)
      case atStart => exact ⟨0, Nat.zero_le _, rfl, Below.refl _ _⟩
      case round =>
        obtain ⟨k, hk, rfl, hbr⟩ := hrel
        have sr := hbr.size
        have HBR := Lib.hid hbr
        have HGr := Lib.hid (HG3.out.below hbr hs3)
        clear hbr
        by_cases hlt : k < g.length
        · obtain ⟨b, o, rs, rfl, hbl, hrl, hrows⟩ := HGr.out.rows (by omega)
          have HCF := Lib.hid (fun j u hu => ((Below.alloc (Below.refl wr.heap.size wr) (Nat.le_refl _) (.cells #[] 30)).cell (p := ⟨b, o + j, none⟩) (show b < wr.heap.size from by omega)).trans (rows_cells hrl hrows j u hu))
          obtain ⟨u0, u1, u2⟩ := HT.out k hlt
          have H2 := Lib.hid (u2 1 (by omega))
          have HRO := Lib.hid hrows
          have hp1 : ([] : List RW).length + rs.length ≤ 1000000000 := by simp only [List.length_nil]; omega
          have hkl : (k : Int) < (g.length : Int) := by omega
          obtain ⟨WR, rfl⟩ : ∃ WR, WR = wr := ⟨_, rfl⟩
          obtain ⟨T, hT⟩ : ∃ T, T = g[k].time := ⟨_, rfl⟩
          have HTT := Lib.hid hT
          rw [← hT] at u0 u1 H2
          clear u2 hrows hT
          have hw : IntKind.i64.wrap (T + 1) = T + 1 := IntWalk.i64_in _ ⟨by omega, by omega⟩
          go_wp2_with (at_builtin; go_loud (refine push_rows rfl _ _ rfl WR.heap.size (some ⟨WR.heap.size, 0, none⟩) 0 [] rs rfl (OU.nil WR WR.heap.size (Nat.le_refl _)) b o c1 (by rw [hrl]; rfl) HCF.out hp1 (by simp) ?_; intro A5 c5 w5 ho5 hb5; obtain ⟨bb, hA5, hbb, hltb, q0, f0, s5, _, hall⟩ := copied ho5 hb5 hrl HRO.out s1 (Nat.le_trans hs3 sr) hlt; subst hA5; rw [← HTT.out] at q0; have HAL := Lib.hid (hall 0); clear hall ho5 hb5))
          obtain ⟨R7, B7⟩ := HAL.out (T + 1)
          replace R7 : RG (w5.setCell ⟨bb, k * 4, none⟩ (.int .i64 (T + 1))) w.heap.size w5.heap.size (some ⟨bb, 0, none⟩) (Bs.setT g k (T + 1)) := R7
          replace B7 : Below WR.heap.size WR (w5.setCell ⟨bb, k * 4, none⟩ (.int .i64 (T + 1))) := B7
          obtain ⟨G, hG⟩ : ∃ G, G = Bs.setT g k (T + 1) := ⟨_, rfl⟩
          have hGl : G.length = g.length := by rw [hG]; exact Bs.setT_len _ _ _
          have h3 := H2.out
          rw [← hG] at R7 h3
          have c7 := LongestTime_any (some ⟨bb, 0, none⟩) c5 G w.heap.size w5.heap.size _ R7 (by simp) (by omega)
          have c8 := fun W hg hs => ValidGraph_any (some ⟨bb, 0, none⟩) c5 G w.heap.size w5.heap.size W hg hs (by omega)
          rw [hGl] at c7 c8
          generalize longL G = K at *
          generalize Bs.valid G = vg at *
          have C7 := Lib.hid c7
          have C8 := Lib.hid c8
          have HR7 := Lib.hid R7
          have HB7 := Lib.hid B7
          have H3 := Lib.hid h3
          clear c7 c8 R7 B7 h3 hG hGl HAL H2
          refine (C7.out).mono ?_
          rintro e w7 ⟨rfl, hb7⟩
          have s7 := hb7.size
          simp only [World.size_setCell] at s7
          have C8 := Lib.hid (C8.out w7 (HR7.out.below hb7 (by simp)) s7)
          have HB8 := Lib.hid (HB7.out.trans (hb7.mono (by simp; omega)))
          clear hb7 C7
          go_wp2_with fail
          refine (C8.out).mono ?_
          rintro e w8 ⟨rfl, hb8⟩
          have HB9 := Lib.hid (HBR.out.trans ((HB8.out.trans (hb8.mono (by omega))).mono sr))
          clear hb8 C8
          cases vg
          · go_wp2
            go_roundw
            case rel => exact ⟨k + 1, by omega, by go_num, HB9.out⟩
            case measure => simp [intOf]; omega
          · obtain ⟨hk1, hk2⟩ := H3.out rfl
            by_cases hKn : K = n
            · have hne : (K != n) = false := by simp [hKn]
              clear hKn hk1 hk2
              go_wp2
              go_roundw
              case rel => exact ⟨k + 1, by omega, by go_num, HB9.out⟩
              case measure => simp [intOf]; omega
            · have hKn1 : K = n + 1 := by omega
              have hne1 : (K != n) = true := by simp [hKn]
              have hne2 : (K != n + 1) = false := by simp [hKn1]
              clear hKn hk1 hk2 hKn1
              have hw : IntKind.i64.wrap (n + 1) = n + 1 := IntWalk.i64_in _ ⟨by omega, by omega⟩
              go_wp2
              go_roundw
              case rel => exact ⟨k + 1, by omega, by go_num, HB9.out⟩
              case measure => simp [intOf]; omega
        · go_wp2
          go_ret
          exact ⟨rfl, HB3.out.trans (HBR.out.mono (Nat.le_trans s1 hs3))⟩
end Go.Proofs.Ytiokblodjhmjmab
