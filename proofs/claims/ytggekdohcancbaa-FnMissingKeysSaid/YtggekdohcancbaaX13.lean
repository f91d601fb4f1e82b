/-
  WALKS: the draws of chapter 10.
-/
import Derived.Test.YtggekdohcancbaaX11
import Derived.Test.YtggekdohcancbaaR51
import Derived.Test.YtggekdohcancbaaMem8
namespace Go.Proofs.Ytggekdohcancbaa
open Go.RowKit
theorem DrawStaleTasks_any (A : Option Addr) (c : Nat) (l : List Int) (w : World) (hb : RB w 0 w.heap.size A l) (hl : l.length ≤ c) (hc : c ≤ maxLen) :
    Calls Try.prog 15 #[.slice A l.length c] w (DrawGD w) := by
  have C1 := Lib.hid (DrawUsedUnits_any A c l w hb hl hc)
  clear hb
  go_enter Try.func15, Try.ntmps15
  go_wp2_with fail
  with_reducible refine (C1.out).mono ?_
  rintro e w4 ⟨⟨A2, c2, g, A3, c3, l3, rfl, hg, hg16, hgc, hcm, hl3, hl100, hlc3, hcm3⟩, hb4⟩
  have HG4 := Lib.hid hg
  have HL3 := Lib.hid hl3
  have HB4 := Lib.hid hb4
  clear hg hl3 hb4
  go_wp2
  go_ret2
  exact ⟨⟨A2, c2, g, A3, c3, l3, rfl, HG4.out, hg16, hgc, hcm, HL3.out, by omega, hlc3, hcm3⟩, HB4.out⟩
theorem DrawStaleTime_any (A : Option Addr) (c : Nat) (l : List Int) (w : World) (hb : RB w 0 w.heap.size A l) (hl : l.length ≤ c) (hc : c ≤ maxLen) :
    Calls Try.prog 29 #[.slice A l.length c] w (DrawGD w) := by
  have C1 := Lib.hid (DrawUsedUnits_any A c l w hb hl hc)
  clear hb
  go_enter Try.func29, Try.ntmps29
  go_wp2_with fail
  with_reducible refine (C1.out).mono ?_
  rintro e w4 ⟨⟨A2, c2, g, A3, c3, l3, rfl, hg, hg16, hgc, hcm, hl3, hl100, hlc3, hcm3⟩, hb4⟩
  have HG4 := Lib.hid hg
  have HL3 := Lib.hid hl3
  have HB4 := Lib.hid hb4
  clear hg hl3 hb4
  go_wp2
  go_ret2
  exact ⟨⟨A2, c2, g, A3, c3, l3, rfl, HG4.out, hg16, hgc, hcm, HL3.out, by omega, hlc3, hcm3⟩, HB4.out⟩
set_option maxHeartbeats 1600000 in
theorem someInputsX (A : Option Addr) (c n lo rb P : Nat) (w : World) (hs : RD w lo rb P) (hP : P ≤ 800000) (hn : n ≤ 16) :
    Calls Try.prog 49 #[.pointer (some ⟨rb, 0, none⟩), .slice A n c] w (SpX lo rb (P + 60) 100 w) := by
  have hrb := hs.lt
  have hal := Below.alloc (Below.refl w.heap.size w) (Nat.le_refl _) (.cells #[] 3)
  have HF0 := Lib.hid (Fx.of (rb := rb) hal)
  have HS0 := Lib.hid (hs.after hal)
  clear hs hal
  go_enter Try.func49, Try.ntmps49
  go_wp2
  go_loopw [5, 6] (fun v i wr => ∃ (k : Nat) (A1 : Option Addr) (c1 : Nat) (l : List Int), i = .int .i64 (k : Int) ∧ v = .slice A1 l.length c1 ∧ k ≤ n ∧ l.length ≤ k ∧ OI wr w.heap.size A1 c1 l ∧ RD wr lo rb (P + 2 * k) ∧ Fx rb w wr) (fun _ i _ => n - (intOf i).toNat)
  case atStart => exact ⟨0, _, _, [], rfl, rfl, Nat.zero_le _, Nat.zero_le _, OI.new _ _ (Nat.le_refl _), HS0.out, HF0.out⟩
  case round =>
    obtain ⟨k, A1, c1, l, rfl, rfl, hk, hlk, ho, hs, hf⟩ := hrel
    have sr := hf.size
    have HO := Lib.hid ho
    have HS := Lib.hid hs
    have HF := Lib.hid hf
    clear ho hs hf HS0 HF0
    by_cases hlt : k < n
    · have C1 := Lib.hid (pickX 250 lo rb (P + 2 * k) wr HS.out (by omega) (by omega))
      have d1 : decide ((k : Int) < (n : Int)) = true := by simp; omega
      go_wp2_with fail
      refine (C1.out).mono ?_
      rintro e w1 ⟨⟨q, rfl, hq, _⟩, hs1, hf1⟩
      have hq2 := hq (by omega)
      have hw : IntKind.i64.wrap (4 * (q : Int)) = 4 * (q : Int) := IntWalk.i64_in _ ⟨by omega, by omega⟩
      have C2 := Lib.hid (one_newX #[.int .i64 0, .int .i64 1, .int .i64 7, .int .i64 1000, .int .i64 (4 * (q : Int))] 5 lo rb (P + 2 * k + 1) w1 hs1 (by omega) (one5 _ _ _ _ _) (by omega) (by omega) rfl)
      have s1 := hf1.size
      have HF1 := Lib.hid (HF.out.trans hf1)
      have HO1 := Lib.hid (HO.out.fx hf1 hrb)
      clear hs1 hf1 C1 HO HS HF hq
      go_wp2_with fail
      refine (C2.out).mono ?_
      rintro e w2 ⟨⟨x, rfl⟩, hs2, hf2⟩
      have s2 := hf2.size
      have HS2 := Lib.hid hs2
      have HF2 := Lib.hid (HF1.out.trans hf2)
      have HO2 := Lib.hid (HO1.out.fx hf2 hrb)
      clear hs2 hf2 C2 HO1 HF1 hw
      go_wp2_with (at_builtin; go_loud (refine push_int rfl _ _ rfl w.heap.size A1 c1 l x rfl (HO2.out.alloc _) w2.heap.size 1 rfl (by simp [go_sem]) (by omega) (by simp; omega) ?_; intro A3 c3 w3 ho3 hb3 _; have HB3 := Lib.hid hb3; have HO3 := Lib.hid ho3; clear hb3 ho3))
      have HS3 := Lib.hid ((HS2.out.after (Below.alloc (Below.refl _ _) (Nat.le_refl _) (.cells #[.int .i64 x] 3))).below HB3.out hrb)
      have HF3 := Lib.hid ((HF2.out.alloc (.cells #[.int .i64 x] 3)).then_ HB3.out)
      go_wp2
      go_roundw
      case rel => exact ⟨k + 1, A3, c3, l ++ [x], by go_num, by simp, by omega, by simp; omega, HO3.out, HS3.out.more (by omega), HF3.out⟩
      case measure => simp [intOf]; omega
    · have d1 : decide ((k : Int) < (n : Int)) = false := by simp; omega
      have C2 := Lib.hid (spoilX A1 c1 l lo rb (P + 2 * k) w.heap.size wr.heap.size 1001 wr HS.out (by omega) HO.out.ri (Nat.le_refl _) (by omega))
      go_wp2_with fail
      refine (C2.out).mono ?_
      rintro e w2 ⟨⟨A2, c2, l2, rfl, hl, hlc, hcm, hlm⟩, hs2, hf2⟩
      have HL := Lib.hid (hl.more sr (Nat.le_refl _))
      have HS2 := Lib.hid (hs2.more (P' := P + 60) (by omega))
      have HF2 := Lib.hid (HF.out.trans hf2)
      clear hl hs2 hf2 C2
      go_wp2
      go_ret
      exact ⟨⟨A2, c2, l2, rfl, HL.out, hlc, hcm, by omega⟩, HS2.out, HF2.out⟩
theorem DrawTaskKeys_any (A : Option Addr) (c : Nat) (l : List Int) (w : World) (hb : RB w 0 w.heap.size A l) (hl : l.length ≤ c) (hc : c ≤ maxLen) :
    Calls Try.prog 23 #[.slice A l.length c] w (DrawGD w) := by
  have C1 := Lib.hid (newReader_any A c l w hb hl hc)
  clear hb
  go_enter Try.func23, Try.ntmps23
  go_wp2_with fail
  refine (C1.out).mono ?_
  rintro e w1 ⟨rb, rfl, hs1, hf1⟩
  have hrlo := hs1.rd.1
  have C2 := Lib.hid (anyGraph_any w.heap.size rb 0 w1 hs1 (by omega))
  have HF := Lib.hid hf1
  clear hs1 hf1 C1
  go_wp2_with fail
  refine (C2.out).mono ?_
  rintro e w2 hG
  obtain ⟨A2, c2, g, rfl, hg, hg16, hgc, hcm, hrd, hf2⟩ := hG.open_
  have hrb := hrd.lt
  have s2 := hf2.1.size
  have C3 := Lib.hid (someInputsX A2 c2 g.length w.heap.size rb _ w2 hrd (by omega) hg16)
  have HG := Lib.hid hg
  have HF2 := Lib.hid (HF.out.1.trans hf2.1)
  clear hG hg hrd hf2 C2
  go_wp2_with fail
  refine (C3.out).mono ?_
  rintro e w3 ⟨⟨A3, c3, l3, rfl, hl3, hlc3, hcm3, hlm3⟩, hs3, hf3⟩
  have s3 := hf3.size
  have s0 := HF2.out.size
  have HG3 := Lib.hid ((HG.out.fx hf3 (Nat.le_refl _)).rg.more (Nat.le_refl _) s3)
  have HL3 := Lib.hid (hl3.more s0 (Nat.le_refl _))
  have HB3 := Lib.hid (HF2.out.trans (hf3.below hrlo hrb))
  clear hl3 hs3 hf3 C3
  go_wp2
  go_ret2
  exact ⟨⟨A2, c2, g, A3, c3, l3, rfl, HG3.out, hg16, hgc, hcm, HL3.out, hlm3, hlc3, hcm3⟩, HB3.out⟩
/-- a graph and two lists -/
def DrawGDD (w : World) (e : Ending) (w' : World) : Prop := (∃ A c g A2 c2 l A3 c3 m, e = .returned (.tuple #[.slice A (List.length g) c, .slice A2 (List.length l) c2, .slice A3 (List.length m) c3]) ∧ RG w' w.heap.size w'.heap.size A g ∧ g.length ≤ 16 ∧ g.length ≤ c ∧ c ≤ maxLen ∧
  RI w' w.heap.size w'.heap.size A2 l ∧ l.length ≤ 100 ∧ l.length ≤ c2 ∧ c2 ≤ maxLen ∧ RI w' w.heap.size w'.heap.size A3 m ∧ m.length ≤ 100 ∧ m.length ≤ c3 ∧ c3 ≤ maxLen) ∧ Below w.heap.size w w'
theorem keysL_len100 (g : List Bs.T) (inp : List Int) (h : g.length ≤ 16) : (Bs.keysL g inp).length ≤ 16 := Nat.le_trans (Bs.keysL_len g inp) h
set_option maxRecDepth 20000 in
set_option maxHeartbeats 3200000 in
theorem DrawMissingKeys_any (A : Option Addr) (c : Nat) (l : List Int) (w : World) (hb : RB w 0 w.heap.size A l) (hl : l.length ≤ c) (hc : c ≤ maxLen) :
    Calls Try.prog 26 #[.slice A l.length c] w (DrawGDD w) := by
  have C1 := Lib.hid (newReader_any A c l w hb hl hc)
  clear hb
  go_enter Try.func26, Try.ntmps26
  go_wp2_with fail
  refine (C1.out).mono ?_
  rintro e w1 ⟨rb, rfl, hs1, hf1⟩
  have hrlo := hs1.rd.1
  have C2 := Lib.hid (anyGraph_any w.heap.size rb 0 w1 hs1 (by omega))
  have HF := Lib.hid hf1
  clear hs1 hf1 C1
  go_wp2_with fail
  refine (C2.out).mono ?_
  rintro e w2 hG
  obtain ⟨A2, c2, g, rfl, hg, hg16, hgc, hcm, hrd, hf2⟩ := hG.open_
  have hrb := hrd.lt
  have s2 := hf2.1.size
  have C3 := Lib.hid (someInputsX A2 c2 g.length w.heap.size rb _ w2 hrd (by omega) hg16)
  have HG := Lib.hid hg
  have HF2 := Lib.hid (HF.out.1.trans hf2.1)
  clear hG hg hrd hf2 C2
  go_wp2_with fail
  refine (C3.out).mono ?_
  rintro e w3 ⟨⟨A3, c3, l3, rfl, hl3, hlc3, hcm3, hlm3⟩, hs3, hf3⟩
  have s3 := hf3.size
  have s0 := HF2.out.size
  have hrb3 := hs3.lt
  have hG3 := HG.out.fx hf3 (Nat.le_refl _)
  have C4 := Lib.hid (TaskKeysS_any A2 c2 g A3 c3 l3 w.heap.size w2.heap.size w2.heap.size w3.heap.size w3 hG3.rg s3 hl3 (Nat.le_refl _) (by omega) (by omega))
  have HGS := Lib.hid hG3
  have HL3 := Lib.hid hl3
  have HS3 := Lib.hid hs3
  have HB3 := Lib.hid (HF2.out.trans (hf3.below hrlo hrb))
  clear hl3 hs3 hf3 C3 hG3 HG HF2 HF
  have hkl := keysL_len100 g l3 hg16
  generalize Bs.keysL g l3 = K0 at *
  go_wp2_with fail
  with_reducible refine (C4.out).mono ?_
  rintro e w4 ⟨⟨A4, c4, rfl, ho4⟩, hb4⟩
  have HO4 := Lib.hid ho4
  have HS4 := Lib.hid (HS3.out.after hb4)
  have HF4 := Lib.hid (Fx.of (rb := rb) hb4)
  clear ho4 hb4 C4 HS3
  obtain ⟨nK, hnK⟩ : ∃ nK, nK = K0.length := ⟨_, rfl⟩
  rw [← hnK] at hkl
  have HNK := Lib.hid hnK
  go_wp2
  go_loopw [9] (fun i wr => ∃ (k : Nat) (K : List Int), i = .int .i64 (k : Int) ∧ k ≤ nK ∧ K.length = nK ∧ OI wr w3.heap.size A4 c4 K ∧ RD wr w.heap.size rb (20000 + 2 * k) ∧ Fx rb w3 wr) (fun i _ => nK - (intOf i).toNat)
  case atStart => exact ⟨0, K0, rfl, Nat.zero_le _, HNK.out.symm, HO4.out, HS4.out.more (by omega), HF4.out⟩
  case round =>
    obtain ⟨k, K, rfl, hk, hKn, ho, hs, hf⟩ := hrel
    have sr := hf.size
    have HO := Lib.hid ho
    have HS := Lib.hid hs
    have HF := Lib.hid hf
    have HKN := Lib.hid hKn
    clear ho hs hf hKn HO4 HS4 HF4
    by_cases hlt : k < nK
    · have C5 := Lib.hid (pickX 3 w.heap.size rb (20000 + 2 * k) wr HS.out (by omega) (by omega))
      have d1 : (k : Int) < (K0.length : Int) := by have := HNK.out; omega
      go_wp2_with fail
      refine (C5.out).mono ?_
      rintro e w5 ⟨⟨q, rfl, _, _⟩, hs5, hf5⟩
      have s5 := hf5.size
      have HS5 := Lib.hid hs5
      have HF5 := Lib.hid (HF.out.trans hf5)
      have HO5 := Lib.hid (HO.out.fx hf5 hrb3)
      clear hs5 hf5 C5 HO HS HF
      by_cases hq : q = 0
      · subst hq
        have C6 := Lib.hid (pickX 250 w.heap.size rb (20000 + 2 * k + 1) w5 HS5.out (by omega) (by omega))
        go_wp2_with fail
        refine (C6.out).mono ?_
        rintro e w6 ⟨⟨x, rfl, _, _⟩, hs6, hf6⟩
        have s6 := hf6.size
        have HS6 := Lib.hid hs6
        have HF6 := Lib.hid (HF5.out.trans hf6)
        have ho6 := HO5.out.fx hf6 hrb3
        obtain ⟨b, rfl, hb3, hbl, hc0, hfr, hO7⟩ := ho6.setO (show k < K.length by have := HKN.out; omega) (x : Int)
        have HO7 := Lib.hid hO7
        have HS7 := Lib.hid (HS6.out.setNew (p := ⟨b, k, none⟩) (by show rb < b; omega) (.int .i64 (x : Int)))
        have HF7 := Lib.hid (HF6.out.setNew (p := ⟨b, k, none⟩) (by show w3.heap.size ≤ b; omega) (.int .i64 (x : Int)))
        have i0 : (0 : Int) ≤ (k : Int) := by omega
        clear hs6 hf6 C6 HO5 HS5 HF5 ho6 hO7
        go_wp2
        go_roundw
        case rel => exact ⟨k + 1, K.set k (x : Int), by go_num, by omega, by rw [List.length_set]; exact HKN.out, HO7.out, HS7.out.more (by omega), HF7.out⟩
        case measure => simp [intOf]; omega
      · have hq' : ((q : Int) == 0) = false := by rw [beq_eq_false_iff_ne]; omega
        go_wp2
        go_roundw
        case rel => exact ⟨k + 1, K, by go_num, by omega, HKN.out, HO5.out, HS5.out.more (by omega), HF5.out⟩
        case measure => simp [intOf]; omega
    · have d1 : ¬ (k : Int) < (K0.length : Int) := by have := HNK.out; omega
      have C5 := Lib.hid (pickX 16 w.heap.size rb (20000 + 2 * k) wr HS.out (by omega) (by omega))
      go_wp2_with fail
      refine (C5.out).mono ?_
      rintro e w5 ⟨⟨q, rfl, _, _⟩, hs5, hf5⟩
      have s5 := hf5.size
      have HF5 := Lib.hid (HF.out.trans hf5)
      have HO5 := Lib.hid (HO.out.fx hf5 hrb3)
      clear hs5 hf5 C5 HO HS HF
      by_cases hq : q = 0
      · subst hq
        have hK16 : K.length ≤ 16 := by have := HKN.out; omega
        have e0 : K0.length = K.length := by have := HKN.out; have := HNK.out; omega
        rw [e0]
        go_wp2
        go_loopw [8] (fun v wr2 => ∃ (A6 : Option Addr) (c6 : Nat) (L : List Int), v = .slice A6 L.length c6 ∧ L.length ≤ 21 ∧ OI wr2 w3.heap.size A6 c6 L ∧ Fx rb w3 wr2) (fun v _ => 21 - lenOf v)
        case atStart => exact ⟨A4, c4, K, rfl, by omega, HO5.out, HF5.out⟩
        case round =>
          obtain ⟨A6, c6, L, rfl, hL, ho, hf⟩ := hrel
          have sr6 := hf.size
          have HO6 := Lib.hid ho
          have HF6 := Lib.hid hf
          clear ho hf HO5 HF5
          by_cases hlt2 : L.length < 21
          · have d2 : (L.length : Int) < 21 := by omega
            go_wp2_with (at_builtin; go_loud (refine push_int rfl _ _ rfl w3.heap.size A6 c6 L 5 rfl (HO6.out.alloc _) (World.heap _).size 1 rfl (by simp [go_sem]) (by omega) (by simp; omega) ?_; intro A7 c7 w7 ho7 hb7 _; have HB7 := Lib.hid hb7; have HO7 := Lib.hid ho7; clear hb7 ho7))
            go_roundw
            case rel => exact ⟨A7, c7, L ++ [5], by simp, by simp; omega, HO7.out, (HF6.out.alloc _).then_ (HB7.out)⟩
            case measure => simp [lenOf]; omega
          · have d2 : ¬ (L.length : Int) < 21 := by omega
            have HB6 := Lib.hid (HB3.out.trans (HF6.out.below (by omega) hrb3))
            have HGF := Lib.hid ((HGS.out.fx HF6.out s3).rg.more (lo' := w.heap.size) (Nat.le_refl _) (Nat.le_trans s3 sr6))
            have HLF := Lib.hid ((HL3.out.fx HF6.out (by omega) (Nat.le_refl _)).more (lo' := w.heap.size) (by omega) sr6)
            have HMF := Lib.hid (HO6.out.ri.more (lo' := w.heap.size) (by omega) (Nat.le_refl _))
            have hcp := HO6.out.cap
            go_wp2
            go_ret3
            exact ⟨⟨A2, c2, g, A3, c3, l3, A6, c6, L, rfl, HGF.out, hg16, hgc, hcm, HLF.out, hlm3, hlc3, hcm3, HMF.out, by omega, hcp.1, hcp.2⟩, HB6.out⟩
      · have hq' : ((q : Int) == 0) = false := by rw [beq_eq_false_iff_ne]; omega
        have sr5 := HF5.out.size
        have HB6 := Lib.hid (HB3.out.trans (HF5.out.below (by omega) hrb3))
        have HGF := Lib.hid ((HGS.out.fx HF5.out s3).rg.more (lo' := w.heap.size) (Nat.le_refl _) (Nat.le_trans s3 sr5))
        have HLF := Lib.hid ((HL3.out.fx HF5.out (by omega) (Nat.le_refl _)).more (lo' := w.heap.size) (by omega) sr5)
        have HMF := Lib.hid (HO5.out.ri.more (lo' := w.heap.size) (by omega) (Nat.le_refl _))
        have hcp := HO5.out.cap
        have hK16 : K.length ≤ 16 := by have := HKN.out; omega
        have e0 : K0.length = K.length := by have := HKN.out; have := HNK.out; omega
        rw [e0]
        go_wp2
        go_ret3
        exact ⟨⟨A2, c2, g, A3, c3, l3, A4, c4, K, rfl, HGF.out, hg16, hgc, hcm, HLF.out, hlm3, hlc3, hcm3, HMF.out, by omega, hcp.1, hcp.2⟩, HB6.out⟩
end Go.Proofs.Ytggekdohcancbaa
