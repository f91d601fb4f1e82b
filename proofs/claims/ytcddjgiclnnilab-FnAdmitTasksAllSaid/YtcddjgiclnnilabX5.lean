/-
  WALKS: the draws beside an exact memory: a number, a set of tasks, rooms; the draws of chapters 3 and 4.
-/
import Derived.Test.YtcddjgiclnnilabX4
import Derived.OwnWalk
namespace Go.Proofs.Ytcddjgiclnnilab
open Go.RowKit
theorem someAtX (A : Option Addr) (n c lo rb P : Nat) (w : World) (hs : RD w lo rb P) (hP : P ≤ 800000) (hn : n ≤ 16) :
    Calls Try.prog 77 #[.pointer (some ⟨rb, 0, none⟩), .slice A n c] w (OneX lo rb (P + 1) w) := by
  have C1 := Lib.hid (pickX 10 lo rb P w hs (by omega) (by omega))
  clear hs
  go_enter Try.func77, Try.ntmps77
  go_wp2_with fail
  refine (C1.out).mono ?_
  rintro e w1 ⟨⟨q, rfl, _, _⟩, hs1, hf1⟩
  have HF1 := Lib.hid hf1
  have HS1 := Lib.hid hs1
  clear C1 hf1 hs1
  by_cases hq : q = 0
  · subst hq
    have C2 := Lib.hid (one_newX #[.int .i64 (-1), .int .i64 (n : Int), .int .i64 0] 3 lo rb (P + 1) w1 HS1.out (by omega) (by intro k hk; match k, hk with | 0, _ => exact ⟨_, rfl⟩ | 1, _ => exact ⟨_, rfl⟩ | 2, _ => exact ⟨_, rfl⟩) (by omega) (by omega) rfl)
    go_wp2_with fail
    refine (C2.out).mono ?_
    rintro e w2 ⟨⟨x, rfl⟩, hs2, hf2⟩
    have HF2 := Lib.hid (HF1.out.trans hf2)
    have HS2 := Lib.hid hs2
    clear hs2 hf2
    go_wp2
    go_ret
    exact ⟨⟨x, rfl⟩, HS2.out, HF2.out⟩
  · have hq' : ((q : Int) == 0) = false := by rw [beq_eq_false_iff_ne]; omega
    have C2 := Lib.hid (pickX n lo rb (P + 1) w1 HS1.out (by omega) (by omega))
    have c3 := pickX 1 lo rb (P + 1) w1 HS1.out (by omega) (by omega)
    rw [show ((1 : Nat) : Int) = 1 from rfl] at c3
    have C3 := Lib.hid c3
    clear c3
    go_wp2_with fail
    case inl =>
      refine (C2.out).mono ?_
      rintro e w2 ⟨⟨x, rfl, _, _⟩, hs2, hf2⟩
      have HF2 := Lib.hid (HF1.out.trans hf2)
      have HS2 := Lib.hid hs2
      clear hs2 hf2
      go_wp2
      go_ret
      exact ⟨⟨(x : Int), rfl⟩, HS2.out, HF2.out⟩
    case inr =>
      refine (C3.out).mono ?_
      rintro e w2 ⟨⟨x, rfl, _, _⟩, hs2, hf2⟩
      have HF2 := Lib.hid (HF1.out.trans hf2)
      have HS2 := Lib.hid hs2
      clear hs2 hf2
      go_wp2
      go_ret
      exact ⟨⟨(x : Int), rfl⟩, HS2.out, HF2.out⟩
set_option maxHeartbeats 1600000 in
theorem someSetX (A : Option Addr) (c n lo rb P : Nat) (w : World) (hs : RD w lo rb P) (hP : P ≤ 800000) (hn : n ≤ 16) :
    Calls Try.prog 78 #[.pointer (some ⟨rb, 0, none⟩), .slice A n c] w (SpX lo rb (P + 30) 100 w) := by
  have hrb := hs.lt
  have hal := Below.alloc (Below.refl w.heap.size w) (Nat.le_refl _) (.cells #[] 3)
  have HF0 := Lib.hid (Fx.of (rb := rb) hal)
  have HS0 := Lib.hid (hs.after hal)
  clear hs hal
  go_enter Try.func78, Try.ntmps78
  go_wp2
  go_loopw [5, 6] (fun v i wr => ∃ (k : Nat) (A1 : Option Addr) (c1 : Nat) (l : List Int), i = .int .i64 (k : Int) ∧ v = .slice A1 l.length c1 ∧ k ≤ n ∧ l.length ≤ k ∧ OI wr w.heap.size A1 c1 l ∧ RD wr lo rb (P + k) ∧ Fx rb w wr) (fun _ i _ => n - (intOf i).toNat)
  case atStart => exact ⟨0, _, _, [], rfl, rfl, Nat.zero_le _, Nat.zero_le _, OI.new _ _ (Nat.le_refl _), HS0.out, HF0.out⟩
  case round =>
    obtain ⟨k, A1, c1, l, rfl, rfl, hk, hlk, ho, hs, hf⟩ := hrel
    have sr := hf.size
    have HO := Lib.hid ho
    have HS := Lib.hid hs
    have HF := Lib.hid hf
    clear ho hs hf HS0 HF0
    by_cases hlt : k < n
    · have C1 := Lib.hid (pickX 3 lo rb (P + k) wr HS.out (by omega) (by omega))
      have d1 : decide ((k : Int) < (n : Int)) = true := by simp; omega
      go_wp2_with fail
      refine (C1.out).mono ?_
      rintro e w1 ⟨⟨q, rfl, _, _⟩, hs1, hf1⟩
      have s1 := hf1.size
      have HS1 := Lib.hid hs1
      have HF1 := Lib.hid (HF.out.trans hf1)
      have HO1 := Lib.hid (HO.out.fx hf1 hrb)
      clear hs1 hf1 C1 HO HS HF
      by_cases hq : q = 0
      · subst hq
        go_wp2_with (at_builtin; go_loud (refine push_int rfl _ _ rfl w.heap.size A1 c1 l (k : Int) rfl (HO1.out.alloc _) w1.heap.size 1 rfl (by simp [go_sem]) (by omega) (by simp; omega) ?_; intro A3 c3 w3 ho3 hb3 _; have HB3 := Lib.hid hb3; have HO3 := Lib.hid ho3; clear hb3 ho3))
        have HS3 := Lib.hid ((HS1.out.after (Below.alloc (Below.refl _ _) (Nat.le_refl _) (.cells #[.int .i64 (k : Int)] 3))).below HB3.out hrb)
        have HF3 := Lib.hid ((HF1.out.alloc (.cells #[.int .i64 (k : Int)] 3)).then_ HB3.out)
        go_wp2
        go_roundw
        case rel => exact ⟨k + 1, A3, c3, l ++ [(k : Int)], by go_num, by simp, by omega, by simp; omega, HO3.out, HS3.out.more (by omega), HF3.out⟩
        case measure => simp [intOf]; omega
      · have hq' : ((q : Int) == 0) = false := by rw [beq_eq_false_iff_ne]; omega
        go_wp2
        go_roundw
        case rel => exact ⟨k + 1, A1, c1, l, by go_num, rfl, by omega, by omega, HO1.out, HS1.out.more (by omega), HF1.out⟩
        case measure => simp [intOf]; omega
    · have d1 : decide ((k : Int) < (n : Int)) = false := by simp; omega
      have C2 := Lib.hid (spoilX A1 c1 l lo rb (P + k) w.heap.size wr.heap.size 8 wr HS.out (by omega) HO.out.ri (Nat.le_refl _) (by omega))
      go_wp2_with fail
      refine (C2.out).mono ?_
      rintro e w2 ⟨⟨A2, c2, l2, rfl, hl, hlc, hcm, hlm⟩, hs2, hf2⟩
      have HL := Lib.hid (hl.more sr (Nat.le_refl _))
      have HS2 := Lib.hid (hs2.more (P' := P + 30) (by omega))
      have HF2 := Lib.hid (HF.out.trans hf2)
      clear hl hs2 hf2 C2
      go_wp2
      go_ret
      exact ⟨⟨A2, c2, l2, rfl, HL.out, hlc, hcm, by omega⟩, HS2.out, HF2.out⟩
/-- what a draw of a graph and a list hands back -/
def DrawGD (w : World) (e : Ending) (w' : World) : Prop := (∃ A c g A2 c2 l, e = .returned (.tuple #[.slice A (List.length g) c, .slice A2 (List.length l) c2]) ∧ RG w' w.heap.size w'.heap.size A g ∧ g.length ≤ 16 ∧ g.length ≤ c ∧ c ≤ maxLen ∧
  RI w' w.heap.size w'.heap.size A2 l ∧ l.length ≤ 100 ∧ l.length ≤ c2 ∧ c2 ≤ maxLen) ∧ Below w.heap.size w w'
theorem DrawValidDone_any (A : Option Addr) (c : Nat) (l : List Int) (w : World) (hb : RB w 0 w.heap.size A l) (hl : l.length ≤ c) (hc : c ≤ maxLen) :
    Calls Try.prog 24 #[.slice A l.length c] w (DrawGD w) := by
  have C1 := Lib.hid (newReader_any A c l w hb hl hc)
  clear hb
  go_enter Try.func24, Try.ntmps24
  go_wp2_with fail
  refine (C1.out).mono ?_
  rintro e w1 ⟨rb, rfl, hs1, hf1⟩
  have hrlo := hs1.rd.1
  have C2 := Lib.hid (anyGraph_any w.heap.size rb 0 w1 hs1 (by omega))
  have HF := Lib.hid hf1
  clear hs1 hf1 C1
  go_wp2_with fail
  refine (C2.out).mono ?_
  rintro e w2 hG
  obtain ⟨A2, c2, g, rfl, hg, hg16, hgc, hcm, hrd, hf2⟩ := hG.open_
  have hrb := hrd.lt
  have s2 := hf2.1.size
  have C3 := Lib.hid (someDoneX A2 c2 g w.heap.size w2.heap.size w.heap.size rb _ w2 hrd (by omega) hg (Nat.le_refl _) hg16)
  have HG := Lib.hid hg
  have HF2 := Lib.hid (HF.out.1.trans hf2.1)
  clear hG hg hrd hf2 C2
  go_wp2_with fail
  refine (C3.out).mono ?_
  rintro e w3 ⟨⟨A3, c3, l3, rfl, hl3, hlc3, hcm3, hlm3⟩, hs3, hf3⟩
  have s3 := hf3.size
  have s0 := HF2.out.size
  have HG3 := Lib.hid ((HG.out.fx hf3 (Nat.le_refl _)).rg.more (Nat.le_refl _) s3)
  have HL3 := Lib.hid (hl3.more s0 (Nat.le_refl _))
  have HB3 := Lib.hid (HF2.out.trans (hf3.below hrlo hrb))
  clear hl3 hs3 hf3 C3
  go_wp2
  go_ret2
  exact ⟨⟨A2, c2, g, A3, c3, l3, rfl, HG3.out, hg16, hgc, hcm, HL3.out, hlm3, hlc3, hcm3⟩, HB3.out⟩
theorem DrawUsedUnits_any (A : Option Addr) (c : Nat) (l : List Int) (w : World) (hb : RB w 0 w.heap.size A l) (hl : l.length ≤ c) (hc : c ≤ maxLen) :
    Calls Try.prog 39 #[.slice A l.length c] w (DrawGD w) := by
  have C1 := Lib.hid (newReader_any A c l w hb hl hc)
  clear hb
  go_enter Try.func39, Try.ntmps39
  go_wp2_with fail
  refine (C1.out).mono ?_
  rintro e w1 ⟨rb, rfl, hs1, hf1⟩
  have hrlo := hs1.rd.1
  have C2 := Lib.hid (anyGraph_any w.heap.size rb 0 w1 hs1 (by omega))
  have HF := Lib.hid hf1
  clear hs1 hf1 C1
  go_wp2_with fail
  refine (C2.out).mono ?_
  rintro e w2 hG
  obtain ⟨A2, c2, g, rfl, hg, hg16, hgc, hcm, hrd, hf2⟩ := hG.open_
  have hrb := hrd.lt
  have s2 := hf2.1.size
  have C3 := Lib.hid (someSetX A2 c2 g.length w.heap.size rb _ w2 hrd (by omega) hg16)
  have HG := Lib.hid hg
  have HF2 := Lib.hid (HF.out.1.trans hf2.1)
  clear hG hg hrd hf2 C2
  go_wp2_with fail
  refine (C3.out).mono ?_
  rintro e w3 ⟨⟨A3, c3, l3, rfl, hl3, hlc3, hcm3, hlm3⟩, hs3, hf3⟩
  have s3 := hf3.size
  have s0 := HF2.out.size
  have HG3 := Lib.hid ((HG.out.fx hf3 (Nat.le_refl _)).rg.more (Nat.le_refl _) s3)
  have HL3 := Lib.hid (hl3.more s0 (Nat.le_refl _))
  have HB3 := Lib.hid (HF2.out.trans (hf3.below hrlo hrb))
  clear hl3 hs3 hf3 C3
  go_wp2
  go_ret2
  exact ⟨⟨A2, c2, g, A3, c3, l3, rfl, HG3.out, hg16, hgc, hcm, HL3.out, hlm3, hlc3, hcm3⟩, HB3.out⟩
theorem DrawReadyTasks_any (A : Option Addr) (c : Nat) (l : List Int) (w : World) (hb : RB w 0 w.heap.size A l) (hl : l.length ≤ c) (hc : c ≤ maxLen) :
    Calls Try.prog 28 #[.slice A l.length c] w (DrawGD w) := by
  have C1 := Lib.hid (DrawValidDone_any A c l w hb hl hc)
  clear hb
  go_enter Try.func28, Try.ntmps28
  go_wp2_with fail
  refine (C1.out).mono ?_
  rintro e w1 ⟨⟨A2, c2, g, A3, c3, l3, rfl, hg⟩, hb⟩
  have HG := Lib.hid hg
  have HB := Lib.hid hb
  clear hg hb
  go_wp2
  go_ret2
  exact ⟨⟨A2, c2, g, A3, c3, l3, rfl, HG.out⟩, HB.out⟩
end Go.Proofs.Ytcddjgiclnnilab
