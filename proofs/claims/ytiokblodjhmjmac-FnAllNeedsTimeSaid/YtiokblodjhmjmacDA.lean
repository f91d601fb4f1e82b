/-
  WALKS: the draws of AllNeeds and AllUsers: a graph and a number.
-/
import Derived.Test.YtiokblodjhmjmacD8
namespace Go.Proofs.Ytiokblodjhmjmac
open Go.RowKit
def SomeR (lo rb P : Nat) (w : World) (e : Ending) (w' : World) : Prop := (∃ x : Int, e = .returned (.int .i64 x)) ∧ St lo rb P w' ∧ Fwd lo w w'
set_option maxHeartbeats 1600000 in
theorem someAt_any (A : Option Addr) (n c lo rb P : Nat) (w : World) (hs : St lo rb P w) (hP : P ≤ 800000) (hn : n ≤ 16) :
    Calls Try.prog 29 #[.pointer (some ⟨rb, 0, none⟩), .slice A n c] w (SomeR lo rb (P + 2) w) := by
  have C1 := Lib.hid (pick_any 10 lo rb P w hs (by omega) (by omega))
  clear hs
  go_enter Try.func29, Try.ntmps29
  go_wp2_with fail
  refine (C1.out).mono ?_
  rintro e w1 ⟨⟨q, rfl, _, _⟩, hs1, hf1, _⟩
  have HF1 := Lib.hid hf1
  have HS1 := Lib.hid hs1
  clear C1 hf1 hs1
  by_cases hq : q = 0
  · subst hq
    have C2 := Lib.hid (one_new #[.int .i64 (-1), .int .i64 (n : Int), .int .i64 0] 3 lo rb (P + 1) w1 HS1.out (by omega) (by simp [IsI]) rfl (by omega) (by omega) rfl)
    go_wp2_with fail
    refine (C2.out).mono ?_
    rintro e w2 ⟨⟨x, rfl⟩, hs2, hf2, _⟩
    have HF2 := Lib.hid (HF1.out.trans hf2)
    have HS2 := Lib.hid hs2
    clear hs2 hf2
    go_wp2
    go_ret
    exact ⟨⟨x, rfl⟩, HS2.out.more (by omega), HF2.out⟩
  · have hq' : ((q : Int) == 0) = false := by rw [beq_eq_false_iff_ne]; omega
    have C2 := Lib.hid (pick_any n lo rb (P + 1) w1 HS1.out (by omega) (by omega))
    have c3 := pick_any 1 lo rb (P + 1) w1 HS1.out (by omega) (by omega)
    rw [show ((1 : Nat) : Int) = 1 from rfl] at c3
    have C3 := Lib.hid c3
    clear c3
    go_wp2_with fail
    case inl =>
      refine (C2.out).mono ?_
      rintro e w2 ⟨⟨x, rfl, _, _⟩, hs2, hf2, _⟩
      have HF2 := Lib.hid (HF1.out.trans hf2)
      have HS2 := Lib.hid hs2
      clear hs2 hf2
      go_wp2
      go_ret
      exact ⟨⟨(x : Int), rfl⟩, HS2.out, HF2.out⟩
    case inr =>
      refine (C3.out).mono ?_
      rintro e w2 ⟨⟨x, rfl, _, _⟩, hs2, hf2, _⟩
      have HF2 := Lib.hid (HF1.out.trans hf2)
      have HS2 := Lib.hid hs2
      clear hs2 hf2
      go_wp2
      go_ret
      exact ⟨⟨(x : Int), rfl⟩, HS2.out, HF2.out⟩
def DrawGA (w : World) (e : Ending) (w' : World) : Prop := (∃ A c g x, e = .returned (.tuple #[.slice A (List.length g) c, .int .i64 x]) ∧ RG w' w.heap.size w'.heap.size A g ∧ g.length ≤ 16 ∧ g.length ≤ c ∧ c ≤ maxLen) ∧ Below w.heap.size w w'
theorem DrawAllNeeds_any (A : Option Addr) (c : Nat) (l : List Int) (w : World) (hb : RB w 0 w.heap.size A l) (hl : l.length ≤ c) (hc : c ≤ maxLen) :
    Calls Try.prog 14 #[.slice A l.length c] w (DrawGA w) := by
  have C1 := Lib.hid (newReader_any A c l w hb hl hc)
  clear hb
  go_enter Try.func14, Try.ntmps14
  go_wp2_with fail
  refine (C1.out).mono ?_
  rintro e w1 ⟨rb, rfl, hs1, hf1⟩
  have C2 := Lib.hid (anyGraph_any w.heap.size rb 0 w1 hs1 (by omega))
  have HF := Lib.hid hf1
  clear hs1 hf1 C1
  go_wp2_with fail
  refine (C2.out).mono ?_
  rintro e w2 ⟨⟨v, n, hn, rfl, hv⟩, hs2, hf2⟩
  obtain ⟨A2, c2, rfl, hnc, hcm, hv⟩ := hv.form
  have C3 := Lib.hid (someAt_any A2 n c2 w.heap.size rb _ w2 hs2 (by omega) hn)
  have HV := Lib.hid hv
  have HF2 := Lib.hid hf2
  clear hv hs2 hf2 C2
  go_wp2_with fail
  refine (C3.out).mono ?_
  rintro e w3 ⟨⟨x, rfl⟩, hs3, hf3⟩
  obtain ⟨g, hgl, hg⟩ := (HV.out.ext tT hf3.2).rg hs3
  subst hgl
  have HG := Lib.hid hg
  have HB := Lib.hid (HF.out.trans (HF2.out.trans hf3)).1
  clear hs3 hf3 hg
  go_wp2
  go_ret2
  exact ⟨⟨A2, c2, g, x, rfl, HG.out, hn, hnc, hcm⟩, HB.out⟩
end Go.Proofs.Ytiokblodjhmjmac
