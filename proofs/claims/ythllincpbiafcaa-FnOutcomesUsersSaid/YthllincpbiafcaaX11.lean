/-
  WALKS: the draws of chapter 8.
-/
import Derived.Test.YthllincpbiafcaaK17
namespace Go.Proofs.Ythllincpbiafcaa
open Go.RowKit
theorem RB.moreX {w : World} {lo hi hi' : Nat} {A : Option Addr} {l : List Int} (h : RB w lo hi A l) (hh : hi ≤ hi') : RB w lo hi' A l := by
  intro k hk
  obtain ⟨b, o, e, h1, h2, hc⟩ := h k hk
  exact ⟨b, o, e, h1, by omega, hc⟩
theorem one6 (a0 a1 a2 a3 a4 a5 : Int) : ∀ k, k < 6 → ∃ x, (#[Value.int .i64 a0, .int .i64 a1, .int .i64 a2, .int .i64 a3, .int .i64 a4, .int .i64 a5] : Array Value)[k]? = some (.int .i64 x) := by
  intro k hk
  match k, hk with
  | 0, _ => exact ⟨_, rfl⟩
  | 1, _ => exact ⟨_, rfl⟩
  | 2, _ => exact ⟨_, rfl⟩
  | 3, _ => exact ⟨_, rfl⟩
  | 4, _ => exact ⟨_, rfl⟩
  | 5, _ => exact ⟨_, rfl⟩
theorem DrawOutcomes_any (A : Option Addr) (c : Nat) (l : List Int) (w : World) (hb : RB w 0 w.heap.size A l) (hl : l.length ≤ c) (hc : c ≤ maxLen) :
    Calls Try.prog 8 #[.slice A l.length c] w (DrawGDA w) := by
  have C1 := Lib.hid (newReader_any A c l w hb hl hc)
  clear hb
  go_enter Try.func8, Try.ntmps8
  go_wp2_with fail
  refine (C1.out).mono ?_
  rintro e w1 ⟨rb, rfl, hs1, hf1⟩
  have hrlo := hs1.rd.1
  have C2 := Lib.hid (anyGraph_any w.heap.size rb 0 w1 hs1 (by omega))
  have HF := Lib.hid hf1
  clear hs1 hf1 C1
  go_wp2_with fail
  refine (C2.out).mono ?_
  rintro e w2 hG
  obtain ⟨A2, c2, g, rfl, hg, hg16, hgc, hcm, hrd, hf2⟩ := hG.open_
  have hrb := hrd.lt
  have s2 := hf2.1.size
  have C3 := Lib.hid (someSetX A2 c2 g.length w.heap.size rb _ w2 hrd (by omega) hg16)
  have HG := Lib.hid hg
  have HF2 := Lib.hid (HF.out.1.trans hf2.1)
  have s0 := HF2.out.size
  clear hG hg hrd hf2 C2
  go_wp2_with fail
  refine (C3.out).mono ?_
  rintro e w3 ⟨⟨A3, c3, l3, rfl, hl3, hlc3, hcm3, hlm3⟩, hs3, hf3⟩
  have s3 := hf3.size
  have C4 := Lib.hid (one_newX #[.int .i64 1, .int .i64 2, .int .i64 8, .int .i64 3, .int .i64 0, .int .i64 9] 6 w.heap.size rb _ w3 hs3 (by omega) (one6 _ _ _ _ _ _) (by omega) (by omega) rfl)
  have HF3 := Lib.hid hf3
  have HL3 := Lib.hid hl3
  clear hl3 hs3 hf3 C3
  go_wp2_with fail
  refine (C4.out).mono ?_
  rintro e w4 ⟨⟨x, rfl⟩, hs4, hf4⟩
  have s4 := hf4.size
  have hf24 := HF3.out.trans hf4
  have HG4 := Lib.hid ((HG.out.fx hf24 (Nat.le_refl _)).rg.more (hi' := w4.heap.size) (Nat.le_refl _) (by omega))
  have HL4 := Lib.hid ((HL3.out.fx hf4 hrb (Nat.le_refl _)).more s0 s4)
  have HB4 := Lib.hid (HF2.out.trans (hf24.below hrlo hrb))
  clear hs4 hf4 C4 hf24
  go_wp2
  go_ret3
  exact ⟨⟨A2, c2, g, A3, c3, l3, x, rfl, HG4.out, hg16, hgc, hcm, HL4.out, hlm3, hlc3, hcm3⟩, HB4.out⟩
/-- a graph, a list and two numbers -/
def DrawGDAA (w : World) (e : Ending) (w' : World) : Prop := (∃ A c g A2 c2 l x y, e = .returned (.tuple #[.slice A (List.length g) c, .slice A2 (List.length l) c2, .int .i64 x, .int .i64 y]) ∧ RG w' w.heap.size w'.heap.size A g ∧ g.length ≤ 16 ∧ g.length ≤ c ∧ c ≤ maxLen ∧
  RI w' w.heap.size w'.heap.size A2 l ∧ l.length ≤ 100 ∧ l.length ≤ c2 ∧ c2 ≤ maxLen) ∧ Below w.heap.size w w'
end Go.Proofs.Ythllincpbiafcaa
