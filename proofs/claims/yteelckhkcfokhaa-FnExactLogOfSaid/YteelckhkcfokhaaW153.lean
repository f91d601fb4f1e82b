/-
  WALKS: copies and sizes of events, as the exact laws want them.
-/
import Derived.Test.YteelckhkcfokhaaE2
import Derived.Test.YteelckhkcfokhaaW6
import Derived.Test.YteelckhkcfokhaaW152
import Derived.Test.YteelckhkcfokhaaMath94
namespace Go.Proofs.Yteelckhkcfokhaa
open Go.RowKit
set_option linter.unusedVariables false
theorem szTaskS_le (A : Option Addr) (c : Nat) (g : List Bs.T) (left : Int) (lo hi : Nat) (w : World) (h : RG w lo hi A g) (hh : hi ≤ w.heap.size) (hl : g.length ≤ 9223372036854775807) (h0 : 0 ≤ left) (h1 : left ≤ 1048576) :
    Calls Try.prog 14 #[.slice A g.length c, .int .i64 left] w fun e w' => (∃ r : Int, e = .returned (.int .i64 r) ∧ (r < 0 ∨ (0 ≤ r ∧ r ≤ 1048576 ∧ g.length ≤ 1048576 ∧ ∀ t ∈ g, t.needs.length ≤ 1048576))) ∧ Below w.heap.size w w' := by
  by_cases hs : left - g.length < 0
  · go_enter Try.func14, Try.ntmps14
    go_wp2
    go_ret
    exact ⟨⟨-1, rfl, .inl (by omega)⟩, Below.refl _ _⟩
  · go_enter Try.func14, Try.ntmps14
    go_wp2
    go_loopw [1, 5] (fun s i wr => ∃ (k : Nat) (q : Int), k ≤ g.length ∧ i = .int .i64 k ∧ s = .int .i64 q ∧ 0 ≤ q ∧ q ≤ 1048576 ∧ (∀ j (hj : j < g.length), j < k → g[j].needs.length ≤ 1048576) ∧ Below w.heap.size w wr) (fun _ i _ => g.length - (intOf i).toNat)
    case atStart => exact ⟨0, _, Nat.zero_le _, rfl, rfl, by omega, by omega, by intro j _ h; omega, Below.refl _ _⟩
    case round =>
      obtain ⟨k, q, hk, rfl, rfl, hq0, hq1, hn, hb⟩ := hrel
      have Hn := Lib.hid hn
      clear hn
      have hsz := hb.size
      by_cases hlt : k < g.length
      · have hr := h.below hb hh
        obtain ⟨b, o, N, cN, rfl, h1, h2, q0, q1, q2, q3, hlN, hcN, hN⟩ := hr k hlt
        clear hr
        have c1 := szTask_any g[k].time g[k].pool g[k].units N g[k].needs.length cN q wr (by omega) hq0 hq1
        have hs : szI q g[k].needs.length = -1 ∨ (0 ≤ szI q g[k].needs.length ∧ szI q g[k].needs.length ≤ 1048576 ∧ g[k].needs.length ≤ 1048576) := by unfold szI; split <;> omega
        generalize szI q g[k].needs.length = s at c1 hs
        have C1 := Lib.hid c1
        clear c1
        rcases hs with rfl | ⟨hs0, hs1, hs2⟩
        · go_wp2_with (go_at_call 56; refine (C1.out).mono ?_; rintro e w' ⟨rfl, hb'⟩)
          go_ret
          exact ⟨⟨-1, rfl, .inl (by omega)⟩, by exact hb.trans (hb'.mono hsz)⟩
        · go_wp2_with (go_at_call 56; refine (C1.out).mono ?_; rintro e w' ⟨rfl, hb'⟩)
          go_roundw
          case rel =>
            refine ⟨k + 1, s, by omega, by go_num, rfl, hs0, hs1, ?_, hb.trans (hb'.mono hsz)⟩
            intro j hj hjk
            by_cases e : j < k
            · exact Hn.out j hj e
            · have : j = k := by omega
              subst this
              exact hs2
          case measure => simp [intOf]; omega
      · go_wp2
        go_ret
        refine ⟨⟨q, rfl, .inr ⟨by omega, by omega, by omega, ?_⟩⟩, by exact hb⟩
        intro t ht
        obtain ⟨j, hj, rfl⟩ := List.mem_iff_getElem.1 ht
        exact Hn.out j hj (by omega)

theorem toEventS_r (A : Option Addr) (c : Nat) (l : List Bs.E) (lo hi : Nat) (w : World) (h : RE w lo hi A l) (hh : hi ≤ w.heap.size) (hl : l.length ≤ 1048576) :
    Calls Try.prog 42 #[.slice A l.length c] w fun e w' => (e = .returned (.slice (some ⟨w.heap.size, 0, none⟩) l.length l.length) ∧ RE w' w.heap.size w'.heap.size (some ⟨w.heap.size, 0, none⟩) l ∧ ME w' w.heap.size w'.heap.size (some ⟨w.heap.size, 0, none⟩) l.length) ∧ Below w.heap.size w w' :=
  (toEventS_any A c l lo hi w h hh hl).mono fun _ _ ⟨⟨h1, h2⟩, h3⟩ => ⟨⟨h1, h2.re, h2.me⟩, h3⟩
theorem doneL_len1000 (g : List Bs.T) (l : List Bs.E) (now : Int) : (Bs.doneL g l now).length ≤ 1000 := by
  cases h : Bs.logV g l
  · rw [Bs.doneL_no h]; simp
  · have h1 := Bs.doneL_len g l now
    have h8 := Bs.fine_len (valid_fine (Bs.logV_iff.1 h).1)
    omega
theorem logL_len4000 (g : List Bs.T) (m : List Int) (wk : Int) (S : List Int) : (Bs.logL g m wk S).length ≤ 4000 := by
  cases h : Bs.stV g m wk S
  · rw [Bs.logL_no h]; simp
  · obtain ⟨hcan, hk, _⟩ := Bs.stV_iff.1 h
    have h8 := Bs.fine_len (valid_fine (Bs.canV_iff.1 hcan).1)
    rw [Bs.logL_yes h]
    have := Bs.lgK_len8 S h8 (Nat.le_refl 221)
    omega
end Go.Proofs.Yteelckhkcfokhaa
