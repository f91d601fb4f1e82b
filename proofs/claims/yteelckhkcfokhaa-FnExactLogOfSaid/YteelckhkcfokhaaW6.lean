/-
  WALKS: the laws' own small functions: sizes, copies and comparisons of lists of integers.
-/
import Derived.Test.YteelckhkcfokhaaK1
namespace Go.Proofs.Yteelckhkcfokhaa
open Go.RowKit
def szI (left : Int) (n : Nat) : Int := if left - n < 0 then -1 else left - n
theorem szIntS_any (A : Option Addr) (n c : Nat) (left : Int) (w : World) (hn : n ≤ 9223372036854775807) (h0 : 0 ≤ left) (h1 : left ≤ 1048576) :
    Calls Try.prog 91 #[.slice A n c, .int .i64 left] w fun e w' => e = .returned (.int .i64 (szI left n)) ∧ w = w' := by
  go_enter Try.func91, Try.ntmps91
  go_wp2
  all_goals go_ret
  all_goals exact ⟨ret_int (by unfold szI; split <;> omega), rfl⟩
theorem szTask_any (x y z : Int) (N : Option Addr) (n c : Nat) (left : Int) (w : World) (hn : n ≤ 9223372036854775807) (h0 : 0 ≤ left) (h1 : left ≤ 1048576) :
    Calls Try.prog 56 #[.agg #[.int .i64 x, .slice N n c, .int .i64 y, .int .i64 z], .int .i64 left] w fun e w' => e = .returned (.int .i64 (szI left n)) ∧ Below w.heap.size w w' := by
  have c1 := fun W => szIntS_any N n c left W hn h0 h1
  have hs : szI left n = -1 ∨ 0 ≤ szI left n := by unfold szI; split <;> omega
  generalize szI left n = s at c1 hs
  have C1 := Lib.hid c1
  clear c1
  rcases hs with rfl | hs
  all_goals
    go_enter Try.func56, Try.ntmps56
    go_wp2_with (go_at_call 91; refine (C1.out _).mono ?_; rintro e w' ⟨rfl, rfl⟩)
    go_ret
    exact ⟨rfl, by exact (Below.refl _ _).alloc (Nat.le_refl _) _⟩
theorem szTaskS_any (A : Option Addr) (c : Nat) (g : List Bs.T) (left : Int) (lo hi : Nat) (w : World) (h : RG w lo hi A g) (hh : hi ≤ w.heap.size) (hl : g.length ≤ 9223372036854775807) (h0 : 0 ≤ left) (h1 : left ≤ 1048576) :
    Calls Try.prog 14 #[.slice A g.length c, .int .i64 left] w fun e w' => (∃ r : Int, e = .returned (.int .i64 r) ∧ (r < 0 ∨ (g.length ≤ 1048576 ∧ ∀ t ∈ g, t.needs.length ≤ 1048576))) ∧ Below w.heap.size w w' := by
  by_cases hs : left - g.length < 0
  · go_enter Try.func14, Try.ntmps14
    go_wp2
    go_ret
    exact ⟨⟨-1, rfl, .inl (by omega)⟩, Below.refl _ _⟩
  · go_enter Try.func14, Try.ntmps14
    go_wp2
    go_loopw [1, 5] (fun s i wr => ∃ (k : Nat) (q : Int), k ≤ g.length ∧ i = .int .i64 k ∧ s = .int .i64 q ∧ 0 ≤ q ∧ q ≤ 1048576 ∧ (∀ j (hj : j < g.length), j < k → g[j].needs.length ≤ 1048576) ∧ Below w.heap.size w wr) (fun _ i _ => g.length - (intOf i).toNat)
    case atStart => exact ⟨0, _, Nat.zero_le _, rfl, rfl, by omega, by omega, by intro j _ h; omega, Below.refl _ _⟩
    case round =>
      obtain ⟨k, q, hk, rfl, rfl, hq0, hq1, hn, hb⟩ := hrel
      have Hn := Lib.hid hn
      clear hn
      have hsz := hb.size
      by_cases hlt : k < g.length
      · have hr := h.below hb hh
        obtain ⟨b, o, N, cN, rfl, h1, h2, q0, q1, q2, q3, hlN, hcN, hN⟩ := hr k hlt
        clear hr
        have c1 := szTask_any g[k].time g[k].pool g[k].units N g[k].needs.length cN q wr (by omega) hq0 hq1
        have hs : szI q g[k].needs.length = -1 ∨ (0 ≤ szI q g[k].needs.length ∧ szI q g[k].needs.length ≤ 1048576 ∧ g[k].needs.length ≤ 1048576) := by unfold szI; split <;> omega
        generalize szI q g[k].needs.length = s at c1 hs
        have C1 := Lib.hid c1
        clear c1
        rcases hs with rfl | ⟨hs0, hs1, hs2⟩
        · go_wp2_with (go_at_call 56; refine (C1.out).mono ?_; rintro e w' ⟨rfl, hb'⟩)
          go_ret
          exact ⟨⟨-1, rfl, .inl (by omega)⟩, by exact hb.trans (hb'.mono hsz)⟩
        · go_wp2_with (go_at_call 56; refine (C1.out).mono ?_; rintro e w' ⟨rfl, hb'⟩)
          go_roundw
          case rel =>
            refine ⟨k + 1, s, by omega, by go_num, rfl, hs0, hs1, ?_, hb.trans (hb'.mono hsz)⟩
            intro j hj hjk
            by_cases e : j < k
            · exact Hn.out j hj e
            · have : j = k := by omega
              subst this
              exact hs2
          case measure => simp [intOf]; omega
      · go_wp2
        go_ret
        refine ⟨⟨q, rfl, .inr ⟨by omega, ?_⟩⟩, by exact hb⟩
        intro t ht
        obtain ⟨j, hj, rfl⟩ := List.mem_iff_getElem.1 ht
        exact Hn.out j hj (by omega)

theorem eqIntS_any (A : Option Addr) (c : Nat) (l : List Int) (A' : Option Addr) (c' : Nat) (l' : List Int) (lo hi lo' hi' : Nat) (w : World) (h : RI w lo hi A l) (h' : RI w lo' hi' A' l') (hl : l.length ≤ 9223372036854775807) :
    Calls Try.prog 36 #[.slice A l.length c, .slice A' l'.length c'] w fun e w' => e = .returned (.bool (decide (l = l'))) ∧ ∃ n, w' = w.drewN n := by
  by_cases hne : l.length = l'.length
  · have hb0 : ((l.length : Int) != (l'.length : Int)) = false := by simp [hne]
    have HE := Lib.hid hne
    clear hne
    go_enter Try.func36, Try.ntmps36
    go_wp2
    go_loopw [5] (fun i wr => ∃ k : Nat, k ≤ l.length ∧ i = .int .i64 k ∧ (∀ j (hj : j < l.length) (hj' : j < l'.length), j < k → l[j] = l'[j]) ∧ ∃ n, wr = w.drewN n) (fun i _ => l.length - (intOf i).toNat)
    case atStart => exact ⟨0, Nat.zero_le _, rfl, by intro j _ _ h; omega, 0, rfl⟩
    case round =>
      obtain ⟨k, hk, rfl, hn, n, rfl⟩ := hrel
      have Hn := Lib.hid hn
      clear hn
      by_cases hlt : k < l.length
      · obtain ⟨b, o, rfl, _, _, hc⟩ := h.at_ hlt
        have hlt' : k < l'.length := by have := HE.out; omega
        obtain ⟨b', o', rfl, _, _, hc'⟩ := h'.at_ hlt'
        by_cases he : l[k] = l'[k]
        · have hd : (l[k] != l'[k]) = false := by simpa using he
          have HX := Lib.hid he
          clear he
          go_wp2
          go_quiet (fail)
          go_wp2
          go_roundw
          case rel =>
            refine ⟨k + 1, by omega, by go_num, ?_, _, by first | rfl | rw [World.drewN_drewN]⟩
            intro j hj hj' hjk
            by_cases e : j < k
            · exact Hn.out j hj hj' e
            · have : j = k := by omega
              subst this
              exact HX.out
          case measure => simp [intOf]; omega
        · have hd : (l[k] != l'[k]) = true := by simpa using he
          have HX := Lib.hid he
          clear he
          go_wp2
          go_quiet (fail)
          go_wp2
          go_ret
          refine ⟨ret_bool ?_, _, by first | rfl | rw [World.drewN_drewN]⟩
          symm
          rw [decide_eq_false_iff_not]
          rintro rfl
          exact HX.out rfl
      · go_wp2
        go_ret
        refine ⟨ret_bool ?_, _, rfl⟩
        symm
        rw [decide_eq_true_eq]
        exact List.ext_getElem HE.out fun j h1 h2 => Hn.out j h1 h2 (by omega)
  · have hb0 : ((l.length : Int) != (l'.length : Int)) = true := by simp; omega
    have HE := Lib.hid hne
    clear hne
    go_enter Try.func36, Try.ntmps36
    go_wp2
    go_ret
    refine ⟨ret_bool ?_, 0, rfl⟩
    symm
    rw [decide_eq_false_iff_not]
    rintro rfl
    exact HE.out rfl

/-- the cells of a copy when k are done -/
def fillI (l : List Int) (k : Nat) : Array Value := ((l.take k ++ List.replicate (l.length - k) 0).map (Value.int .i64)).toArray
theorem fillI_zero (l : List Int) : fillI l 0 = madeCells #[.int .i64 0] l.length := by
  apply Array.ext
  · simp [fillI, madeCells]
  · intro i h1 h2
    simp [fillI, madeCells]
    have : i % 1 = 0 := by omega
    rw [this]
    rfl
theorem fillI_size (l : List Int) (k : Nat) (hk : k ≤ l.length) : (fillI l k).size = l.length := by simp [fillI]; omega
theorem fillI_set (l : List Int) (k : Nat) (hk : k < l.length) : (fillI l k).setIfInBounds k (.int .i64 l[k]) = fillI l (k + 1) := by
  apply Array.ext
  · simp [fillI]; omega
  · intro i h1 h2
    rw [Array.getElem_setIfInBounds (by simpa using h1)]
    simp only [fillI, List.getElem_toArray, List.getElem_map, List.getElem_append, List.length_take, List.getElem_take, List.getElem_replicate]
    by_cases e : k = i
    · subst e
      rw [if_pos rfl, dif_pos (by omega)]
    · rw [if_neg e]
      by_cases e2 : i < k
      · rw [dif_pos (by omega), dif_pos (by omega)]
      · rw [dif_neg (by omega), dif_neg (by omega)]
theorem fillI_get (l : List Int) (k i : Nat) (hi : i < l.length) (hk : k ≤ l.length) : ∃ v, (fillI l k)[i]? = some v := by
  exact ⟨_, Array.getElem?_eq_getElem (by rw [fillI_size l k hk]; exact hi)⟩
theorem fillI_full (l : List Int) (i : Nat) (hi : i < l.length) : (fillI l l.length)[i]? = some (.int .i64 l[i]) := by
  simp [fillI, hi]

theorem toIntS_any (A : Option Addr) (c : Nat) (l : List Int) (lo hi : Nat) (w : World) (h : RI w lo hi A l) (hh : hi ≤ w.heap.size) (hl : l.length ≤ 1048576) :
    Calls Try.prog 33 #[.slice A l.length c] w fun e w' => e = .returned (.slice (some ⟨w.heap.size, 0, none⟩) l.length l.length) ∧ w.alloc (.cells (fillI l l.length) 3) = w' := by
  obtain ⟨i0, hi0, hz0, hz1, hz2⟩ := info_parts Try.info3
  have hA : ∀ ob, RI (w.alloc ob) lo hi A l := fun ob => h.keep fun p _ hp => World.cell?_alloc_lt w ob p (by omega)
  have hmk : ∀ u : World, (Instr.makeSlice 38 (.int .i64 (l.length : Int)) (.int .i64 (l.length : Int))).run Try.prog u =
      .ok (.slice (some ⟨u.heap.size, 0, none⟩) l.length l.length) (u.alloc (.cells (fillI l 0) 3)) := fun u => by
    have h := run_make (P := Try.prog) u 38 3 i0 (.int .i64 0) Try.underlying38 hi0 hz0 .i64 .i64 (l.length : Int) (l.length : Int) (by omega) (Int.le_refl _) (by rw [hz2]; omega) (by omega)
    rw [fillI_zero]
    simpa [hz1, Value.cells] using h
  go_enter Try.func33, Try.ntmps33
  go_wp2
  go_loopw [4] (fun i wr => ∃ k : Nat, k ≤ l.length ∧ i = .int .i64 k ∧ wr = w.alloc (.cells (fillI l k) 3)) (fun i _ => l.length - (intOf i).toNat)
  case atStart => exact ⟨0, Nat.zero_le _, rfl, rfl⟩
  case round =>
    obtain ⟨k, hk, rfl, rfl⟩ := hrel
    have hs := fillI_size l k hk
    by_cases hlt : k < l.length
    · obtain ⟨b, o, rfl, _, _, hc⟩ := (hA (.cells (fillI l k) 3)).at_ hlt
      have HS := Lib.hid (fillI_set l k hlt)
      obtain ⟨u, hu⟩ := fillI_get l k k hlt hk
      generalize fillI l k = F at *
      go_wp2
      go_roundw
      case rel => exact ⟨k + 1, by omega, by go_num, by rw [← HS.out]⟩
      case measure => simp [intOf]; omega
    · obtain rfl : k = l.length := by omega
      go_wp2
      go_ret
      exact ⟨rfl, rfl⟩
end Go.Proofs.Yteelckhkcfokhaa
