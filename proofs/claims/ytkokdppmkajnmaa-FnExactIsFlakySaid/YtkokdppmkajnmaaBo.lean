/-
  WALKS: lists of bools in memory: how they read, copies of them, comparisons. No condition.
-/
import Derived.Test.YtkokdppmkajnmaaW6
namespace Go.Proofs.Ytkokdppmkajnmaa
open Go.RowKit
/-- slice address A reads as the list l of bools, its blocks in lo..hi-1 -/
def RL (w : World) (lo hi : Nat) (A : Option Addr) (l : List Bool) : Prop :=
  ∀ k (hk : k < l.length), ∃ b o, A = some ⟨b, o, none⟩ ∧ lo ≤ b ∧ b < hi ∧ w.cell? ⟨b, o + k, none⟩ = some (.bool l[k])
theorem RL.at_ {w : World} {lo hi : Nat} {A : Option Addr} {l : List Bool} (h : RL w lo hi A l) {k : Nat} (hk : k < l.length) :
    ∃ b o, A = some ⟨b, o, none⟩ ∧ lo ≤ b ∧ b < hi ∧ w.cell? ⟨b, o + k, none⟩ = some (.bool l[k]) := h k hk
theorem RL.nil {w : World} {lo hi : Nat} {A : Option Addr} : RL w lo hi A [] := fun k hk => absurd hk (by simp)
theorem RL.keep {w w' : World} {lo hi : Nat} {A : Option Addr} {l : List Bool} (h : RL w lo hi A l) (hk : ∀ p : Addr, lo ≤ p.block → p.block < hi → w'.cell? p = w.cell? p) : RL w' lo hi A l := by
  intro k hl
  obtain ⟨b, o, e, h1, h2, hc⟩ := h k hl
  exact ⟨b, o, e, h1, h2, (hk ⟨b, o + k, none⟩ h1 h2).trans hc⟩
theorem RL.more {w : World} {lo hi lo' hi' : Nat} {A : Option Addr} {l : List Bool} (h : RL w lo hi A l) (h1 : lo' ≤ lo) (h2 : hi ≤ hi') : RL w lo' hi' A l := by
  intro k hl
  obtain ⟨b, o, e, g1, g2, hc⟩ := h k hl
  exact ⟨b, o, e, by omega, by omega, hc⟩
theorem RL.below {w w' : World} {lo hi : Nat} {A : Option Addr} {l : List Bool} {B : Nat} (h : RL w lo hi A l) (hb : Below B w w') (hB : hi ≤ B) : RL w' lo hi A l :=
  h.keep fun _ _ hp => hb.cell (by omega)
theorem Try.infoB : (Try.prog.info? 4).map (fun i => (i.zero, i.size, i.bytes)) = some (some (.bool false), 1, 1) := by kernel_rfl
theorem eqBoolS_any (A : Option Addr) (c : Nat) (l : List Bool) (A' : Option Addr) (c' : Nat) (l' : List Bool) (lo hi lo' hi' : Nat) (w : World) (h : RL w lo hi A l) (h' : RL w lo' hi' A' l') (hl : l.length ≤ 9223372036854775807) :
    Calls Try.prog 33 #[.slice A l.length c, .slice A' l'.length c'] w fun e w' => e = .returned (.bool (decide (l = l'))) ∧ ∃ n, w' = w.drewN n := by
  by_cases hne : l.length = l'.length
  · have hb0 : ((l.length : Int) != (l'.length : Int)) = false := by simp [hne]
    have HE := Lib.hid hne
    clear hne
    go_enter Try.func33, Try.ntmps33
    go_wp2
    go_loopw [5] (fun i wr => ∃ k : Nat, k ≤ l.length ∧ i = .int .i64 k ∧ (∀ j (hj : j < l.length) (hj' : j < l'.length), j < k → l[j] = l'[j]) ∧ ∃ n, wr = w.drewN n) (fun i _ => l.length - (intOf i).toNat)
    case atStart => exact ⟨0, Nat.zero_le _, rfl, by intro j _ _ h; omega, 0, rfl⟩
    case round =>
      obtain ⟨k, hk, rfl, hn, n, rfl⟩ := hrel
      have Hn := Lib.hid hn
      clear hn
      by_cases hlt : k < l.length
      · obtain ⟨b, o, rfl, _, _, hc⟩ := h.at_ hlt
        have hlt' : k < l'.length := by have := HE.out; omega
        obtain ⟨b', o', rfl, _, _, hc'⟩ := h'.at_ hlt'
        obtain ⟨x, hx⟩ : ∃ x, l[k] = x := ⟨_, rfl⟩
        obtain ⟨y, hy⟩ : ∃ y, l'[k] = y := ⟨_, rfl⟩
        rw [hx] at hc
        rw [hy] at hc'
        have HX := Lib.hid hx
        have HY := Lib.hid hy
        have i0 : (0 : Int) ≤ (k : Int) := by omega
        have i1 : (k : Int) < (l.length : Int) := by omega
        have i2 : (k : Int) < (l'.length : Int) := by omega
        clear hx hy
        have same : x = y → ∀ j (hj : j < l.length) (hj' : j < l'.length), j < k + 1 → l[j] = l'[j] := by
          intro e j hj hj' hjk
          by_cases e2 : j < k
          · exact Hn.out j hj hj' e2
          · have : j = k := by omega
            subst this
            rw [HX.out, HY.out, e]
        have differ : x ≠ y → decide (l = l') = false := by
          intro e
          rw [decide_eq_false_iff_not]
          rintro rfl
          exact e (HX.out.symm.trans HY.out)
        cases x <;> cases y
        · have HS := Lib.hid (same rfl)
          clear same differ
          go_wp2
          go_quiet (fail)
          go_wp2
          go_roundw
          case rel => exact ⟨k + 1, by omega, by go_num, HS.out, _, by first | rfl | rw [World.drewN_drewN]⟩
          case measure => simp [intOf]; omega
        · have HS := Lib.hid (differ (by simp))
          clear same differ
          go_wp2
          go_quiet (fail)
          go_wp2
          go_ret
          exact ⟨ret_bool HS.out.symm, _, by first | rfl | rw [World.drewN_drewN]⟩
        · have HS := Lib.hid (differ (by simp))
          clear same differ
          go_wp2
          go_quiet (fail)
          go_wp2
          go_ret
          exact ⟨ret_bool HS.out.symm, _, by first | rfl | rw [World.drewN_drewN]⟩
        · have HS := Lib.hid (same rfl)
          clear same differ
          go_wp2
          go_quiet (fail)
          go_wp2
          go_roundw
          case rel => exact ⟨k + 1, by omega, by go_num, HS.out, _, by first | rfl | rw [World.drewN_drewN]⟩
          case measure => simp [intOf]; omega
      · go_wp2
        go_ret
        refine ⟨ret_bool ?_, _, rfl⟩
        symm
        rw [decide_eq_true_eq]
        exact List.ext_getElem HE.out fun j h1 h2 => Hn.out j h1 h2 (by omega)
  · have hb0 : ((l.length : Int) != (l'.length : Int)) = true := by simp; omega
    have HE := Lib.hid hne
    clear hne
    go_enter Try.func33, Try.ntmps33
    go_wp2
    go_ret
    refine ⟨ret_bool ?_, 0, rfl⟩
    symm
    rw [decide_eq_false_iff_not]
    rintro rfl
    exact HE.out rfl

/-- the cells of a copy when k are done -/
def fillL (l : List Bool) (k : Nat) : Array Value := ((l.take k ++ List.replicate (l.length - k) false).map (Value.bool)).toArray
theorem fillL_zero (l : List Bool) : fillL l 0 = madeCells #[.bool false] l.length := by
  apply Array.ext
  · simp [fillL, madeCells]
  · intro i h1 h2
    simp [fillL, madeCells]
    have : i % 1 = 0 := by omega
    rw [this]
    rfl
theorem fillL_size (l : List Bool) (k : Nat) (hk : k ≤ l.length) : (fillL l k).size = l.length := by simp [fillL]; omega
theorem fillL_set (l : List Bool) (k : Nat) (hk : k < l.length) : (fillL l k).setIfInBounds k (.bool l[k]) = fillL l (k + 1) := by
  apply Array.ext
  · simp [fillL]; omega
  · intro i h1 h2
    rw [Array.getElem_setIfInBounds (by simpa using h1)]
    simp only [fillL, List.getElem_toArray, List.getElem_map, List.getElem_append, List.length_take, List.getElem_take, List.getElem_replicate]
    by_cases e : k = i
    · subst e
      rw [if_pos rfl, dif_pos (by omega)]
    · rw [if_neg e]
      by_cases e2 : i < k
      · rw [dif_pos (by omega), dif_pos (by omega)]
      · rw [dif_neg (by omega), dif_neg (by omega)]
theorem fillL_get (l : List Bool) (k i : Nat) (hi : i < l.length) (hk : k ≤ l.length) : ∃ v, (fillL l k)[i]? = some v := by
  exact ⟨_, Array.getElem?_eq_getElem (by rw [fillL_size l k hk]; exact hi)⟩
theorem fillL_full (l : List Bool) (i : Nat) (hi : i < l.length) : (fillL l l.length)[i]? = some (.bool l[i]) := by
  simp [fillL, hi]

theorem toBoolS_any (A : Option Addr) (c : Nat) (l : List Bool) (lo hi : Nat) (w : World) (h : RL w lo hi A l) (hh : hi ≤ w.heap.size) (hl : l.length ≤ 1048576) :
    Calls Try.prog 31 #[.slice A l.length c] w fun e w' => e = .returned (.slice (some ⟨w.heap.size, 0, none⟩) l.length l.length) ∧ w.alloc (.cells (fillL l l.length) 4) = w' := by
  obtain ⟨i0, hi0, hz0, hz1, hz2⟩ := info_parts Try.infoB
  have hA : ∀ ob, RL (w.alloc ob) lo hi A l := fun ob => h.keep fun p _ hp => World.cell?_alloc_lt w ob p (by omega)
  have hmk : ∀ u : World, (Instr.makeSlice 37 (.int .i64 (l.length : Int)) (.int .i64 (l.length : Int))).run Try.prog u =
      .ok (.slice (some ⟨u.heap.size, 0, none⟩) l.length l.length) (u.alloc (.cells (fillL l 0) 4)) := fun u => by
    have h := run_make (P := Try.prog) u 37 4 i0 (.bool false) Try.underlying37 hi0 hz0 .i64 .i64 (l.length : Int) (l.length : Int) (by omega) (Int.le_refl _) (by rw [hz2]; omega) (by omega)
    rw [fillL_zero]
    simpa [hz1, Value.cells] using h
  go_enter Try.func31, Try.ntmps31
  go_wp2
  go_loopw [4] (fun i wr => ∃ k : Nat, k ≤ l.length ∧ i = .int .i64 k ∧ wr = w.alloc (.cells (fillL l k) 4)) (fun i _ => l.length - (intOf i).toNat)
  case atStart => exact ⟨0, Nat.zero_le _, rfl, rfl⟩
  case round =>
    obtain ⟨k, hk, rfl, rfl⟩ := hrel
    have hs := fillL_size l k hk
    by_cases hlt : k < l.length
    · obtain ⟨b, o, rfl, _, _, hc⟩ := (hA (.cells (fillL l k) 4)).at_ hlt
      have HS := Lib.hid (fillL_set l k hlt)
      obtain ⟨u, hu⟩ := fillL_get l k k hlt hk
      generalize fillL l k = F at *
      go_wp2
      go_roundw
      case rel => exact ⟨k + 1, by omega, by go_num, by rw [← HS.out]⟩
      case measure => simp [intOf]; omega
    · obtain rfl : k = l.length := by omega
      go_wp2
      go_ret
      exact ⟨rfl, rfl⟩
theorem toBoolS_r (A : Option Addr) (c : Nat) (l : List Bool) (lo hi : Nat) (w : World) (h : RL w lo hi A l) (hh : hi ≤ w.heap.size) (hl : l.length ≤ 1048576) :
    Calls Try.prog 31 #[.slice A l.length c] w fun e w' => (e = .returned (.slice (some ⟨w.heap.size, 0, none⟩) l.length l.length) ∧ RL w' w.heap.size w'.heap.size (some ⟨w.heap.size, 0, none⟩) l) ∧ Below w.heap.size w w' := by
  refine (toBoolS_any A c l lo hi w h hh hl).mono ?_
  rintro e w' ⟨h1, rfl⟩
  have hb := Blk.new w 4 (fillL l l.length)
  refine ⟨⟨h1, ?_⟩, (Below.refl _ _).alloc (Nat.le_refl _) _⟩
  intro k hk
  refine ⟨w.heap.size, 0, rfl, Nat.le_refl _, by simp, ?_⟩
  rw [Nat.zero_add, hb.cell, fillL_full l k hk]
theorem eqBoolS_same (A : Option Addr) (c : Nat) (A' : Option Addr) (c' : Nat) (l : List Bool) (lo hi lo' hi' : Nat) (w : World) (h : RL w lo hi A l) (h' : RL w lo' hi' A' l) (hl : l.length ≤ 9223372036854775807) :
    Calls Try.prog 33 #[.slice A l.length c, .slice A' l.length c'] w fun e w' => e = .returned (.bool true) ∧ Below w.heap.size w w' :=
  (eqBoolS_any A c l A' c' l lo hi lo' hi' w h h' hl).mono fun e w' ⟨he, n, hw⟩ => ⟨by rw [he]; simp, by rw [hw]; exact (Below.refl _ _).drewN n⟩
end Go.Proofs.Ytkokdppmkajnmaa
