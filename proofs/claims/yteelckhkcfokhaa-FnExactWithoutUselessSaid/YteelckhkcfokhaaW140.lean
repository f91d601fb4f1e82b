/-
  WALKS: what a call laid itself, beside marks elsewhere.
-/
import Derived.Test.YteelckhkcfokhaaW139
import Derived.Test.YteelckhkcfokhaaMath136
import Derived.Test.YteelckhkcfokhaaMath132
namespace Go.Proofs.Yteelckhkcfokhaa
open Go.RowKit
theorem OI.touch {w w' : World} {B lo hi : Nat} {A : Option Addr} {c : Nat} {l : List Int} (h : OI w B A c l) (ht : Touch lo hi w w') (hh : hi ≤ B) : OI w' B A c l := by
  refine ⟨h.1, ?_⟩
  rcases h.2 with hn | ⟨g, cap, cur, hv, h1, hg, rest⟩
  · exact .inl hn
  · exact .inr ⟨g, cap, cur, hv, h1, by rw [ht.far g (.inr (by omega))]; exact hg, rest⟩
theorem OS.touch {w w' : World} {B lo hi : Nat} {A : Option Addr} {c : Nat} {vs : List Value} (h : OS w B A c vs) (ht : Touch lo hi w w') (hh : hi ≤ B) : OS w' B A c vs := by
  refine ⟨h.1, ?_⟩
  rcases h.2 with hn | ⟨g, cap, cur, hv, h1, hg, rest⟩
  · exact .inl hn
  · exact .inr ⟨g, cap, cur, hv, h1, by rw [ht.far g (.inr (by omega))]; exact hg, rest⟩
theorem OU.touch {w w' : World} {B lo hi : Nat} {A : Option Addr} {c : Nat} {vs : List RW} (h : OU w B A c vs) (ht : Touch lo hi w w') (hh : hi ≤ B) : OU w' B A c vs := by
  refine ⟨h.1, ?_⟩
  rcases h.2 with hn | ⟨g, cap, cur, hv, h1, hg, rest⟩
  · exact .inl hn
  · exact .inr ⟨g, cap, cur, hv, h1, by rw [ht.far g (.inr (by omega))]; exact hg, rest⟩
theorem SLc.touch {w w' : World} {B lo hi h2 : Nat} {vs : List Value} {Ls : List (List Int)} (h : SLc w B h2 vs Ls) (ht : Touch lo hi w w') (hh : hi ≤ B) : SLc w' B h2 vs Ls := by
  obtain ⟨f, f0, f1, f2, f3, f4⟩ := h
  refine ⟨f, f0, f1, f2, f3, fun k hk => ?_⟩
  obtain ⟨N, c, e, ho, hn⟩ := f4 k hk
  exact ⟨N, c, e, ho.touch ht (Nat.le_trans hh (Nat.le_trans f0 (cut_le f2 (Nat.zero_le k) (by omega)))), hn⟩
theorem TSc.touch {w w' : World} {B lo hi h2 : Nat} {rs : List RW} {g : List Bs.T} (h : TSc w B h2 rs g) (ht : Touch lo hi w w') (hh : hi ≤ B) : TSc w' B h2 rs g := ⟨h.1, h.2.touch ht hh⟩
theorem RS.touch_S {w w' : World} {lo hi lo' hi' : Nat} {A : Option Addr} {Ls : List (List Int)} (h : RS w lo hi A Ls) (ht : Touch lo' hi' w w') (hd : hi ≤ lo' ∨ hi' ≤ lo) : RS w' lo hi A Ls :=
  h.keep fun p h1 h2 => ht.cellTo (by omega)
theorem RG.touch_T {w w' : World} {lo hi lo' hi' : Nat} {A : Option Addr} {g : List Bs.T} (h : RG w lo hi A g) (ht : Touch lo' hi' w w') (hd : hi ≤ lo' ∨ hi' ≤ lo) : RG w' lo hi A g :=
  h.keep fun p h1 h2 => ht.cellTo (by omega)
theorem Bs.stages_len1 (g : List Bs.T) : (Bs.stgL g).length ≤ 1000 ∧ ∀ L ∈ Bs.stgL g, L.length ≤ 1000 := by
  cases hv : Bs.valid g
  · rw [Bs.stgL_no hv]; simp
  · obtain ⟨k, hk, _, _, hL⟩ := Bs.stg_end hv
    have h8 := Bs.fine_len (valid_fine hv)
    rw [hL]
    refine ⟨by simp [Bs.stgK]; omega, ?_⟩
    intro L hL
    unfold Bs.stgK at hL
    obtain ⟨s, _, rfl⟩ := List.mem_map.1 hL
    have : (Bs.stgS g s).length ≤ g.length := Bs.pick_len _ _
    omega
theorem Bs.pair_len1 (g : List Bs.T) : (Bs.pairL g).length ≤ 1000 ∧ ∀ L ∈ Bs.pairL g, L.length ≤ 1000 := by
  obtain ⟨h1, h2⟩ := Bs.pair_law (g := g) rfl
  refine ⟨by omega, ?_⟩
  intro L hL
  obtain ⟨k, hk, rfl⟩ := List.mem_iff_getElem.1 hL
  obtain ⟨_, _, a, x, _, _, e, _⟩ := h2 k hk
  rw [e]
  simp
theorem Bs.wu_len1 (g : List Bs.T) : (Bs.wuL g).length ≤ 1000 ∧ ∀ t ∈ Bs.wuL g, t.needs.length ≤ 1000 := by
  cases hv : Bs.valid g
  · rw [Bs.wuL_no hv]; simp
  · have h8 := Bs.fine_len (valid_fine hv)
    have hw := valid_fine (Bs.valid_wu hv)
    rw [Bs.wuL_yes hv]
    refine ⟨by rw [Bs.wuG_len]; omega, ?_⟩
    intro t ht
    obtain ⟨k, hk, rfl⟩ := List.mem_iff_getElem.1 ht
    have := Bs.fine_needs_len hw hk
    rw [Bs.wuG_len] at this
    omega
end Go.Proofs.Yteelckhkcfokhaa
