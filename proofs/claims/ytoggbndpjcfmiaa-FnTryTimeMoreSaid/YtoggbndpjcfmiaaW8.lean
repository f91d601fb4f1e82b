/-
  WALKS: copies and comparisons of graphs.
-/
import Derived.Test.YtoggbndpjcfmiaaW7
import Derived.Deep.RegionWith
namespace Go.Proofs.Ytoggbndpjcfmiaa
open Go.RowKit
theorem Try.infoTask : (Try.prog.info? 42).map (fun i => (i.zero, i.size, i.bytes)) = some (some (.agg #[.int .i64 0, .slice none 0 0, .int .i64 0, .int .i64 0]), 4, 48) := by kernel_rfl
/-- the first k tasks of the block bx are those of g -/
def Copied (w : World) (bx k : Nat) (g : List Bs.T) (cs : Array Value) : Prop :=
  cs.size = g.length * 4 ∧ ∀ j (hj : j < g.length), j < k → ∃ N c, cs[j * 4]? = some (.int .i64 g[j].time) ∧ cs[j * 4 + 1]? = some (.slice N g[j].needs.length c) ∧ cs[j * 4 + 2]? = some (.int .i64 g[j].pool) ∧ cs[j * 4 + 3]? = some (.int .i64 g[j].units) ∧ g[j].needs.length ≤ c ∧ c ≤ 9223372036854775807 ∧ RI w (bx + 1) w.heap.size N g[j].needs
theorem Copied.below {w w' : World} {bx k : Nat} {g : List Bs.T} {cs : Array Value} (h : Copied w bx k g cs) (hb : Below w.heap.size w w') : Copied w' bx k g cs :=
  ⟨h.1, fun j hj hk => by
    obtain ⟨N, c, h0, h1, h2, h3, h4, h5, h6⟩ := h.2 j hj hk
    exact ⟨N, c, h0, h1, h2, h3, h4, h5, (h6.below hb (Nat.le_refl _)).more (Nat.le_refl _) hb.size⟩⟩
theorem set4_get (cs : Array Value) (k i : Nat) (v0 v1 v2 v3 : Value) (hk : k * 4 + 3 < cs.size) :
    ((((cs.setIfInBounds (k * 4) v0).setIfInBounds (k * 4 + 1) v1).setIfInBounds (k * 4 + 2) v2).setIfInBounds (k * 4 + 3) v3)[i]? = if i = k * 4 then some v0 else if i = k * 4 + 1 then some v1 else if i = k * 4 + 2 then some v2 else if i = k * 4 + 3 then some v3 else cs[i]? := by
  simp only [Array.getElem?_setIfInBounds, Array.size_setIfInBounds]
  by_cases e3 : k * 4 + 3 = i
  · subst e3
    rw [if_pos rfl, if_pos (by omega), if_neg (by omega), if_neg (by omega), if_neg (by omega), if_pos rfl]
  · rw [if_neg e3]
    by_cases e2 : k * 4 + 2 = i
    · subst e2
      rw [if_pos rfl, if_pos (by omega), if_neg (by omega), if_neg (by omega), if_pos rfl]
    · rw [if_neg e2]
      by_cases e1 : k * 4 + 1 = i
      · subst e1
        rw [if_pos rfl, if_pos (by omega), if_neg (by omega), if_pos rfl]
      · rw [if_neg e1]
        by_cases e0 : k * 4 = i
        · subst e0
          rw [if_pos rfl, if_pos (by omega), if_pos rfl]
        · rw [if_neg e0, if_neg (by omega), if_neg (by omega), if_neg (by omega), if_neg (by omega)]
def w4 (w : World) (bx i : Nat) (v0 v1 v2 v3 : Value) : World := (((w.setCell ⟨bx, i, none⟩ v0).setCell ⟨bx, i + 1, none⟩ v1).setCell ⟨bx, i + 2, none⟩ v2).setCell ⟨bx, i + 3, none⟩ v3
theorem w4_size (w : World) (bx i : Nat) (v0 v1 v2 v3 : Value) : (w4 w bx i v0 v1 v2 v3).heap.size = w.heap.size := by simp [w4, World.setCell]
theorem Copied.step {w : World} {bx k : Nat} {g : List Bs.T} {cs : Array Value} (h : Copied w bx k g cs) (hk : k < g.length) (N : Option Addr) (c : Nat) (h4 : g[k].needs.length ≤ c) (h5 : c ≤ 9223372036854775807) (h6 : RI w (bx + 1) w.heap.size N g[k].needs) :
    Copied (w4 w bx (k * 4) (.int .i64 g[k].time) (.slice N g[k].needs.length c) (.int .i64 g[k].pool) (.int .i64 g[k].units)) bx (k + 1) g
      ((((cs.setIfInBounds (k * 4) (.int .i64 g[k].time)).setIfInBounds (k * 4 + 1) (.slice N g[k].needs.length c)).setIfInBounds (k * 4 + 2) (.int .i64 g[k].pool)).setIfInBounds (k * 4 + 3) (.int .i64 g[k].units)) := by
  have hs := h.1
  have keep : ∀ {N : Option Addr} {l : List Int}, RI w (bx + 1) w.heap.size N l → RI (w4 w bx (k * 4) (.int .i64 g[k].time) (.slice N g[k].needs.length c) (.int .i64 g[k].pool) (.int .i64 g[k].units)) (bx + 1) w.heap.size N l := by
    intro N l hr
    unfold w4
    exact (((hr.set_far (.inl (by simp)) _).set_far (.inl (by simp)) _).set_far (.inl (by simp)) _).set_far (.inl (by simp)) _
  refine ⟨by simp [hs], ?_⟩
  intro j hj hjk
  simp only [set4_get cs k _ _ _ _ _ (by omega), w4_size]
  by_cases e : j = k
  · subst e
    refine ⟨N, c, by rw [if_pos rfl], by rw [if_neg (by omega), if_pos rfl], by rw [if_neg (by omega), if_neg (by omega), if_pos rfl], by rw [if_neg (by omega), if_neg (by omega), if_neg (by omega), if_pos rfl], h4, h5, ?_⟩
    unfold w4
    exact (((h6.set_far (.inl (by simp)) _).set_far (.inl (by simp)) _).set_far (.inl (by simp)) _).set_far (.inl (by simp)) _
  · obtain ⟨N', c', q0, q1, q2, q3, q4, q5, q6⟩ := h.2 j hj (by omega)
    refine ⟨N', c', ?_, ?_, ?_, ?_, q4, q5, ?_⟩
    · rw [if_neg (by omega), if_neg (by omega), if_neg (by omega), if_neg (by omega)]; exact q0
    · rw [if_neg (by omega), if_neg (by omega), if_neg (by omega), if_neg (by omega)]; exact q1
    · rw [if_neg (by omega), if_neg (by omega), if_neg (by omega), if_neg (by omega)]; exact q2
    · rw [if_neg (by omega), if_neg (by omega), if_neg (by omega), if_neg (by omega)]; exact q3
    · unfold w4
      exact (((q6.set_far (.inl (by simp)) _).set_far (.inl (by simp)) _).set_far (.inl (by simp)) _).set_far (.inl (by simp)) _

end Go.Proofs.Ytoggbndpjcfmiaa
