/-
  WALKS: slack times of the model.
-/
import Derived.Test.YtihgakbopkaemaaW19
import Derived.Test.YtihgakbopkaemaaK1
import Derived.Deep.RegionHeld3
import Derived.Deep.RegionLawGrows
namespace Go.Proofs.Ytihgakbopkaemaa
open Go.RowKit
/-- 'out = append(out, q)' in a region that draws its order -/
theorem step_push_z {ops : Array Oper} {o : Oper} {a : Act} {w : World} {K : Act → World → Prop} {Q : Exit → Act → World → Prop} {E : Prop} (hgd : o.guard = none) (s x : Operand)
    (ho : o.op = .call { callee := .builtin .append, args := #[s, x], argTypes := #[24, 24] })
    (B : Nat) (A : Option Addr) (c : Nat) (l : List Int) (q : Int) (hs : a.eval s = .slice A l.length c) (hown : OZ w B A c l)
    (g cc : Nat) (hx : a.eval x = .slice (some ⟨g, 0, none⟩) 1 cc) (hc : w.cell? ⟨g, 0, none⟩ = some (.int .i64 q)) (hlen : l.length ≤ 1000000000) (hB : B ≤ w.heap.size)
    (h : ∀ A' c' w', OI w' B A' c' (l ++ [q]) → Below B w w' → K (a.put o.dst (.slice A' (l.length + 1) c')) w') : if Region.wanted o (yielded ops a.tmps) = true then Oper.wp Try.prog o a w K Q else E := by
  obtain ⟨i0, hi0, hz0, hz1, hz2⟩ := info_parts Try.info3
  have hnews : ∀ j u, [Value.int .i64 q][j]? = some u → w.cell? ((⟨g, 0, none⟩ : Addr).add j) = some u := by
    intro j u hj
    cases j with
    | zero =>
      simp only [List.getElem?_cons_zero, Option.some.injEq] at hj
      subst hj
      rw [Addr.add_lit]
      exact hc
    | succ j => simp at hj
  have hone : ∀ u ∈ [Value.int .i64 q], u.oneCell' = true := by
    intro u hu
    simp only [List.mem_singleton] at hu
    subst hu
    rfl
  rcases hown with ⟨rfl, rfl⟩ | hown
  · refine step_append_grows hgd s x 24 ho 3 i0 (.int .i64 0) 1 8 Try.underlying24 hi0 hz0 hz1 hz2 rfl (by decide) A 0 0 [] hs (fun _ => ⟨rfl, rfl⟩) rfl (fun _ _ j u hu => by simp at hu) ⟨g, 0, none⟩ 1 cc [.int .i64 q] hx rfl hnews hone (by omega) (by unfold maxLen; omega) (by omega) ?_
    intro v' w' hown' hg
    have h1 : w'.ownsRow w.heap.size 3 1 v' ([] ++ [q] : List Int).length (([] ++ [q] : List Int).map (Value.int .i64)) := hown'
    obtain ⟨A', c', hv, ho'⟩ := OI.form h1
    rw [hv]
    exact h A' c' w' (ho'.base hB) ((Below.refl B w).grown hg hB (fun k hk => by cases hk))
  · rw [if_pos (by simp [Region.wanted, hgd])]
    refine wp_append_own w s x 24 ho B 3 i0 (.int .i64 0) 1 8 Try.underlying24 hi0 hz0 hz1 hz2 rfl (by decide) _ _ _ hs hown ⟨g, 0, none⟩ 1 cc [.int .i64 q] hx rfl hnews hone (by unfold maxLen; omega) (by omega) hB ?_
    intro v' w' hown' hg _
    have h1 : w'.ownsRow B 3 1 v' (l ++ [q]).length ((l ++ [q]).map (Value.int .i64)) := by
      rw [List.length_append, List.map_append]
      exact hown'
    obtain ⟨A', c', hv, ho'⟩ := OI.form h1
    rw [hv, List.length_append]
    exact h A' c' w' ho' ((Below.refl B w).grown hg hB (fun k hk => (hown.lt k hk).1))

end Go.Proofs.Ytihgakbopkaemaa
