/-
  WORDS FOR MEMORY: a whole list is appended in a region that draws its order; the rest of a list.
-/
import Derived.Test.YtmdmemompjpmkaaCp
namespace Go.Proofs.Ytmdmemompjpmkaa
open Go.RowKit
theorem step_push_ints {ops : Array Oper} {o : Oper} {a : Act} {w : World} {K : Act → World → Prop} {Q : Exit → Act → World → Prop} {E : Prop} (hgd : o.guard = none) (s x : Operand)
    (ho : o.op = .call { callee := .builtin .append, args := #[s, x], argTypes := #[23, 23] })
    (B : Nat) (A : Option Addr) (c : Nat) (l m : List Int) (hs : a.eval s = .slice A l.length c) (hown : OI w B A c l)
    (ad : Addr) (cc : Nat) (hx : a.eval x = .slice (some ad) m.length cc) (lo hi : Nat) (hm : RI w lo hi (some ad) m) (hlen : l.length + m.length ≤ 1000000000) (hB : B ≤ w.heap.size)
    (h : ∀ A' c' w', OI w' B A' c' (l ++ m) → Below B w w' → K (a.put o.dst (.slice A' (l.length + m.length) c')) w') :
    if Region.wanted o (yielded ops a.tmps) = true then Oper.wp Try.prog o a w K Q else E := by
  have hw : Region.wanted o (yielded ops a.tmps) = true := by simp [Region.wanted, hgd]
  rw [if_pos hw]
  obtain ⟨i0, hi0, hz0, hz1, hz2⟩ := info_parts Try.info3
  have hnews : ∀ j u, (m.map (Value.int .i64))[j]? = some u → w.cell? (ad.add j) = some u := by
    intro j u hj
    rw [List.getElem?_map] at hj
    obtain ⟨y, hy, rfl⟩ := Option.map_eq_some_iff.1 hj
    obtain ⟨hj1, hj2⟩ := List.getElem?_eq_some_iff.1 hy
    obtain ⟨b, o, e, _, _, hc⟩ := hm j hj1
    cases e
    rw [Addr.add_lit, hc, hj2]
  refine wp_append_own w s x 23 ho B 3 i0 (.int .i64 0) 1 8 Try.underlying23 hi0 hz0 hz1 hz2 rfl (by decide) _ _ _ hs hown ad m.length cc (m.map (Value.int .i64)) hx (by simp) hnews ?_ ?_ ?_ hB ?_
  · intro u hu
    obtain ⟨y, _, rfl⟩ := List.mem_map.1 hu
    rfl
  · unfold maxLen; omega
  · omega
  · intro v' w' hown' hg _
    have h1 : w'.ownsRow B 3 1 v' (l ++ m).length ((l ++ m).map (Value.int .i64)) := by
      rw [List.length_append, List.map_append]
      exact hown'
    obtain ⟨A', c', hv, ho'⟩ := OI.form h1
    rw [hv, List.length_append]
    refine h A' c' w' ho' ?_
    refine (Below.refl B w).grown hg hB ?_
    intro k hk
    exact (hown.lt k hk).1
theorem RI.drop {w : World} {lo hi b o : Nat} {l : List Int} (h : RI w lo hi (some ⟨b, o, none⟩) l) (j : Nat) : RI w lo hi (some ⟨b, o + j, none⟩) (l.drop j) := by
  intro k hk
  rw [List.length_drop] at hk
  obtain ⟨b', o', e, h1, h2, hc⟩ := h (j + k) (by omega)
  cases e
  refine ⟨b, o + j, rfl, h1, h2, ?_⟩
  rw [show o + j + k = o + (j + k) from by omega, hc, List.getElem_drop]
end Go.Proofs.Ytmdmemompjpmkaa
