/-
  WORDS FOR MEMORY, MORE: two lists that grow side by side. No condition.
-/
import Derived.Test.YtihgakbopkaemaaK1
import Derived.Maps.AppendAt
namespace Go.Proofs.Ytihgakbopkaemaa
open Go.RowKit
/-- two slices whose blocks differ -/
def Apart (A A' : Option Addr) : Prop := ∀ a a', A = some a → A' = some a' → a.block ≠ a'.block
theorem Apart.symm {A A' : Option Addr} (h : Apart A A') : Apart A' A := fun a a' h1 h2 e => h a' a h2 h1 e.symm
theorem OI.blk_lt {w : World} {B : Nat} {A : Option Addr} {c : Nat} {l : List Int} (h : OI w B A c l) {a : Addr} (ha : A = some a) : a.block < w.heap.size := by
  subst ha
  rcases h.2 with ⟨hv, hn⟩ | ⟨b, cap, cur, hv, hb, hg, _⟩
  · cases hv
  · injection hv with hA _ _
    injection hA with hA
    rw [hA]
    exact (Array.getElem?_eq_some_iff.1 hg).1
theorem Apart.own {A A' : Option Addr} (h : Apart A A') (n n' c c' : Nat) : (Value.slice A n c).ownBlock = none ∨ (Value.slice A n c).ownBlock ≠ (Value.slice A' n' c').ownBlock := by
  cases A with
  | none => exact .inl rfl
  | some a =>
    refine .inr ?_
    cases A' with
    | none => intro e; cases e
    | some a' =>
      intro e
      exact h a a' rfl rfl (Option.some.inj e)
/-- 'out = append(out, q)', and where the row lies then -/
theorem push_at {ops : Array Oper} {rest : List Oper} {o : Oper} {a : Act} {Q : Exit → Act → World → Prop} {w : World} (hgd : o.guard = none) (s x : Operand)
    (ho : o.op = .call { callee := .builtin .append, args := #[s, x], argTypes := #[24, 24] })
    (B : Nat) (A : Option Addr) (c : Nat) (l : List Int) (q : Int) (hs : a.eval s = .slice A l.length c) (hown : OI w B A c l)
    (g cc : Nat) (hx : a.eval x = .slice (some ⟨g, 0, none⟩) 1 cc) (hc : w.cell? ⟨g, 0, none⟩ = some (.int .i64 q)) (hlen : l.length ≤ 1000000000) (hB : B ≤ w.heap.size)
    (h : ∀ A' c' w', OI w' B A' c' (l ++ [q]) → Below B w w' → (∀ B2 A2 c2 l2, OI w B2 A2 c2 l2 → Apart A2 A → OI w' B2 A2 c2 l2 ∧ Apart A2 A') → w.heap.size ≤ w'.heap.size → wpList Try.prog ops Q rest (a.put o.dst (.slice A' (l.length + 1) c')) w') : wpList Try.prog ops Q (o :: rest) a w := by
  obtain ⟨i0, hi0, hz0, hz1, hz2⟩ := info_parts Try.info3
  refine wpList_append_own_at (w := w) hgd s x 24 ho B 3 i0 (.int .i64 0) 1 8 Try.underlying24 hi0 hz0 hz1 hz2 rfl (by decide) _ _ _ hs hown ⟨g, 0, none⟩ 1 cc [.int .i64 q] hx rfl ?_ ?_ ?_ ?_ hB ?_
  · intro j u hj
    cases j with
    | zero =>
      simp only [List.getElem?_cons_zero, Option.some.injEq] at hj
      subst hj
      rw [Addr.add_lit]
      exact hc
    | succ j => simp at hj
  · intro u hu
    simp only [List.mem_singleton] at hu
    subst hu
    rfl
  · unfold maxLen; omega
  · omega
  · intro v' w' hown' hg _ hwh
    have h1 : w'.ownsRow B 3 1 v' (l ++ [q]).length ((l ++ [q]).map (Value.int .i64)) := by
      rw [List.length_append, List.map_append]
      exact hown'
    obtain ⟨A', c', hv, ho'⟩ := OI.form h1
    rw [hv, List.length_append]
    have hbl : Below B w w' := by
      refine (Below.refl B w).grown hg hB ?_
      intro k hk
      exact (hown.lt k hk).1
    refine h A' c' w' ho' hbl ?_ hg.size
    intro B2 A2 c2 l2 h2 hap
    refine ⟨h2.kept hg (hap.own _ _ _ _), ?_⟩
    intro a2 a' e2 e' e
    rw [hv, e'] at hwh
    rcases hwh with hwh | hwh
    · cases A with
      | none => cases hwh
      | some aa =>
        have : a'.block = aa.block := Option.some.inj hwh
        exact hap a2 aa e2 rfl (e.trans this)
    · have : a'.block = w.heap.size := Option.some.inj hwh
      have := h2.blk_lt e2
      omega
end Go.Proofs.Ytihgakbopkaemaa
