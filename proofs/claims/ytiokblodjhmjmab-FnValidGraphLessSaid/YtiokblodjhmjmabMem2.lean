/-
  WORDS FOR MEMORY, MORE: a list that is collected beside others. No condition.
-/
import Derived.Test.YtiokblodjhmjmabW5
import Derived.ArgAppend
namespace Go.Proofs.Ytiokblodjhmjmab
open Go.RowKit
/-- a row of integers from block B on, or an empty slice without room -/
def OZ (w : World) (B : Nat) (A : Option Addr) (c : Nat) (l : List Int) : Prop := (l = [] ∧ c = 0) ∨ OI w B A c l
theorem OI.base {w : World} {B B' : Nat} {A : Option Addr} {c : Nat} {l : List Int} (h : OI w B A c l) (hB : B' ≤ B) : OI w B' A c l := by
  refine ⟨h.1, ?_⟩
  rcases h.2 with hn | ⟨g, cap, cur, hv, h1, rest⟩
  · exact .inl hn
  · exact .inr ⟨g, cap, cur, hv, Nat.le_trans hB h1, rest⟩
theorem OZ.ri {w : World} {B : Nat} {A : Option Addr} {c : Nat} {l : List Int} (h : OZ w B A c l) : RI w B w.heap.size A l := by
  rcases h with ⟨rfl, _⟩ | h
  · exact RI.nil
  · exact h.ri
theorem OZ.alloc {w : World} {B : Nat} {A : Option Addr} {c : Nat} {l : List Int} (h : OZ w B A c l) (o : Obj) : OZ (w.alloc o) B A c l := h.imp id (fun h => h.alloc o)
theorem OZ.drewN {w : World} {B : Nat} {A : Option Addr} {c : Nat} {l : List Int} (h : OZ w B A c l) (n : Nat) : OZ (w.drewN n) B A c l := h
theorem OZ.below {w w' : World} {B B' : Nat} {A : Option Addr} {c : Nat} {l : List Int} (h : OZ w B A c l) (hb : Below B' w w') (hB : w.heap.size ≤ B') : OZ w' B A c l := h.imp id (fun h => h.below hb hB)
/-- an empty slice with no room, handed back as it lies -/
theorem OZ.ret {w0 w : World} {B : Nat} {A : Option Addr} {c : Nat} {l : List Int} (h : OZ w B A c l) (h0 : OI w w0.heap.size A c []) (hB : w0.heap.size ≤ B) : OI w w0.heap.size A c l := by
  rcases h with ⟨rfl, rfl⟩ | h
  · exact h0
  · exact h.base hB
theorem push_z {ops : Array Oper} {rest : List Oper} {o : Oper} {a : Act} {Q : Exit → Act → World → Prop} {w : World} (hgd : o.guard = none) (s x : Operand)
    (ho : o.op = .call { callee := .builtin .append, args := #[s, x], argTypes := #[25, 25] })
    (B : Nat) (A : Option Addr) (c : Nat) (l : List Int) (q : Int) (hs : a.eval s = .slice A l.length c) (hown : OZ w B A c l)
    (g cc : Nat) (hx : a.eval x = .slice (some ⟨g, 0, none⟩) 1 cc) (hc : w.cell? ⟨g, 0, none⟩ = some (.int .i64 q)) (hlen : l.length ≤ 1000000000) (hB : B ≤ w.heap.size)
    (h : ∀ A' c' w', OI w' B A' c' (l ++ [q]) → Below B w w' → wpList Try.prog ops Q rest (a.put o.dst (.slice A' (l.length + 1) c')) w') : wpList Try.prog ops Q (o :: rest) a w := by
  rcases hown with ⟨rfl, rfl⟩ | hown
  · obtain ⟨i0, hi0, hz0, hz1, hz2⟩ := info_parts Try.info3
    refine wpList_append_grows w hgd s x 25 ho 3 i0 (.int .i64 0) 1 8 Try.underlying25 hi0 hz0 hz1 hz2 rfl (by decide) A 0 0 [] hs (fun _ => ⟨rfl, rfl⟩) rfl (fun _ _ j u hu => by simp at hu) ⟨g, 0, none⟩ 1 cc [.int .i64 q] hx rfl ?_ ?_ (by omega) (by unfold maxLen; omega) (by omega) ?_
    · intro j u hj
      cases j with
      | zero =>
        simp only [List.getElem?_cons_zero, Option.some.injEq] at hj
        subst hj
        rw [Addr.add_lit]
        exact hc
      | succ j => simp at hj
    · intro u hu
      simp only [List.mem_singleton] at hu
      subst hu
      rfl
    · intro v' w' hown' hg
      have h1 : w'.ownsRow w.heap.size 3 1 v' ([] ++ [q] : List Int).length (([] ++ [q] : List Int).map (Value.int .i64)) := hown'
      obtain ⟨A', c', hv, ho'⟩ := OI.form h1
      rw [hv]
      exact h A' c' w' (ho'.base hB) ((Below.refl B w).grown hg hB (fun k hk => by cases hk))
  · exact push_int hgd s x ho B A c l q hs hown g cc hx hc hlen hB (fun A' c' w' h1 h2 _ => h A' c' w' h1 h2)
end Go.Proofs.Ytiokblodjhmjmab
