/-
  WORDS FOR MEMORY: a user is stored into an own row. No condition.
-/
import Derived.Test.YtbmfhnijbdmjbaaW101
import Derived.Test.YtbmfhnijbdmjbaaMem9
namespace Go.Proofs.Ytbmfhnijbdmjbaa
open Go.RowKit
theorem set3_only2 (w : World) (b o : Nat) (x : Bs.U) : OnlyB b w (set3 w b o x) := by
  unfold set3
  exact ((OnlyB.set w b o _).trans' (OnlyB.set _ b (o + 1) _)).trans' (OnlyB.set _ b (o + 2) _)
theorem uA_one2 (u : Bs.U) : (#[.int .i64 u.share, .int .i64 u.used, .int .i64 u.waits] : Array Value).all (·.oneCell') = true := by simp [Value.oneCell']
theorem OR.there2 {w : World} {B : Nat} {b : Nat} {c : Nat} {l : List Bs.U} (h : OR w B (some ⟨b, 0, none⟩) c l) {k : Nat} (hk : k < l.length) : w.there b (k * 3) 3 := by
  obtain ⟨b', e', h1, h2, hc, hf⟩ := h.blk (by omega)
  cases e'
  intro j hj
  refine ⟨?_, hf _⟩
  have hlen : (l.flatMap uc).length = l.length * 3 := OR.len
  have hlt : k * 3 + j < (l.flatMap uc).length := by rw [hlen]; omega
  rw [hc (k * 3 + j) _ (List.getElem?_eq_getElem hlt)]
  rfl
/-- a user is stored into a row -/
theorem ur_store2 {ops : Array Oper} {rest : List Oper} {o : Oper} {a : Act} {w : World} {Q : Exit → Act → World → Prop} (hgd : o.guard = none) (x y : Operand) (ho : o.op = .store 46 x y)
    (B b : Nat) (c : Nat) (l : List Bs.U) (k : Nat) (hk : k < l.length) (u : Bs.U) (hx : a.eval x = .pointer (some ⟨b, k * 3, none⟩)) (hy : a.eval y = .agg #[.int .i64 u.share, .int .i64 u.used, .int .i64 u.waits]) (hown : OR w B (some ⟨b, 0, none⟩) c l)
    (h : ∀ w', OR w' B (some ⟨b, 0, none⟩) c (l.set k u) → OnlyB b w w' → wpList Try.prog ops Q rest (a.put o.dst undef) w') : wpList Try.prog ops Q (o :: rest) a w := by
  refine wpList_store_mid hgd 46 x y ho b (k * 3) #[.int .i64 u.share, .int .i64 u.used, .int .i64 u.waits] hx hy (hown.there2 hk) Try.sizeUserD (uA_one2 u) ?_
  obtain ⟨b', e', h1, h2, h3⟩ := hown.setR hk u
  cases e'
  exact h _ h3 (set3_only2 w b (k * 3) u)
end Go.Proofs.Ytbmfhnijbdmjbaa
