/-
  WORDS FOR MEMORY: own rows of users: a whole list appended, one user changed in two places, what an append of numbers leaves. No condition.
-/
import Derived.Test.YtbmfhnijbdmjbaaMem7
import Derived.Test.YtbmfhnijbdmjbaaMath81
namespace Go.Proofs.Ytbmfhnijbdmjbaa
open Go.RowKit
theorem OR.lower {w : World} {B B' : Nat} {A : Option Addr} {c : Nat} {l : List Bs.U} (h : OR w B A c l) (hB : B' ≤ B) : OR w B' A c l := by
  refine ⟨h.1, ?_⟩
  rcases h.2 with hn | ⟨g, cap, cur, hv, h1, rest⟩
  · exact .inl hn
  · exact .inr ⟨g, cap, cur, hv, by omega, rest⟩
theorem OR.none_ (w : World) (B : Nat) : OR w B none 0 [] := World.ownsRow_nil w B 46 3
theorem OR.kept {w w' : World} {B : Nat} {A : Option Addr} {c : Nat} {l : List Bs.U} {row : Option Nat} (h : OR w B A c l) (hg : w.grownBy w' row) (hne : (Value.slice A l.length c).ownBlock = none ∨ (Value.slice A l.length c).ownBlock ≠ row) : OR w' B A c l := World.ownsRow.kept h hg hne
theorem OR.ne_oi {w : World} {B B' : Nat} {A A' : Option Addr} {c c' : Nat} {l : List Bs.U} {m : List Int} (h : OR w B A c l) (k : OI w B' A' c' m) : (Value.slice A l.length c).ownBlock = none ∨ (Value.slice A l.length c).ownBlock ≠ (Value.slice A' m.length c').ownBlock := by
  rcases h.2 with ⟨hv, _⟩ | ⟨g, cap, cur, hv, h1, hg, _⟩
  · left
    rw [hv]
    rfl
  · right
    rcases k.2 with ⟨hv2, _⟩ | ⟨g2, cap2, cur2, hv2, h2, hg2, _⟩
    · rw [hv, hv2]; simp [Value.ownBlock]
    · rw [hv, hv2]
      intro e
      have e2 : g = g2 := by simpa [Value.ownBlock] using e
      subst e2
      rw [hg] at hg2
      cases hg2
theorem RU.cells {w : World} {lo hi : Nat} {b o : Nat} {l : List Bs.U} (h : RU w lo hi (some ⟨b, o, none⟩) l) : ∀ j u, (l.flatMap uc)[j]? = some u → w.cell? ⟨b, o + j, none⟩ = some u := by
  intro j u hu
  have hlen : (l.flatMap uc).length = l.length * 3 := OR.len
  have hj : j < l.length * 3 := by rw [← hlen]; exact (List.getElem?_eq_some_iff.1 hu).1
  have hk : j / 3 < l.length := by omega
  have ej : j = j / 3 * 3 + j % 3 := by omega
  have hr : j % 3 < 3 := by omega
  obtain ⟨b', o', e', _, _, c0, c1, c2⟩ := h (j / 3) hk
  cases e'
  rw [ej, uc_at l (j / 3) hk (j % 3) hr] at hu
  rw [ej]
  generalize j / 3 = k at *
  generalize hm : j % 3 = r at *
  have : r = 0 ∨ r = 1 ∨ r = 2 := by omega
  rcases this with rfl | rfl | rfl
  · simp only [uc, List.getElem?_cons_zero, Option.some.injEq] at hu
    subst hu
    exact c0
  · simp only [uc, List.getElem?_cons_succ, List.getElem?_cons_zero, Option.some.injEq] at hu
    subst hu
    exact c1
  · simp only [uc, List.getElem?_cons_succ, List.getElem?_cons_zero, Option.some.injEq] at hu
    subst hu
    exact c2
theorem run_push_usersO {w : World} {ty : TypeId} (B : Nat) (A : Option Addr) (c : Nat) (l m : List Bs.U) (hown : OR w B A c l)
    (b o cc : Nat) (hc : ∀ j u, (m.flatMap uc)[j]? = some u → w.cell? ⟨b, o + j, none⟩ = some u) (hlen : l.length + m.length ≤ 1000000000) (hB : B ≤ w.heap.size) :
    ∃ A' c' w', (Builtin.append_ #[25, 25] ty #[.slice A l.length c, .slice (some ⟨b, o, none⟩) m.length cc]).run Try.prog w = .ok (.slice A' (l.length + m.length) c') w' ∧ OR w' B A' c' (l ++ m) ∧ Below B w w' := by
  obtain ⟨i0, hi0, hz0, hz1, hz2⟩ := info_parts Try.infoUserD
  obtain ⟨v', w', hr, hown', hg, _⟩ := run_append_own (P := Try.prog) w B 25 ty 46 i0 _ 3 24 Try.underlying25 hi0 hz0 hz1 hz2 rfl (by decide) _ _ _ hown ⟨b, o, none⟩ m.length cc (m.flatMap uc) OR.len
    (by intro j u hj; rw [Addr.add_lit]; exact hc j u hj) (fun u hu => uc_one hu) (by unfold maxLen; omega) (by omega) hB
  have h1 : w'.ownsRow B 46 3 v' (l ++ m).length ((l ++ m).flatMap uc) := by
    rw [List.length_append, List.flatMap_append]
    exact hown'
  obtain ⟨A', c', hv, ho'⟩ := OR.form h1
  rw [hv, List.length_append] at hr
  refine ⟨A', c', w', hr, ho', ?_⟩
  refine (Below.refl B w).grown hg hB ?_
  intro k hk
  exact (hown.lt k hk).1
theorem push_usersO {ops : Array Oper} {rest : List Oper} {o : Oper} {a : Act} {Q : Exit → Act → World → Prop} {w : World} (hgd : o.guard = none) (s x : Operand)
    (ho : o.op = .call { callee := .builtin .append, args := #[s, x], argTypes := #[25, 25] })
    (B : Nat) (A : Option Addr) (c : Nat) (l m : List Bs.U) (hs : a.eval s = .slice A l.length c) (hown : OR w B A c l)
    (b off cc : Nat) (hx : a.eval x = .slice (some ⟨b, off, none⟩) m.length cc) (hc : ∀ j u, (m.flatMap uc)[j]? = some u → w.cell? ⟨b, off + j, none⟩ = some u) (hlen : l.length + m.length ≤ 1000000000) (hB : B ≤ w.heap.size)
    (h : ∀ A' c' w', OR w' B A' c' (l ++ m) → Below B w w' → wpList Try.prog ops Q rest (a.put o.dst (.slice A' (l.length + m.length) c')) w') : wpList Try.prog ops Q (o :: rest) a w := by
  refine wpList_plain hgd fun K hK => ?_
  obtain ⟨A', c', w', hr, h1, h2⟩ := run_push_usersO (ty := o.type) B A c l m hown b off cc hc hlen hB
  unfold Oper.wp
  simp [execOp, ho, resolve, invoke, builtin, hs, hx, hr, Result.andThen]
  exact hK _ _ (h A' c' w' h1 h2)
theorem uc_set2 (l : List Bs.U) (k : Nat) (hk : k < l.length) (x y : Int) : ((l.flatMap uc).set (k * 3 + 1) (.int .i64 x)).set (k * 3 + 2) (.int .i64 y) = (l.set k ⟨(Bs.gu l k).share, x, y⟩).flatMap uc := by
  rw [← uc_set l k hk ⟨(Bs.gu l k).share, x, y⟩]
  have hlen : (l.flatMap uc).length = l.length * 3 := OR.len
  have h0 := uc_at l k hk 0 (by omega)
  rw [Nat.add_zero] at h0
  have hlt : k * 3 < (l.flatMap uc).length := by rw [hlen]; omega
  rw [List.getElem?_eq_getElem hlt] at h0
  have h1 : (l.flatMap uc)[k * 3] = .int .i64 (Bs.gu l k).share := by
    rw [Bs.gu_at hk]
    simpa [uc] using h0
  show _ = (((l.flatMap uc).set (k * 3) (.int .i64 (Bs.gu l k).share)).set (k * 3 + 1) (.int .i64 x)).set (k * 3 + 2) (.int .i64 y)
  rw [← h1, List.set_getElem_self]
/-- what is used and what waits of one user is another number -/
theorem OR.set2 {w : World} {B : Nat} {A : Option Addr} {c : Nat} {l : List Bs.U} (h : OR w B A c l) {k : Nat} (hk : k < l.length) (x y : Int) :
    ∃ b, A = some ⟨b, 0, none⟩ ∧ B ≤ b ∧ b < w.heap.size ∧ w.cell? ⟨b, k * 3 + 1, none⟩ = some (.int .i64 (Bs.gu l k).used) ∧ w.cell? ⟨b, k * 3 + 2, none⟩ = some (.int .i64 (Bs.gu l k).waits) ∧ (∀ j, w.frozen? ⟨b, j, none⟩ = false) ∧
    (∀ v, (w.setCell ⟨b, k * 3 + 1, none⟩ v).cell? ⟨b, k * 3 + 2, none⟩ = some (.int .i64 (Bs.gu l k).waits)) ∧ (∀ v j, (w.setCell ⟨b, k * 3 + 1, none⟩ v).frozen? ⟨b, j, none⟩ = false) ∧
    OR ((w.setCell ⟨b, k * 3 + 1, none⟩ (.int .i64 x)).setCell ⟨b, k * 3 + 2, none⟩ (.int .i64 y)) B A c (l.set k ⟨(Bs.gu l k).share, x, y⟩) := by
  have hru := h.ru.at_ hk
  rcases h.2 with ⟨hv, hn⟩ | ⟨b, cap, cur, hv, hb, hg, hnc, hcm, hcs, ht⟩
  · omega
  · have hv2 := hv
    injection hv2 with hA hn hc
    subst hA
    obtain ⟨b', o', e', _, hlt, c0, c1, c2⟩ := hru
    cases e'
    rw [Nat.zero_add] at c1 c2
    have hB : Blk w b 46 cur := hg
    refine ⟨b, rfl, hb, hlt, c1, c2, fun j => Blk.frozen hB j, fun v => ?_, fun v j => Blk.frozen (Blk.set_ hB (k * 3 + 1) v) j, OR.len, .inr ⟨b, cap, _, by rw [List.length_set]; exact hv, hb, (Blk.set_ (Blk.set_ hB (k * 3 + 1) (.int .i64 x)) (k * 3 + 2) (.int .i64 y)), by rw [List.length_set]; exact hnc, hcm, by simp only [Array.size_setIfInBounds]; exact hcs, ?_⟩⟩
    · rw [World.cell?_setCell_other _ _ _ _ (fun e2 => by have e3 := congrArg Addr.off e2; simp at e3)]
      exact c2
    · rw [List.length_set, ← uc_set2 l k hk x y]
      simp only [Array.toList_setIfInBounds, List.take_set, ht]
/-- a list of users that is either from before or an own row -/
def LM (w0 w : World) (lo : Nat) (A : Option Addr) (c : Nat) (l : List Bs.U) : Prop := RU w lo w0.heap.size A l ∨ OR w w0.heap.size A c l
theorem LM.ru {w0 w : World} {lo : Nat} {A : Option Addr} {c : Nat} {l : List Bs.U} (h : LM w0 w lo A c l) (h0 : w0.heap.size ≤ w.heap.size) (hlo : lo ≤ w0.heap.size) : RU w lo w.heap.size A l := by
  rcases h with h | h
  · exact h.more (Nat.le_refl _) h0
  · exact h.ru.more hlo (Nat.le_refl _)
end Go.Proofs.Ytbmfhnijbdmjbaa
