/-
  WORDS FOR MEMORY: a row of slices of the call's own; lists that lie behind it. No condition.
-/
import Derived.Test.YtoaakidapgbhhaaCp
namespace Go.Proofs.Ytoaakidapgbhhaa
open Go.RowKit
theorem Try.infoS : (Try.prog.info? 25).map (fun i => (i.zero, i.size, i.bytes)) = some (some (.slice none 0 0), 1, 24) := by kernel_rfl
/-- a row of slices of the call's own -/
def OS (w : World) (B : Nat) (A : Option Addr) (c : Nat) (vs : List Value) : Prop := w.ownsRow B 25 1 (.slice A vs.length c) vs.length vs
theorem OS.new (w : World) (B : Nat) (hB : B ≤ w.heap.size) : OS (w.alloc (.cells #[] 25)) B (some ⟨w.heap.size, 0, none⟩) 0 [] :=
  World.ownsRow_made w #[] 0 hB (Nat.zero_le _) (by simp)
theorem OS.one (w : World) (B : Nat) (hB : B ≤ w.heap.size) (v : Value) : OS (w.alloc (.cells #[v] 25)) B (some ⟨w.heap.size, 0, none⟩) 1 [v] :=
  ⟨by simp, .inr ⟨w.heap.size, 1, #[v], rfl, hB, heap_alloc_new w _, Nat.le_refl _, by unfold maxLen; omega, by simp, by simp⟩⟩
theorem OS.alloc {w : World} {B : Nat} {A : Option Addr} {c : Nat} {vs : List Value} (h : OS w B A c vs) (o : Obj) : OS (w.alloc o) B A c vs := World.ownsRow.alloc h o
theorem OS.below {w w' : World} {B B' : Nat} {A : Option Addr} {c : Nat} {vs : List Value} (h : OS w B A c vs) (hb : Below B' w w') (hB : w.heap.size ≤ B') : OS w' B A c vs := by
  refine ⟨h.1, ?_⟩
  rcases h.2 with hn | ⟨g, cap, cur, hv, h1, hg, rest⟩
  · exact .inl hn
  · exact .inr ⟨g, cap, cur, hv, h1, by rw [hb.block g (by have := (Array.getElem?_eq_some_iff.1 hg).1; omega)]; exact hg, rest⟩
theorem OS.base {w : World} {B B' : Nat} {A : Option Addr} {c : Nat} {vs : List Value} (h : OS w B A c vs) (hB : B' ≤ B) : OS w B' A c vs := by
  refine ⟨h.1, ?_⟩
  rcases h.2 with hn | ⟨g, cap, cur, hv, h1, rest⟩
  · exact .inl hn
  · exact .inr ⟨g, cap, cur, hv, Nat.le_trans hB h1, rest⟩
theorem OS.form {w : World} {B : Nat} {v : Value} {vs : List Value} (h : w.ownsRow B 25 1 v vs.length vs) : ∃ A c, v = .slice A vs.length c ∧ OS w B A c vs := by
  rcases h.2 with ⟨hv, hn⟩ | ⟨b, cap, cur, hv, hb, hg, hnc, hcm, hcs, ht⟩
  · refine ⟨none, 0, by rw [hv, hn], ?_⟩
    unfold OS
    rw [hn] at h ⊢
    rw [hv] at h
    exact h
  · refine ⟨_, cap, hv, ?_⟩
    unfold OS
    rw [hv] at h
    exact h
theorem OS.cap {w : World} {B : Nat} {A : Option Addr} {c : Nat} {vs : List Value} (h : OS w B A c vs) : vs.length ≤ c ∧ c ≤ maxLen := by
  rcases h.2 with ⟨hv, hn⟩ | ⟨b, cap, cur, hv, hb, hg, hnc, hcm, hcs, ht⟩
  · injection hv with hA hn hc
    subst hc
    exact ⟨by omega, Nat.zero_le _⟩
  · injection hv with hA hn hc
    subst hc
    exact ⟨hnc, hcm⟩
theorem OS.at_ {w : World} {B : Nat} {A : Option Addr} {c : Nat} {vs : List Value} (h : OS w B A c vs) {k : Nat} (hk : k < vs.length) : ∃ b, A = some ⟨b, 0, none⟩ ∧ B ≤ b ∧ b < w.heap.size ∧ w.cell? ⟨b, k, none⟩ = some vs[k] := by
  rcases h.2 with ⟨hv, hn⟩ | ⟨b, cap, cur, hv, hb, hg, hnc, hcm, hcs, ht⟩
  · omega
  · injection hv with hA hn hc
    subst hA
    have h1 := h.cells (g := b) (by simp [Value.ownBlock]) k vs[k] (by simp [hk])
    rw [Addr.add_lit, Nat.zero_add] at h1
    exact ⟨b, rfl, hb, (Array.getElem?_eq_some_iff.1 hg).1, h1⟩
/-- a row of slices and a row of integers are two rows -/
theorem OI.ne_os {w : World} {B B' : Nat} {A A' : Option Addr} {c c' : Nat} {l : List Int} {vs : List Value} (h : OI w B A c l) (k : OS w B' A' c' vs) : (Value.slice A l.length c).ownBlock = none ∨ (Value.slice A l.length c).ownBlock ≠ (Value.slice A' vs.length c').ownBlock := by
  rcases h.2 with ⟨hv, hn⟩ | ⟨b, cap, cur, hv, hb, hg, _⟩
  · left; rw [hv]; rfl
  · rcases k.2 with ⟨kv, kn⟩ | ⟨b', cap', cur', kv, kb, kg, _⟩
    · right; rw [hv, kv]; simp [Value.ownBlock]
    · right
      rw [hv, kv]
      intro e
      have e2 : b = b' := by simpa [Value.ownBlock] using e
      subst e2
      rw [hg] at kg
      injection kg with kg
      injection kg with _ ht _
      exact absurd ht (by decide)
set_option linter.unusedSimpArgs false in
theorem run_push_nilS {w : World} {ty : TypeId} (A : Option Addr) (n c cc : Nat) (hnc : n ≤ c) (hA : (A = none ∧ c = 0) ∨ ∃ b o, A = some ⟨b, o, none⟩) :
    (Builtin.append_ #[31, 31] ty #[.slice A n c, .slice none 0 cc]).run Try.prog w = .ok (.slice A n c) w := by
  obtain ⟨i0, hi0, hz0, hz1, hz2⟩ := info_parts Try.infoS
  have hx : Src Try.prog i0.size 31 (.slice none 0 cc) 0 [] w := Src.ofNil w Try.underlying31 cc
  rcases hA with ⟨rfl, rfl⟩ | ⟨b, o, rfl⟩
  · have : n = 0 := by omega
    subst this
    rcases hx.kind with ⟨e', hk⟩ | hk <;> simp [Builtin.append_, run_underlying Try.underlying31, run_underlying hk, sizeOf, typeInfo, hi0, hx.len, hx.cells]
  · have := run_append_room_src w 31 31 ty 25 i0 Try.underlying31 hi0 b o n c (.slice none 0 cc) 0 [] hx (by omega) (by intro j hj; simp at hj) (by intro j hj; simp at hj)
    simpa [World.setCells] using this
/-- 'out = append(out, list...)' of slices -/
theorem push_vs {ops : Array Oper} {rest : List Oper} {o : Oper} {a : Act} {Q : Exit → Act → World → Prop} {w : World} (hgd : o.guard = none) (s x : Operand)
    (ho : o.op = .call { callee := .builtin .append, args := #[s, x], argTypes := #[31, 31] })
    (B : Nat) (A : Option Addr) (c : Nat) (vs us : List Value) (hs : a.eval s = .slice A vs.length c) (hown : OS w B A c vs)
    (A' : Option Addr) (cc B2 : Nat) (hx : a.eval x = .slice A' us.length cc) (hm : OS w B2 A' cc us) (hone : ∀ u ∈ us, u.oneCell' = true) (hlen : vs.length + us.length ≤ 1000000000) (hB : B ≤ w.heap.size)
    (h : ∀ A' c' w', OS w' B A' c' (vs ++ us) → Below B w w' → w.grownBy w' (Value.slice A vs.length c).ownBlock → w.heap.size ≤ w'.heap.size → wpList Try.prog ops Q rest (a.put o.dst (.slice A' (vs.length + us.length) c')) w') : wpList Try.prog ops Q (o :: rest) a w := by
  obtain ⟨i0, hi0, hz0, hz1, hz2⟩ := info_parts Try.infoS
  rcases hm.2 with ⟨mv, mn⟩ | ⟨b, cap, cur, mv, mb, mg, mrest⟩
  · have hus : us = [] := List.eq_nil_of_length_eq_zero mn
    subst hus
    injection mv with m1 m2 m3
    subst m1
    refine wpList_plain hgd fun K hK => ?_
    have hA : (A = none ∧ c = 0) ∨ ∃ b o, A = some ⟨b, o, none⟩ := by
      rcases hown.2 with ⟨hv, hn⟩ | ⟨b, cap, cur, hv, hb, hg, hnc, hcm, hcs, ht⟩
      · injection hv with hA hn hc
        exact .inl ⟨hA, hc⟩
      · injection hv with hA hn hc
        exact .inr ⟨b, 0, hA⟩
    have hr := run_push_nilS (w := w) (ty := o.type) A vs.length c cc hown.cap.1 hA
    unfold Oper.wp
    simp [execOp, ho, resolve, invoke, builtin, hs, hx, hr, Result.andThen]
    have h2 := h A c w (by rw [List.append_nil]; exact hown) (Below.refl _ _) (World.grownBy.refl _ _) (Nat.le_refl _)
    simp only [List.length_nil, Nat.add_zero] at h2
    exact hK _ _ h2
  · injection mv with m1 m2 m3
    subst m1
    have hnews : ∀ j u, us[j]? = some u → w.cell? ((⟨b, 0, none⟩ : Addr).add j) = some u := by
      intro j u hj
      have := hm.cells (g := b) (by simp [Value.ownBlock]) j u hj
      exact this
    refine wpList_append_own w hgd s x 31 ho B 25 i0 (.slice none 0 0) 1 24 Try.underlying31 hi0 hz0 hz1 hz2 rfl (by decide) _ _ _ hs hown ⟨b, 0, none⟩ us.length cc us hx (by simp) hnews hone ?_ ?_ hB ?_
    · unfold maxLen; omega
    · omega
    · intro v' w' hown' hg hsz
      have h1 : w'.ownsRow B 25 1 v' (vs ++ us).length (vs ++ us) := by
        rw [List.length_append]
        exact hown'
      obtain ⟨A', c', hv, ho'⟩ := OS.form h1
      rw [hv, List.length_append]
      have hbl : Below B w w' := (Below.refl B w).grown hg hB (fun k hk => (hown.lt k hk).1)
      exact h A' c' w' ho' hbl hg hbl.size
/-- the lists that lie behind a row of slices -/
def SLs (w : World) (lo : Nat) (vs : List Value) (Ls : List (List Int)) : Prop := vs.length = Ls.length ∧ ∀ k (hk : k < Ls.length), ∃ N c, vs[k]? = some (.slice N Ls[k].length c) ∧ OI w lo N c Ls[k]
theorem SLs.nil (w : World) (lo : Nat) : SLs w lo [] [] := ⟨rfl, fun k hk => by simp at hk⟩
theorem SLs.one {w : World} {lo : Nat} {N : Option Addr} {c : Nat} {l : List Int} (h : OI w lo N c l) : SLs w lo [.slice N l.length c] [l] := ⟨rfl, fun k hk => by
  have : k = 0 := by simp at hk; omega
  subst this
  exact ⟨N, c, rfl, h⟩⟩
theorem SLs.below {w w' : World} {lo B : Nat} {vs : List Value} {Ls : List (List Int)} (h : SLs w lo vs Ls) (hb : Below B w w') (hB : w.heap.size ≤ B) : SLs w' lo vs Ls := ⟨h.1, fun k hk => by
  obtain ⟨N, c, e, ho⟩ := h.2 k hk
  exact ⟨N, c, e, ho.below hb hB⟩⟩
theorem SLs.alloc {w : World} {lo : Nat} {vs : List Value} {Ls : List (List Int)} (h : SLs w lo vs Ls) (o : Obj) : SLs (w.alloc o) lo vs Ls := ⟨h.1, fun k hk => by
  obtain ⟨N, c, e, ho⟩ := h.2 k hk
  exact ⟨N, c, e, ho.alloc o⟩⟩
theorem SLs.base {w : World} {lo lo' : Nat} {vs : List Value} {Ls : List (List Int)} (h : SLs w lo vs Ls) (hl : lo' ≤ lo) : SLs w lo' vs Ls := ⟨h.1, fun k hk => by
  obtain ⟨N, c, e, ho⟩ := h.2 k hk
  exact ⟨N, c, e, ho.base hl⟩⟩
theorem SLs.kept {w w' : World} {lo B : Nat} {vs us : List Value} {Ls : List (List Int)} {A : Option Addr} {c : Nat} (h : SLs w lo us Ls) (hos : OS w B A c vs) (hg : w.grownBy w' (Value.slice A vs.length c).ownBlock) : SLs w' lo us Ls := ⟨h.1, fun k hk => by
  obtain ⟨N, c', e, ho⟩ := h.2 k hk
  exact ⟨N, c', e, ho.kept hg (ho.ne_os hos)⟩⟩
theorem SLs.append {w : World} {lo : Nat} {vs us : List Value} {Ls Ms : List (List Int)} (h : SLs w lo vs Ls) (k : SLs w lo us Ms) : SLs w lo (vs ++ us) (Ls ++ Ms) := by
  refine ⟨by rw [List.length_append, List.length_append, h.1, k.1], ?_⟩
  intro j hj
  by_cases hl : j < Ls.length
  · obtain ⟨N, c, e, ho⟩ := h.2 j hl
    rw [List.getElem_append_left hl, List.getElem?_append_left (by rw [h.1]; exact hl)]
    exact ⟨N, c, e, ho⟩
  · rw [List.length_append] at hj
    obtain ⟨N, c, e, ho⟩ := k.2 (j - Ls.length) (by omega)
    rw [List.getElem_append_right (by omega), List.getElem?_append_right (by rw [h.1]; omega), h.1]
    exact ⟨N, c, e, ho⟩
theorem SLs.oneCell {w : World} {lo : Nat} {vs : List Value} {Ls : List (List Int)} (h : SLs w lo vs Ls) : ∀ u ∈ vs, u.oneCell' = true := by
  intro u hu
  obtain ⟨k, hk, rfl⟩ := List.mem_iff_getElem.1 hu
  obtain ⟨N, c, e, _⟩ := h.2 k (by rw [← h.1]; exact hk)
  rw [List.getElem?_eq_getElem hk] at e
  injection e with e
  rw [e]
  rfl
end Go.Proofs.Ytoaakidapgbhhaa
