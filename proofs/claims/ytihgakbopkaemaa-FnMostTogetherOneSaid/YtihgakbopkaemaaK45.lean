/-
  MERGED TEXTS: Cp Mem4 Mem6.
-/
import Derived.Test.YtihgakbopkaemaaK1
import Derived.Deep.AppendSrc
import Derived.Deep.AppendLies
import Derived.Maps.AppendAt
namespace Go.Proofs.Ytihgakbopkaemaa
open Go.RowKit
theorem RI.empty {w : World} {lo hi : Nat} {l : List Int} (h : RI w lo hi none l) : l = [] := by
  cases l with
  | nil => rfl
  | cons x r =>
    obtain ⟨b, o, e, _⟩ := h 0 (by simp)
    cases e
set_option linter.unusedSimpArgs false in
theorem run_push_nil {w : World} {ty : TypeId} (A : Option Addr) (n c cc : Nat) (hnc : n ≤ c) (hA : (A = none ∧ c = 0) ∨ ∃ b o, A = some ⟨b, o, none⟩) :
    (Builtin.append_ #[24, 24] ty #[.slice A n c, .slice none 0 cc]).run Try.prog w = .ok (.slice A n c) w := by
  obtain ⟨i0, hi0, hz0, hz1, hz2⟩ := info_parts Try.info3
  have hx : Src Try.prog i0.size 24 (.slice none 0 cc) 0 [] w := Src.ofNil w Try.underlying24 cc
  rcases hA with ⟨rfl, rfl⟩ | ⟨b, o, rfl⟩
  · have : n = 0 := by omega
    subst this
    rcases hx.kind with ⟨e', hk⟩ | hk <;> simp [Builtin.append_, run_underlying Try.underlying24, run_underlying hk, sizeOf, typeInfo, hi0, hx.len, hx.cells]
  · have := run_append_room_src w 24 24 ty 3 i0 Try.underlying24 hi0 b o n c (.slice none 0 cc) 0 [] hx (by omega) (by intro j hj; simp at hj) (by intro j hj; simp at hj)
    simpa [World.setCells] using this
/-- 'out = append(out, list...)' -/
theorem push_ints {ops : Array Oper} {rest : List Oper} {o : Oper} {a : Act} {Q : Exit → Act → World → Prop} {w : World} (hgd : o.guard = none) (s x : Operand)
    (ho : o.op = .call { callee := .builtin .append, args := #[s, x], argTypes := #[24, 24] })
    (B : Nat) (A : Option Addr) (c : Nat) (l m : List Int) (hs : a.eval s = .slice A l.length c) (hown : OI w B A c l)
    (A' : Option Addr) (cc : Nat) (hx : a.eval x = .slice A' m.length cc) (lo hi : Nat) (hm : RI w lo hi A' m) (hlen : l.length + m.length ≤ 1000000000) (hB : B ≤ w.heap.size)
    (h : ∀ A' c' w', OI w' B A' c' (l ++ m) → Below B w w' → wpList Try.prog ops Q rest (a.put o.dst (.slice A' (l.length + m.length) c')) w') : wpList Try.prog ops Q (o :: rest) a w := by
  obtain ⟨i0, hi0, hz0, hz1, hz2⟩ := info_parts Try.info3
  cases A' with
  | none =>
    have := hm.empty
    subst this
    refine wpList_plain hgd fun K hK => ?_
    have hA : (A = none ∧ c = 0) ∨ ∃ b o, A = some ⟨b, o, none⟩ := by
      rcases hown.2 with ⟨hv, hn⟩ | ⟨b, cap, cur, hv, hb, hg, hnc, hcm, hcs, ht⟩
      · injection hv with hA hn hc
        exact .inl ⟨hA, hc⟩
      · injection hv with hA hn hc
        exact .inr ⟨b, 0, hA⟩
    have hr := run_push_nil (w := w) (ty := o.type) A l.length c cc hown.cap.1 hA
    unfold Oper.wp
    simp [execOp, ho, resolve, invoke, builtin, hs, hx, hr, Result.andThen]
    have h2 := h A c w (by rw [List.append_nil]; exact hown) (Below.refl _ _)
    simp only [List.length_nil, Nat.add_zero] at h2
    exact hK _ _ h2
  | some ad =>
    have hnews : ∀ j u, (m.map (Value.int .i64))[j]? = some u → w.cell? (ad.add j) = some u := by
      intro j u hj
      rw [List.getElem?_map] at hj
      obtain ⟨y, hy, rfl⟩ := Option.map_eq_some_iff.1 hj
      obtain ⟨hj1, hj2⟩ := List.getElem?_eq_some_iff.1 hy
      obtain ⟨b, o, e, _, _, hc⟩ := hm j hj1
      cases e
      rw [Addr.add_lit, hc, hj2]
    refine wpList_append_own w hgd s x 24 ho B 3 i0 (.int .i64 0) 1 8 Try.underlying24 hi0 hz0 hz1 hz2 rfl (by decide) _ _ _ hs hown ad m.length cc (m.map (Value.int .i64)) hx (by simp) hnews ?_ ?_ ?_ hB ?_
    · intro u hu
      obtain ⟨y, _, rfl⟩ := List.mem_map.1 hu
      rfl
    · unfold maxLen; omega
    · omega
    · intro v' w' hown' hg _
      have h1 : w'.ownsRow B 3 1 v' (l ++ m).length ((l ++ m).map (Value.int .i64)) := by
        rw [List.length_append, List.map_append]
        exact hown'
      obtain ⟨A', c', hv, ho'⟩ := OI.form h1
      rw [hv, List.length_append]
      refine h A' c' w' ho' ?_
      refine (Below.refl B w).grown hg hB ?_
      intro k hk
      exact (hown.lt k hk).1
theorem copyInts_ri (A : Option Addr) (c : Nat) (l : List Int) (lo hi : Nat) (w : World) (h : RI w lo hi A l) (hh : hi ≤ w.heap.size) (hl : l.length ≤ 1000000) :
    Calls Try.prog 100 #[.slice A l.length c] w (RetI w l) := by
  have hal := Below.alloc (Below.refl w.heap.size w) (Nat.le_refl _) (.cells #[] 3)
  have HR := Lib.hid (h.below hal hh)
  have HA := Lib.hid hal
  have ho := OI.new w w.heap.size (Nat.le_refl _)
  have HO := Lib.hid ho
  have hp1 : ([] : List Int).length + l.length ≤ 1000000000 := by simp only [List.length_nil]; omega
  clear h hal ho
  go_enter Try.func100, Try.ntmps100
  go_wp2_with (at_builtin; go_loud (refine push_ints rfl _ _ rfl w.heap.size (some ⟨w.heap.size, 0, none⟩) 0 [] l rfl HO.out A c rfl lo hi HR.out hp1 (by simp) ?_; intro A2 c2 w2 ho2 hb2; rw [List.nil_append] at ho2; have HB2 := Lib.hid (HA.out.trans hb2); clear hb2))
  go_wp2
  go_ret
  exact ⟨⟨A2, c2, by simp, ho2⟩, HB2.out⟩
end Go.Proofs.Ytihgakbopkaemaa
namespace Go.Proofs.Ytihgakbopkaemaa
open Go.RowKit
/-- two slices whose blocks differ -/
def Apart (A A' : Option Addr) : Prop := ∀ a a', A = some a → A' = some a' → a.block ≠ a'.block
theorem Apart.symm {A A' : Option Addr} (h : Apart A A') : Apart A' A := fun a a' h1 h2 e => h a' a h2 h1 e.symm
theorem OI.blk_lt {w : World} {B : Nat} {A : Option Addr} {c : Nat} {l : List Int} (h : OI w B A c l) {a : Addr} (ha : A = some a) : a.block < w.heap.size := by
  subst ha
  rcases h.2 with ⟨hv, hn⟩ | ⟨b, cap, cur, hv, hb, hg, _⟩
  · cases hv
  · injection hv with hA _ _
    injection hA with hA
    rw [hA]
    exact (Array.getElem?_eq_some_iff.1 hg).1
theorem Apart.own {A A' : Option Addr} (h : Apart A A') (n n' c c' : Nat) : (Value.slice A n c).ownBlock = none ∨ (Value.slice A n c).ownBlock ≠ (Value.slice A' n' c').ownBlock := by
  cases A with
  | none => exact .inl rfl
  | some a =>
    refine .inr ?_
    cases A' with
    | none => intro e; cases e
    | some a' =>
      intro e
      exact h a a' rfl rfl (Option.some.inj e)
/-- 'out = append(out, q)', and where the row lies then -/
theorem push_at {ops : Array Oper} {rest : List Oper} {o : Oper} {a : Act} {Q : Exit → Act → World → Prop} {w : World} (hgd : o.guard = none) (s x : Operand)
    (ho : o.op = .call { callee := .builtin .append, args := #[s, x], argTypes := #[24, 24] })
    (B : Nat) (A : Option Addr) (c : Nat) (l : List Int) (q : Int) (hs : a.eval s = .slice A l.length c) (hown : OI w B A c l)
    (g cc : Nat) (hx : a.eval x = .slice (some ⟨g, 0, none⟩) 1 cc) (hc : w.cell? ⟨g, 0, none⟩ = some (.int .i64 q)) (hlen : l.length ≤ 1000000000) (hB : B ≤ w.heap.size)
    (h : ∀ A' c' w', OI w' B A' c' (l ++ [q]) → Below B w w' → (∀ B2 A2 c2 l2, OI w B2 A2 c2 l2 → Apart A2 A → OI w' B2 A2 c2 l2 ∧ Apart A2 A') → w.heap.size ≤ w'.heap.size → wpList Try.prog ops Q rest (a.put o.dst (.slice A' (l.length + 1) c')) w') : wpList Try.prog ops Q (o :: rest) a w := by
  obtain ⟨i0, hi0, hz0, hz1, hz2⟩ := info_parts Try.info3
  refine wpList_append_own_at (w := w) hgd s x 24 ho B 3 i0 (.int .i64 0) 1 8 Try.underlying24 hi0 hz0 hz1 hz2 rfl (by decide) _ _ _ hs hown ⟨g, 0, none⟩ 1 cc [.int .i64 q] hx rfl ?_ ?_ ?_ ?_ hB ?_
  · intro j u hj
    cases j with
    | zero =>
      simp only [List.getElem?_cons_zero, Option.some.injEq] at hj
      subst hj
      rw [Addr.add_lit]
      exact hc
    | succ j => simp at hj
  · intro u hu
    simp only [List.mem_singleton] at hu
    subst hu
    rfl
  · unfold maxLen; omega
  · omega
  · intro v' w' hown' hg _ hwh
    have h1 : w'.ownsRow B 3 1 v' (l ++ [q]).length ((l ++ [q]).map (Value.int .i64)) := by
      rw [List.length_append, List.map_append]
      exact hown'
    obtain ⟨A', c', hv, ho'⟩ := OI.form h1
    rw [hv, List.length_append]
    have hbl : Below B w w' := by
      refine (Below.refl B w).grown hg hB ?_
      intro k hk
      exact (hown.lt k hk).1
    refine h A' c' w' ho' hbl ?_ hg.size
    intro B2 A2 c2 l2 h2 hap
    refine ⟨h2.kept hg (hap.own _ _ _ _), ?_⟩
    intro a2 a' e2 e' e
    rw [hv, e'] at hwh
    rcases hwh with hwh | hwh
    · cases A with
      | none => cases hwh
      | some aa =>
        have : a'.block = aa.block := Option.some.inj hwh
        exact hap a2 aa e2 rfl (e.trans this)
    · have : a'.block = w.heap.size := Option.some.inj hwh
      have := h2.blk_lt e2
      omega
end Go.Proofs.Ytihgakbopkaemaa
namespace Go.Proofs.Ytihgakbopkaemaa
open Go.RowKit
theorem eight {i : Nat} (h : i < 8) : i = 0 ∨ i = 1 ∨ i = 2 ∨ i = 3 ∨ i = 4 ∨ i = 5 ∨ i = 6 ∨ i = 7 := by omega
/-- only block b has changed -/
structure OnlyB (b : Nat) (w w' : World) : Prop where
  os : w'.os = w.os
  tape : w'.tape = w.tape
  output : w'.output = w.output
  size : w'.heap.size = w.heap.size
  far : ∀ k, k ≠ b → w'.heap[k]? = w.heap[k]?
theorem OnlyB.below {b B : Nat} {w w' : World} (h : OnlyB b w w') (hB : B ≤ b) : Below B w w' := ⟨h.os, h.tape, h.output, Nat.le_of_eq h.size.symm, fun k hk => h.far k (by omega)⟩
theorem OnlyB.blk {b g : Nat} {t : TypeId} {cs : Array Value} {w w' : World} (h : OnlyB b w w') (hb : Blk w g t cs) (hne : g ≠ b) : Blk w' g t cs := (h.far g hne).trans hb
theorem OnlyB.cell {b : Nat} {w w' : World} (h : OnlyB b w w') {p : Addr} (hne : p.block ≠ b) : w'.cell? p = w.cell? p := World.cell?_of_block (w := w) (h.far p.block hne)
theorem OnlyB.ri {b lo hi : Nat} {w w' : World} {A : Option Addr} {l : List Int} (h : OnlyB b w w') (hr : RI w lo hi A l) (hne : hi ≤ b ∨ b < lo) : RI w' lo hi A l := hr.keep fun p h1 h2 => h.cell (by omega)
theorem OnlyB.oi {b B : Nat} {w w' : World} {A : Option Addr} {c : Nat} {l : List Int} (h : OnlyB b w w') (ho : OI w B A c l) (hne : b < B) : OI w' B A c l := by
  refine ⟨ho.1, ?_⟩
  rcases ho.2 with hn | ⟨g, cap, cur, hv, h1, hg, rest⟩
  · exact .inl hn
  · exact .inr ⟨g, cap, cur, hv, h1, by rw [h.far g (by omega)]; exact hg, rest⟩
end Go.Proofs.Ytihgakbopkaemaa
