/-
  WALKS: a list that is copied. No condition.
-/
import Derived.Test.YtihgakbopkaemaaK1
import Derived.Deep.AppendSrc
import Derived.Deep.AppendLies
namespace Go.Proofs.Ytihgakbopkaemaa
open Go.RowKit
theorem RI.empty {w : World} {lo hi : Nat} {l : List Int} (h : RI w lo hi none l) : l = [] := by
  cases l with
  | nil => rfl
  | cons x r =>
    obtain ⟨b, o, e, _⟩ := h 0 (by simp)
    cases e
set_option linter.unusedSimpArgs false in
theorem run_push_nil {w : World} {ty : TypeId} (A : Option Addr) (n c cc : Nat) (hnc : n ≤ c) (hA : (A = none ∧ c = 0) ∨ ∃ b o, A = some ⟨b, o, none⟩) :
    (Builtin.append_ #[24, 24] ty #[.slice A n c, .slice none 0 cc]).run Try.prog w = .ok (.slice A n c) w := by
  obtain ⟨i0, hi0, hz0, hz1, hz2⟩ := info_parts Try.info3
  have hx : Src Try.prog i0.size 24 (.slice none 0 cc) 0 [] w := Src.ofNil w Try.underlying24 cc
  rcases hA with ⟨rfl, rfl⟩ | ⟨b, o, rfl⟩
  · have : n = 0 := by omega
    subst this
    rcases hx.kind with ⟨e', hk⟩ | hk <;> simp [Builtin.append_, run_underlying Try.underlying24, run_underlying hk, sizeOf, typeInfo, hi0, hx.len, hx.cells]
  · have := run_append_room_src w 24 24 ty 3 i0 Try.underlying24 hi0 b o n c (.slice none 0 cc) 0 [] hx (by omega) (by intro j hj; simp at hj) (by intro j hj; simp at hj)
    simpa [World.setCells] using this
/-- 'out = append(out, list...)' -/
theorem push_ints {ops : Array Oper} {rest : List Oper} {o : Oper} {a : Act} {Q : Exit → Act → World → Prop} {w : World} (hgd : o.guard = none) (s x : Operand)
    (ho : o.op = .call { callee := .builtin .append, args := #[s, x], argTypes := #[24, 24] })
    (B : Nat) (A : Option Addr) (c : Nat) (l m : List Int) (hs : a.eval s = .slice A l.length c) (hown : OI w B A c l)
    (A' : Option Addr) (cc : Nat) (hx : a.eval x = .slice A' m.length cc) (lo hi : Nat) (hm : RI w lo hi A' m) (hlen : l.length + m.length ≤ 1000000000) (hB : B ≤ w.heap.size)
    (h : ∀ A' c' w', OI w' B A' c' (l ++ m) → Below B w w' → wpList Try.prog ops Q rest (a.put o.dst (.slice A' (l.length + m.length) c')) w') : wpList Try.prog ops Q (o :: rest) a w := by
  obtain ⟨i0, hi0, hz0, hz1, hz2⟩ := info_parts Try.info3
  cases A' with
  | none =>
    have := hm.empty
    subst this
    refine wpList_plain hgd fun K hK => ?_
    have hA : (A = none ∧ c = 0) ∨ ∃ b o, A = some ⟨b, o, none⟩ := by
      rcases hown.2 with ⟨hv, hn⟩ | ⟨b, cap, cur, hv, hb, hg, hnc, hcm, hcs, ht⟩
      · injection hv with hA hn hc
        exact .inl ⟨hA, hc⟩
      · injection hv with hA hn hc
        exact .inr ⟨b, 0, hA⟩
    have hr := run_push_nil (w := w) (ty := o.type) A l.length c cc hown.cap.1 hA
    unfold Oper.wp
    simp [execOp, ho, resolve, invoke, builtin, hs, hx, hr, Result.andThen]
    have h2 := h A c w (by rw [List.append_nil]; exact hown) (Below.refl _ _)
    simp only [List.length_nil, Nat.add_zero] at h2
    exact hK _ _ h2
  | some ad =>
    have hnews : ∀ j u, (m.map (Value.int .i64))[j]? = some u → w.cell? (ad.add j) = some u := by
      intro j u hj
      rw [List.getElem?_map] at hj
      obtain ⟨y, hy, rfl⟩ := Option.map_eq_some_iff.1 hj
      obtain ⟨hj1, hj2⟩ := List.getElem?_eq_some_iff.1 hy
      obtain ⟨b, o, e, _, _, hc⟩ := hm j hj1
      cases e
      rw [Addr.add_lit, hc, hj2]
    refine wpList_append_own w hgd s x 24 ho B 3 i0 (.int .i64 0) 1 8 Try.underlying24 hi0 hz0 hz1 hz2 rfl (by decide) _ _ _ hs hown ad m.length cc (m.map (Value.int .i64)) hx (by simp) hnews ?_ ?_ ?_ hB ?_
    · intro u hu
      obtain ⟨y, _, rfl⟩ := List.mem_map.1 hu
      rfl
    · unfold maxLen; omega
    · omega
    · intro v' w' hown' hg _
      have h1 : w'.ownsRow B 3 1 v' (l ++ m).length ((l ++ m).map (Value.int .i64)) := by
        rw [List.length_append, List.map_append]
        exact hown'
      obtain ⟨A', c', hv, ho'⟩ := OI.form h1
      rw [hv, List.length_append]
      refine h A' c' w' ho' ?_
      refine (Below.refl B w).grown hg hB ?_
      intro k hk
      exact (hown.lt k hk).1
theorem copyInts_ri (A : Option Addr) (c : Nat) (l : List Int) (lo hi : Nat) (w : World) (h : RI w lo hi A l) (hh : hi ≤ w.heap.size) (hl : l.length ≤ 1000000) :
    Calls Try.prog 100 #[.slice A l.length c] w (RetI w l) := by
  have hal := Below.alloc (Below.refl w.heap.size w) (Nat.le_refl _) (.cells #[] 3)
  have HR := Lib.hid (h.below hal hh)
  have HA := Lib.hid hal
  have ho := OI.new w w.heap.size (Nat.le_refl _)
  have HO := Lib.hid ho
  have hp1 : ([] : List Int).length + l.length ≤ 1000000000 := by simp only [List.length_nil]; omega
  clear h hal ho
  go_enter Try.func100, Try.ntmps100
  go_wp2_with (at_builtin; go_loud (refine push_ints rfl _ _ rfl w.heap.size (some ⟨w.heap.size, 0, none⟩) 0 [] l rfl HO.out A c rfl lo hi HR.out hp1 (by simp) ?_; intro A2 c2 w2 ho2 hb2; rw [List.nil_append] at ho2; have HB2 := Lib.hid (HA.out.trans hb2); clear hb2))
  go_wp2
  go_ret
  exact ⟨⟨A2, c2, by simp, ho2⟩, HB2.out⟩
end Go.Proofs.Ytihgakbopkaemaa
