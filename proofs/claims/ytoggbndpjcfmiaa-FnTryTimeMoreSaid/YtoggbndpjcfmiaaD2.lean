/-
  WALKS: the draws: one of a list, a copy, a spoilt list.
-/
import Derived.Test.YtoggbndpjcfmiaaD1
import Derived.Test.YtoggbndpjcfmiaaK1
namespace Go.Proofs.Ytoggbndpjcfmiaa
open Go.RowKit
theorem tI : Typ 3 1 := .inl ⟨rfl, rfl⟩
theorem tT : Typ 42 4 := .inr ⟨rfl, rfl⟩
/-- an element of a slice of integers -/
theorem SL.cell {w : World} {lo rb P n k : Nat} {A : Option Addr} {c : Nat} (h : SL w lo 3 1 (.slice A n c) n) (hs : St lo rb P w) (hk : k < n) :
    ∃ b o x, A = some ⟨b, o, none⟩ ∧ w.cell? ⟨b, o + k, none⟩ = some (.int .i64 x) ∧ lo ≤ b ∧ w.frozen? ⟨b, o + k, none⟩ = false ∧ Row w lo b 3 (o + k + 1) := by
  obtain ⟨A', c', e, h1, h2, h3⟩ := h
  cases e
  rcases h3 with ⟨_, h3⟩ | ⟨b, o, rfl, hr⟩
  · omega
  · obtain ⟨v, hv, ht, hf⟩ := hr.at_ hs.wt tI (i := o * 1 + k) (by omega)
    obtain ⟨x, rfl⟩ := ht.isI
    exact ⟨b, o * 1, x, rfl, hv, hr.1, hf, hr.less (by omega)⟩
theorem SL.form {w : World} {lo n : Nat} {t : TypeId} {s : Nat} {v : Value} (h : SL w lo t s v n) : ∃ A c, v = .slice A n c ∧ n ≤ c ∧ c ≤ maxLen ∧ SL w lo t s (.slice A n c) n := by
  obtain ⟨A, c, rfl, h1, h2, h3⟩ := h
  exact ⟨A, c, rfl, h1, h2, A, c, rfl, h1, h2, h3⟩
def OneR (lo rb P : Nat) (w : World) (e : Ending) (w' : World) : Prop := (∃ x, e = .returned (.int .i64 x)) ∧ St lo rb (P + 1) w' ∧ Fwd lo w w' ∧ KT w w'
theorem one_any (v : Value) (n lo rb P : Nat) (w : World) (hs : St lo rb P w) (hP : P ≤ 1000000) (hv : SL w lo 3 1 v n) (h0 : 0 < n) (hn : n ≤ 1000000000) :
    Calls Try.prog 36 #[.pointer (some ⟨rb, 0, none⟩), v] w (OneR lo rb P w) := by
  obtain ⟨A, c, rfl, hnc, hcm, hv⟩ := hv.form
  have C1 := Lib.hid (pick_any n lo rb P w hs hP hn)
  have HV := Lib.hid hv
  clear hv hs
  go_enter Try.func36, Try.ntmps36
  go_wp2_with fail
  refine (C1.out).mono ?_
  rintro e w1 ⟨⟨k, rfl, hk, _⟩, hs1, hf1, hkt⟩
  obtain ⟨b, o, x, rfl, hc, _, _, _⟩ := (HV.out.ext tI hf1.2).cell hs1 (hk h0)
  have hkn := hk h0
  have HS := Lib.hid hs1
  have HF := Lib.hid hf1
  have HK := Lib.hid hkt
  clear hk hs1 hf1 hkt
  go_wp2_with fail
  go_ret
  exact ⟨⟨x, rfl⟩, HS.out, HF.out, HK.out⟩
/-- a slice that is handed back -/
def SlR (lo rb P n : Nat) (t : TypeId) (s : Nat) (w : World) (e : Ending) (w' : World) : Prop := (∃ v, e = .returned v ∧ SL w' lo t s v n) ∧ St lo rb P w' ∧ Fwd lo w w'
theorem SL.nilB {w : World} {lo : Nat} {t : TypeId} {s : Nat} : SL w lo t s (.slice none 0 0) 0 := ⟨none, 0, rfl, Nat.le_refl _, Nat.zero_le _, .inl ⟨rfl, rfl⟩⟩
theorem SL.fresh {w : World} {lo : Nat} {t : TypeId} {s : Nat} (hlo : lo ≤ w.heap.size) (cs : Array Value) {n : Nat} (hn : n * s = cs.size) (h63 : n ≤ maxLen) : SL (w.alloc (.cells cs t)) lo t s (.slice (some ⟨w.heap.size, 0, none⟩) n n) n :=
  ⟨_, n, rfl, Nat.le_refl _, h63, .inr ⟨w.heap.size, 0, by simp, hlo, cs, heap_alloc_new w _, by rw [Nat.zero_add, hn]; exact Nat.le_refl _⟩⟩
theorem St.allocI {w : World} {lo rb P : Nat} (hs : St lo rb P w) (cs : Array Value) (h : ∀ v ∈ cs.toList, IsI v) : St lo rb P (w.alloc (.cells cs 3)) ∧ Fwd lo w (w.alloc (.cells cs 3)) :=
  hs.alloc _ cs (by decide) fun s ht i v hv => TY.int _ _ _ _ (h v (by rw [Array.mem_toList_iff]; exact Array.mem_of_getElem? hv))
/-- what lies in the cells of a slice of integers -/
theorem SL.cells {w : World} {lo rb P n : Nat} {v : Value} (h : SL w lo 3 1 v n) (hs : St lo rb P w) : ∃ news : List Value, Src Try.prog 1 36 v n news w ∧ ∀ u ∈ news, IsI u := by
  obtain ⟨A, c, rfl, h1, h2, h3⟩ := h
  rcases h3 with ⟨rfl, rfl⟩ | ⟨b, o, rfl, hlo, cs, hc, hm⟩
  · have : n = 0 := by omega
    subst this
    exact ⟨[], Src.ofNil w Try.underlying36 0, fun u hu => by cases hu⟩
  · have hty : ∀ u ∈ (cs.toList.drop (o * 1)).take n, IsI u := by
      intro u hu
      obtain ⟨i, hi, e⟩ := List.mem_iff_getElem.1 (List.mem_of_mem_drop (List.mem_of_mem_take hu))
      exact (hs.wt b cs _ 1 tI hlo hc i u (by simp at hi; simp [hi]; simpa using e)).isI
    refine ⟨(cs.toList.drop (o * 1)).take n, Src.ofSlice w Try.underlying36 ⟨b, o * 1, none⟩ n c _ (by simp; omega) ?_ ?_, hty⟩
    · intro j u hj
      rw [List.getElem?_take] at hj
      split at hj
      · rw [List.getElem?_drop] at hj
        rw [Addr.add_lit, cell_of_row w b _ cs _ (0, 0) hc]
        simpa using hj
      · cases hj
    · intro u hu
      obtain ⟨x, rfl⟩ := hty u hu
      rfl
theorem run_push_ints {lo rb P : Nat} {w : World} {ty : TypeId} {v x : Value} {n m : Nat} (hs : St lo rb P w) (hv : SL w lo 3 1 v n) (hx : SL w lo 3 1 x m) (hm : n + m ≤ 1000000000) :
    ∃ v' w', (Builtin.append_ #[36, 36] ty #[v, x]).run Try.prog w = .ok v' w' ∧ SL w' lo 3 1 v' (n + m) ∧ St lo rb P w' ∧ Fwd lo w w' ∧ Keeps 3 w w' := by
  obtain ⟨i0, hi0, hz0, hz1, hz2⟩ := info_parts Try.info3
  obtain ⟨news, hsrc, hty⟩ := hx.cells hs
  exact run_push tI Try.underlying36 hi0 hz0 hz1 hz2 (by omega) rfl (fun j _ => TY.int _ _ _ _ (by cases j with
      | zero => exact ⟨0, rfl⟩
      | succ j => omega)) hs hv hsrc (fun j u hj => TY.int _ _ _ _ (hty u (List.mem_of_getElem? hj))) hm
/-- 'append(s, xs...)' of integers, in a walk -/
theorem push_ti {ops : Array Oper} {rest : List Oper} {o : Oper} {a : Act} {Q : Exit → Act → World → Prop} {w : World} (hgd : o.guard = none) (s x : Operand)
    (ho : o.op = .call { callee := .builtin .append, args := #[s, x], argTypes := #[36, 36] }) {lo rb P n m : Nat} (hs : St lo rb P w) (hv : SL w lo 3 1 (a.eval s) n) (hx : SL w lo 3 1 (a.eval x) m) (hm : n + m ≤ 1000000000)
    (h : ∀ A c w', n + m ≤ c → c ≤ maxLen → SL w' lo 3 1 (.slice A (n + m) c) (n + m) → St lo rb P w' → Fwd lo w w' → Keeps 3 w w' → wpList Try.prog ops Q rest (a.put o.dst (.slice A (n + m) c)) w') : wpList Try.prog ops Q (o :: rest) a w := by
  refine wpList_plain hgd fun K hK => ?_
  obtain ⟨v', w', hr, h1, h2, h3, h4⟩ := run_push_ints (ty := o.type) hs hv hx hm
  obtain ⟨A, c, rfl, hnc, hcm, h1⟩ := h1.form
  unfold Oper.wp
  simp [execOp, ho, resolve, invoke, builtin, hr, Result.andThen]
  exact hK _ _ (h A c w' hnc hcm h1 h2 h3 h4)
theorem copyInts_any (v : Value) (n lo rb P : Nat) (w : World) (hs : St lo rb P w) (hv : SL w lo 3 1 v n) (hn : n ≤ 1000000000) :
    Calls Try.prog 65 #[v] w (fun e w' => SlR lo rb P n 3 1 w e w' ∧ KT w w') := by
  obtain ⟨A, c, rfl, hnc, hcm, hv⟩ := hv.form
  obtain ⟨s1, f1⟩ := hs.allocI #[] (by simp)
  have v1 := hv.ext tI f1.2
  have v0 : SL (w.alloc (.cells #[] 3)) lo 3 1 (.slice (some ⟨w.heap.size, 0, none⟩) 0 0) 0 := SL.fresh hs.le #[] (by simp) (Nat.zero_le _)
  have HH := Lib.hid (And.intro s1 (And.intro f1 (And.intro v1 v0)))
  clear hs hv s1 f1 v1 v0
  go_enter Try.func65, Try.ntmps65
  go_wp2_with (at_builtin; refine push_ti rfl _ _ rfl HH.out.1 HH.out.2.2.2 HH.out.2.2.1 (by omega) ?_; intro A2 c2 w2 hnc2 hcm2 hv2 hs2 hf2 hk2)
  have HK := Lib.hid ((KT.alloc w (.cells #[] 3)).trans (hk2.kt (by decide)))
  clear hk2
  rw [Nat.zero_add] at *
  go_wp2
  go_ret
  exact ⟨⟨⟨_, rfl, hv2⟩, hs2, HH.out.2.1.trans hf2⟩, HK.out⟩
end Go.Proofs.Ytoggbndpjcfmiaa
