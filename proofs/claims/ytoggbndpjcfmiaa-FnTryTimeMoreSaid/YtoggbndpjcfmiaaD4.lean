/-
  TYPED MEMORY: rows of tasks.
-/
import Derived.Test.YtoggbndpjcfmiaaD2
namespace Go.Proofs.Ytoggbndpjcfmiaa
open Go.RowKit
theorem Try.infoTaskD : (Try.prog.info? 42).map (fun i => (i.zero, i.size, i.bytes)) = some (some (.agg #[.int .i64 0, .slice none 0 0, .int .i64 0, .int .i64 0]), 4, 48) := by kernel_rfl
/-- the four cells of a task from place o on -/
structure TC (w : World) (lo P b o : Nat) (t : Int) (N : Option Addr) (m c : Nat) (p u : Int) : Prop where
  c0 : w.cell? ⟨b, o, none⟩ = some (.int .i64 t)
  c1 : w.cell? ⟨b, o + 1, none⟩ = some (.slice N m c)
  c2 : w.cell? ⟨b, o + 2, none⟩ = some (.int .i64 p)
  c3 : w.cell? ⟨b, o + 3, none⟩ = some (.int .i64 u)
  f0 : w.frozen? ⟨b, o, none⟩ = false
  f1 : w.frozen? ⟨b, o + 1, none⟩ = false
  f2 : w.frozen? ⟨b, o + 2, none⟩ = false
  f3 : w.frozen? ⟨b, o + 3, none⟩ = false
  mc : m ≤ c
  cm : c ≤ maxLen
  mP : m ≤ P
  sl : SL w lo 3 1 (.slice N m c) m
theorem Row.task {w : World} {lo rb P b k : Nat} (r : Row w lo b 42 (k * 4 + 4)) (hs : St lo rb P w) : ∃ t N m c p u, TC w lo P b (k * 4) t N m c p u := by
  obtain ⟨v0, h0, t0, f0⟩ := r.at_ hs.wt tT (i := k * 4) (by omega)
  obtain ⟨v1, h1, t1, f1⟩ := r.at_ hs.wt tT (i := k * 4 + 1) (by omega)
  obtain ⟨v2, h2, t2, f2⟩ := r.at_ hs.wt tT (i := k * 4 + 2) (by omega)
  obtain ⟨v3, h3, t3, f3⟩ := r.at_ hs.wt tT (i := k * 4 + 3) (by omega)
  obtain ⟨x0, rfl⟩ := t0.fld (by omega)
  obtain ⟨x2, rfl⟩ := t2.fld (by omega)
  obtain ⟨x3, rfl⟩ := t3.fld (by omega)
  obtain ⟨m, hm, hsl⟩ := t1.1 rfl (by omega)
  obtain ⟨N, c, rfl, hc, hcm, hsl⟩ := hsl.form
  exact ⟨x0, N, m, c, x2, x3, h0, h1, h2, h3, f0, f1, f2, f3, hc, hcm, hm, hsl⟩
/-- task k of a slice of tasks -/
theorem SL.task {w : World} {lo rb P n k : Nat} {A : Option Addr} {c : Nat} (h : SL w lo 42 4 (.slice A n c) n) (hs : St lo rb P w) (hk : k < n) :
    ∃ b o t N m cN p u, A = some ⟨b, o, none⟩ ∧ TC w lo P b (o + k * 4) t N m cN p u ∧ lo ≤ b ∧ Row w lo b 42 (o + k * 4 + 4) ∧ o % 4 = 0 := by
  obtain ⟨A', c', e, h1, h2, h3⟩ := h
  cases e
  rcases h3 with ⟨_, h3⟩ | ⟨b, o, rfl, hr⟩
  · omega
  · have hr' : Row w lo b 42 ((o + k) * 4 + 4) := hr.less (by omega)
    obtain ⟨t, N, m, cN, p, u, hT⟩ := hr'.task hs
    have e : (o + k) * 4 = o * 4 + k * 4 := by omega
    rw [e] at hT hr'
    exact ⟨b, o * 4, t, N, m, cN, p, u, rfl, hT, hr.1, hr', by omega⟩
theorem St.allocT {w : World} {lo rb P : Nat} (hs : St lo rb P w) (t : Int) (N : Option Addr) (m c : Nat) (p u : Int) (hm : m ≤ P) (hN : SL w lo 3 1 (.slice N m c) m) :
    St lo rb P (w.alloc (.cells #[.int .i64 t, .slice N m c, .int .i64 p, .int .i64 u] 42)) ∧ Fwd lo w (w.alloc (.cells #[.int .i64 t, .slice N m c, .int .i64 p, .int .i64 u] 42)) :=
  hs.alloc _ _ (by decide) fun s ht i v hv => by
    match i, hv with
    | 0, hv => simp at hv; subst hv; exact TY.num _ _ _ _ ⟨t, rfl⟩ (by decide)
    | 1, hv => simp at hv; subst hv; exact TY.sl hm hN (by decide)
    | 2, hv => simp at hv; subst hv; exact TY.num _ _ _ _ ⟨p, rfl⟩ (by decide)
    | 3, hv => simp at hv; subst hv; exact TY.num _ _ _ _ ⟨u, rfl⟩ (by decide)
    | i + 4, hv => simp at hv
/-- what lies in the cells of a slice -/
theorem SL.src {w : World} {lo rb P n : Nat} {t ts : TypeId} {s : Nat} {v : Value} (ht : Typ t s) (hu : Try.prog.underlying ts = some (.slice t)) (h : SL w lo t s v n) (hs : St lo rb P w) :
    ∃ news : List Value, Src Try.prog s ts v n news w ∧ ∀ j u, news[j]? = some u → TY w lo P t j u := by
  obtain ⟨A, c, rfl, h1, h2, h3⟩ := h
  rcases h3 with ⟨rfl, rfl⟩ | ⟨b, o, rfl, hlo, cs, hc, hm⟩
  · have : n = 0 := by omega
    subst this
    exact ⟨[], Src.ofNil w hu 0, fun j u hj => by simp at hj⟩
  · have hty : ∀ j u, ((cs.toList.drop (o * s)).take (n * s))[j]? = some u → TY w lo P t j u := by
      intro j u hj
      rw [List.getElem?_take] at hj
      split at hj
      · rw [List.getElem?_drop] at hj
        exact (hs.wt b cs t s ht hlo hc (o * s + j) u (by simpa using hj)).unshift ht
      · cases hj
    have hlen : o * s + n * s ≤ cs.size := by
      rw [← Nat.add_mul]
      exact Nat.le_trans (Nat.mul_le_mul_right _ (by omega)) hm
    refine ⟨(cs.toList.drop (o * s)).take (n * s), Src.ofSlice w hu ⟨b, o * s, none⟩ n c _ (by simp; omega) ?_ ?_, hty⟩
    · intro j u hj
      rw [List.getElem?_take] at hj
      split at hj
      · rw [List.getElem?_drop] at hj
        rw [Addr.add_lit, cell_of_row w b _ cs _ (0, 0) hc]
        simpa using hj
      · cases hj
    · intro u hu'
      obtain ⟨j, hj, e⟩ := List.mem_iff_getElem.1 hu'
      exact news_one (hty j u (by rw [List.getElem?_eq_getElem hj, e]))
theorem run_push_tasks {lo rb P : Nat} {w : World} {ty : TypeId} {v x : Value} {n m : Nat} (hs : St lo rb P w) (hv : SL w lo 42 4 v n) (hx : SL w lo 42 4 x m) (hm : n + m ≤ 1000000000) :
    ∃ v' w', (Builtin.append_ #[35, 35] ty #[v, x]).run Try.prog w = .ok v' w' ∧ SL w' lo 42 4 v' (n + m) ∧ St lo rb P w' ∧ Fwd lo w w' ∧ Keeps 42 w w' := by
  obtain ⟨i0, hi0, hz0, hz1, hz2⟩ := info_parts Try.infoTaskD
  obtain ⟨news, hsrc, hty⟩ := hx.src tT Try.underlying35 hs
  exact run_push tT Try.underlying35 hi0 hz0 hz1 hz2 (by omega) rfl (fun j hj => by
    match j, hj with
    | 0, _ => exact TY.num _ _ _ _ ⟨0, rfl⟩ (by decide)
    | 1, _ => exact TY.sl (Nat.zero_le _) SL.nilB (by decide)
    | 2, _ => exact TY.num _ _ _ _ ⟨0, rfl⟩ (by decide)
    | 3, _ => exact TY.num _ _ _ _ ⟨0, rfl⟩ (by decide)
    | j + 4, h => omega) hs hv hsrc hty hm
/-- 'append(g, ts...)' of tasks, in a walk -/
theorem push_tt {ops : Array Oper} {rest : List Oper} {o : Oper} {a : Act} {Q : Exit → Act → World → Prop} {w : World} (hgd : o.guard = none) (s x : Operand)
    (ho : o.op = .call { callee := .builtin .append, args := #[s, x], argTypes := #[35, 35] }) {lo rb P n m : Nat} (hs : St lo rb P w) (hv : SL w lo 42 4 (a.eval s) n) (hx : SL w lo 42 4 (a.eval x) m) (hm : n + m ≤ 1000000000)
    (h : ∀ A c w', n + m ≤ c → c ≤ maxLen → SL w' lo 42 4 (.slice A (n + m) c) (n + m) → St lo rb P w' → Fwd lo w w' → wpList Try.prog ops Q rest (a.put o.dst (.slice A (n + m) c)) w') : wpList Try.prog ops Q (o :: rest) a w := by
  refine wpList_plain hgd fun K hK => ?_
  obtain ⟨v', w', hr, h1, h2, h3, _⟩ := run_push_tasks (ty := o.type) hs hv hx hm
  obtain ⟨A, c, rfl, hnc, hcm, h1⟩ := h1.form
  unfold Oper.wp
  simp [execOp, ho, resolve, invoke, builtin, hr, Result.andThen]
  exact hK _ _ (h A c w' hnc hcm h1 h2 h3)
end Go.Proofs.Ytoggbndpjcfmiaa
