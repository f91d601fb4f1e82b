/-
  WHAT THE LAWS OF ALL USERS SERVED WANT: facts on the answers, ready for the walks. No condition.
-/
import Derived.Test.YtcoipkogfgcdeaaMath83
import Derived.Test.YtcoipkogfgcdeaaMath81
namespace Go.Proofs.Ytcoipkogfgcdeaa
open Go.RowKit
theorem ServeAll_len100 (g : List Bs.U) (a : Int) (_h : g.length ≤ 100) : (Bs.seqL g a).length ≤ 1000 := by
  unfold Bs.seqL
  split
  · rename_i h
    obtain ⟨hu, ht⟩ := Bs.srvOk_iff.1 h
    rw [Bs.seqC_len hu ht]
    have := Bs.wN_le hu
    omega
  · simp
theorem serv_can {g : List Bs.U} {L : List Int} {a : Int} (hL : L = Bs.seqL g a) (h0 : ¬ L.length = 0) : Bs.srvOk g a = true := by
  cases h : Bs.srvOk g a
  · rw [Bs.seqL_no h] at hL; rw [hL] at h0; exact absurd rfl h0
  · rfl
theorem wN_sum : ∀ (l : List Bs.U), (∀ k, k < l.length → 0 ≤ (Bs.gu l k).waits) → (Bs.wN l : Int) = Bs.sumZ (l.map (·.waits))
  | [], _ => rfl
  | u :: r, h => by
    have h1 := h 0 (by simp)
    have h2 := wN_sum r (fun k hk => h (k + 1) (by simpa using hk))
    have e : (Bs.gu (u :: r) 0).waits = u.waits := rfl
    show ((u.waits.toNat + Bs.wN r : Nat) : Int) = Bs.sumZ (u.waits :: r.map (·.waits))
    simp only [Bs.sumZ]
    omega
theorem serv_len {g : List Bs.U} {a : Int} (h : Bs.srvOk g a = true) : ((Bs.seqL g a).length : Int) = Bs.sumZ (g.map (·.waits)) := by
  obtain ⟨hu, ht⟩ := Bs.srvOk_iff.1 h
  rw [Bs.seqL_yes h, Bs.seqC_len hu ht]
  exact wN_sum g (fun k hk => (Bs.uOk_iff.1 ((Bs.usersOk_iff.1 hu).2 k hk)).2.2.1)
theorem waits_tk {g : List Bs.U} (hu : Bs.usersOk g = true) : ∀ k, k ≤ g.length → 0 ≤ Bs.sumZ ((g.map (·.waits)).take k) ∧ Bs.sumZ ((g.map (·.waits)).take k) ≤ 6 * k := by
  intro k
  induction k with
  | zero => intro _; simp [Bs.sumZ]
  | succ k ih =>
    intro hk
    have h1 := ih (by omega)
    have h2 := (Bs.uOk_iff.1 ((Bs.usersOk_iff.1 hu).2 k (by omega))).2.2
    rw [Bs.gu_at (by omega)] at h2
    rw [List.take_succ_eq_append_getElem (by rw [List.length_map]; omega), Bs.sumZ_append, List.getElem_map]
    simp only [Bs.sumZ]
    omega
theorem waits_succ {g : List Bs.U} {k : Nat} (hk : k < g.length) : Bs.sumZ ((g.map (·.waits)).take (k + 1)) = Bs.sumZ ((g.map (·.waits)).take k) + (Bs.gu g k).waits := by
  rw [List.take_succ_eq_append_getElem (by simpa using hk), Bs.sumZ_append, List.getElem_map, Bs.gu_at hk]
  simp [Bs.sumZ]
/-- users of equal shares, three tasks each -/
def triU (n : Nat) : List Bs.U := List.replicate n ⟨2, 0, 3⟩
theorem triU_len (n : Nat) : (triU n).length = n := List.length_replicate
theorem triU_succ (n : Nat) : triU (n + 1) = triU n ++ [⟨2, 0, 3⟩] := List.replicate_succ'
theorem tri_all : ∀ n : Fin 6, ∀ t : Fin 21, 1 ≤ n.val → 1 ≤ t.val → Bs.seqL (triU n.val) (t.val : Int) = (List.range (3 * n.val)).map fun i => ((i % n.val : Nat) : Int) := by decide +kernel
theorem tri_law {n : Nat} {a : Int} (hn : 1 ≤ n ∧ n ≤ 5) (ha : 1 ≤ a ∧ a ≤ 20) : (Bs.seqL (triU n) a).length = 3 * n ∧ ∀ i, i < 3 * n → Bs.gi (Bs.seqL (triU n) a) i = ((i : Int) % (n : Int)) := by
  obtain ⟨t, rfl⟩ : ∃ t : Nat, a = (t : Int) := ⟨a.toNat, by omega⟩
  have h := tri_all ⟨n, by omega⟩ ⟨t, by omega⟩ hn.1 (by show 1 ≤ t; omega)
  have h : Bs.seqL (triU n) (t : Int) = (List.range (3 * n)).map fun i => ((i % n : Nat) : Int) := h
  have hl : (Bs.seqL (triU n) (t : Int)).length = 3 * n := by rw [h]; simp
  refine ⟨hl, fun i hi => ?_⟩
  rw [Bs.gi_at (by omega)]
  simp only [h, List.getElem_map, List.getElem_range]
  omega
/-- how often a number stands in a list -/
def cntV (v : Int) (l : List Int) : Int := ((l.filter (· == v)).length : Int)
theorem cntV_take (v : Int) (l : List Int) (k : Nat) (hk : k < l.length) : cntV v (l.take (k + 1)) = cntV v (l.take k) + if l[k] == v then 1 else 0 := by
  unfold cntV
  rw [List.take_succ_eq_append_getElem hk, List.filter_append, List.length_append]
  cases h : l[k] == v <;> simp [List.filter, h]
theorem cntV_b (v : Int) (l : List Int) : 0 ≤ cntV v l ∧ cntV v l ≤ l.length := by
  unfold cntV
  have := List.length_filter_le (· == v) l
  omega
theorem seq_cnt {t : Int} (ht : 1 ≤ t ∧ t ≤ 20) : ∀ l, Bs.usersOk l = true → ∀ i, i < l.length → cntV (i : Int) (Bs.seqC l t) = (Bs.gu l i).waits := by
  refine Bs.serve_ind ht (fun l => ∀ i, i < l.length → cntV (i : Int) (Bs.seqC l t) = (Bs.gu l i).waits) ?_ ?_
  · intro l hu h0 i hi
    rw [Bs.seqC_end hu h0]
    have h1 := (Bs.uOk_iff.1 ((Bs.usersOk_iff.1 hu).2 i hi)).2.2
    rcases Bs.nextC_is hu with ⟨_, h⟩ | ⟨m, e, _⟩
    · have := h i hi
      show (0 : Int) = _
      omega
    · omega
  · intro l hu h0 ih i hi
    have h1 := ih i (by rw [Bs.srvL_len]; exact hi)
    obtain ⟨hm, hw⟩ := Bs.next_at hu h0
    rw [Bs.srvL_gu hm] at h1
    rw [Bs.seqC_step hu h0]
    have e : cntV (i : Int) (Bs.nextC l :: Bs.seqC (Bs.srvL l t) t) = (if Bs.nextC l == (i : Int) then 1 else 0) + cntV (i : Int) (Bs.seqC (Bs.srvL l t) t) := by
      unfold cntV
      cases h : Bs.nextC l == (i : Int)
      · simp [List.filter, h]
      · simp [List.filter, h]; omega
    rw [e, h1]
    by_cases h2 : i = (Bs.nextC l).toNat
    · have h3 : (Bs.nextC l == (i : Int)) = true := by rw [beq_iff_eq]; omega
      rw [h3, if_pos h2, ← h2]
      show (1 : Int) + ((Bs.gu l i).waits - 1) = _
      omega
    · have h3 : (Bs.nextC l == (i : Int)) = false := by rw [beq_eq_false_iff_ne]; omega
      rw [h3, if_neg h2]
      simp
theorem serv_cnt {g : List Bs.U} {a : Int} (h : Bs.srvOk g a = true) : ∀ i, i < g.length → cntV (i : Int) (Bs.seqL g a) = (Bs.gu g i).waits := by
  obtain ⟨hu, ht⟩ := Bs.srvOk_iff.1 h
  rw [Bs.seqL_yes h]
  exact seq_cnt ht g hu
theorem serv_first {g : List Bs.U} {a : Int} (h : Bs.srvOk g a = true) (h0 : ¬ (Bs.seqL g a).length = 0) : Bs.gi (Bs.seqL g a) 0 = Bs.nextL g := by
  obtain ⟨hu, ht⟩ := Bs.srvOk_iff.1 h
  rw [Bs.seqL_yes h] at h0 ⊢
  rw [Bs.nextL_yes hu]
  by_cases h1 : Bs.nextC g < 0
  · rw [Bs.seqC_end hu h1] at h0
    exact absurd rfl h0
  · rw [Bs.seqC_step hu (by omega)]
    rfl
end Go.Proofs.Ytcoipkogfgcdeaa
