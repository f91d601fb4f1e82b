/-
  PLAIN MATHEMATICS of graphs of tasks: what the laws of used units want. No condition.
-/
import Derived.Test.YtihgakbopkaemaaK2
import Derived.Test.YtihgakbopkaemaaK11
namespace Go.Proofs.Ytihgakbopkaemaa.Bs
theorem asc_take1 (d : List Int) : asc (d.take 1) = true := by
  rw [asc_iff]
  intro k h
  rw [List.length_take] at h
  omega
theorem asc_tail {d : List Int} (h : asc d = true) : asc d.tail = true := by
  rw [asc_iff] at h ⊢
  intro k hk
  rw [List.length_tail] at hk
  have := h (k + 1) (by omega)
  simpa using this
theorem inG_sub {g : List T} {d s : List Int} (h : inG g d = true) (ha : asc s = true) (hs : ∀ x ∈ s, x ∈ d) : inG g s = true := by
  refine inG_yes ha ?_
  unfold allInB
  rw [List.all_eq_true]
  intro x hx
  have := inG_mem h x (hs x hx)
  rw [decide_eq_true_eq]
  omega
theorem unitF_bd {g : List T} (hF : fine g = true) {x : Int} (hx : 0 ≤ x ∧ x < g.length) (p : Int) : 0 ≤ unitF g p x ∧ unitF g p x ≤ 4 := by
  obtain ⟨v, rfl⟩ : ∃ v : Nat, x = (v : Int) := ⟨x.toNat, by omega⟩
  have hv : v < g.length := by omega
  have hu := fine_task hF hv
  unfold unitF
  rw [Int.toNat_natCast, units_at hv]
  split <;> omega
theorem unitF_all {g : List T} (hF : fine g = true) {v : Nat} (hv : v < g.length) : unitF g 0 (v : Int) + unitF g 1 (v : Int) + unitF g 2 (v : Int) = g[v].units := by
  have hu := fine_task hF hv
  unfold unitF
  rw [Int.toNat_natCast, units_at hv, pool_at hv]
  have h3 : g[v].pool = 0 ∨ g[v].pool = 1 ∨ g[v].pool = 2 := by omega
  rcases h3 with h | h | h <;> rw [h] <;> simp
theorem usedC_bd {g : List T} (hF : fine g = true) (p : Int) : ∀ r : List Int, (∀ x ∈ r, 0 ≤ x ∧ x < g.length) → 0 ≤ usedC g r p ∧ usedC g r p ≤ 4 * r.length := by
  intro r
  induction r with
  | nil => intro _; simp [usedC, sumZ]
  | cons x r ih =>
    intro h
    have h1 := ih (fun y hy => h y (by simp [hy]))
    have h2 := unitF_bd hF (h x (by simp)) p
    have e : usedC g (x :: r) p = unitF g p x + usedC g r p := by simp [usedC, sumZ]
    rw [e, List.length_cons]
    omega
theorem usedL_of {g : List T} {r : List Int} (hv : valid g = true) (hi : inG g r = true) : usedL g r = [usedC g r 0, usedC g r 1, usedC g r 2] := by
  unfold usedL
  rw [hv, hi]
  rfl
theorem usedL_len (g : List T) (r : List Int) : (usedL g r).length ≤ 3 := by
  unfold usedL
  split <;> simp
theorem usedL_ok {g : List T} {r : List Int} (h0 : ¬ (usedL g r).length = 0) : valid g = true ∧ inG g r = true := by
  unfold usedL at h0
  split at h0
  · rename_i h; rw [Bool.and_eq_true] at h; exact h
  · exact absurd rfl h0
theorem used_law {g : List T} {d L A B : List Int} (hL : L = usedL g d) (hA : A = usedL g (d.take 1)) (hB : B = usedL g d.tail) (h0 : ¬ L.length = 0) (hd : 0 < d.length) :
    L.length = 3 ∧ A.length = 3 ∧ B.length = 3 ∧ (∀ p, p < 3 → giZ L p = giZ A p + giZ B p ∧ 0 ≤ giZ A p ∧ giZ A p ≤ 100 ∧ 0 ≤ giZ B p ∧ giZ B p ≤ 100) ∧ (∀ x ∈ A, 0 ≤ x ∧ x ≤ 100) ∧
    ∃ v : Nat, ∃ h : v < g.length, d[0] = (v : Int) ∧ sumZ A = g[v].units := by
  rw [hL] at h0
  obtain ⟨hv, hi⟩ := usedL_ok h0
  have hF := valid_fine hv
  have h8 := fine_len hF
  have hl := inG_len hi
  have hm := inG_mem hi
  obtain ⟨x, r, rfl⟩ : ∃ x r, d = x :: r := by cases d with | nil => simp at hd | cons x r => exact ⟨x, r, rfl⟩
  have i1 : inG g [x] = true := inG_sub hi (asc_take1 (x :: r)) (by simp)
  have ha : asc (x :: r) = true := by unfold inG at hi; rw [Bool.and_eq_true] at hi; exact hi.1
  have i2 : inG g r = true := inG_sub hi (asc_tail ha) (fun y hy => by simp [hy])
  have e1 : usedL g ((x :: r).take 1) = [usedC g [x] 0, usedC g [x] 1, usedC g [x] 2] := usedL_of hv i1
  have e2 : usedL g (x :: r).tail = [usedC g r 0, usedC g r 1, usedC g r 2] := usedL_of hv i2
  rw [usedL_of hv hi] at hL
  rw [e1] at hA
  rw [e2] at hB
  have hs : ∀ p, usedC g (x :: r) p = usedC g [x] p + usedC g r p := fun p => usedC_append g [x] r p
  have hx := hm x (by simp)
  have b1 : ∀ p, 0 ≤ usedC g [x] p ∧ usedC g [x] p ≤ 4 := fun p => by rw [usedC_one]; exact unitF_bd hF hx p
  have b2 : ∀ p, 0 ≤ usedC g r p ∧ usedC g r p ≤ 100 := fun p => by
    have := usedC_bd hF p r (fun y hy => hm y (by simp [hy]))
    rw [List.length_cons] at hl
    omega
  refine ⟨by rw [hL]; rfl, by rw [hA]; rfl, by rw [hB]; rfl, ?_, ?_, x.toNat, by omega, by show x = _; omega, ?_⟩
  · intro p hp
    have : p = 0 ∨ p = 1 ∨ p = 2 := by omega
    rcases this with rfl | rfl | rfl
    · have := b1 0; have := b2 0; have := hs 0; subst hL hA hB; simp only [giZ, List.getElem?_cons_zero]; omega
    · have := b1 1; have := b2 1; have := hs 1; subst hL hA hB; simp only [giZ, List.getElem?_cons_zero, List.getElem?_cons_succ]; omega
    · have := b1 2; have := b2 2; have := hs 2; subst hL hA hB; simp only [giZ, List.getElem?_cons_zero, List.getElem?_cons_succ]; omega
  · intro y hy
    subst hA
    have := b1 0; have := b1 1; have := b1 2
    simp only [List.mem_cons, List.not_mem_nil, or_false] at hy
    rcases hy with rfl | rfl | rfl <;> omega
  · have hv' : x.toNat < g.length := by omega
    have := unitF_all hF hv'
    rw [show ((x.toNat : Nat) : Int) = x from by omega] at this
    rw [hA, usedC_one, usedC_one, usedC_one]
    simp only [sumZ]
    omega
/-- all tasks together -/
def rgZ (n : Nat) : List Int := (List.range n).map (fun i : Nat => (i : Int))
theorem rgZ_len (n : Nat) : (rgZ n).length = n := by simp [rgZ]
theorem rgZ_succ (n : Nat) : rgZ (n + 1) = rgZ n ++ [(n : Int)] := by simp [rgZ, List.range_succ]
theorem used_all {g : List T} (hv : valid g = true) : ∃ a b c, usedL g (rgZ g.length) = [a, b, c] ∧ a + b + c = sumZ (g.map fun t => t.units) ∧ (0 ≤ a ∧ a ≤ 100) ∧ (0 ≤ b ∧ b ≤ 100) ∧ 0 ≤ c ∧ c ≤ 100 := by
  have hF := valid_fine hv
  have h8 := fine_len hF
  have hi : inG g (rgZ g.length) = true := by
    refine inG_yes ?_ ?_
    · rw [asc_iff]; intro k hk; simp [rgZ]; omega
    · unfold allInB; rw [List.all_eq_true]; intro x hx
      simp only [rgZ, List.mem_map, List.mem_range] at hx
      obtain ⟨i, h1, rfl⟩ := hx
      simp; omega
  have hb := fun p => usedC_bd hF p _ (inG_mem hi)
  have key : ∀ k, k ≤ g.length → usedC g (rgZ k) 0 + usedC g (rgZ k) 1 + usedC g (rgZ k) 2 = sumZ ((g.take k).map fun t => t.units) := by
    intro k
    induction k with
    | zero => intro _; simp [rgZ, usedC, sumZ]
    | succ k ih =>
      intro hk
      have h1 := ih (by omega)
      have hkl : k < g.length := by omega
      have h2 := unitF_all hF hkl
      rw [rgZ_succ]
      rw [usedC_append, usedC_append, usedC_append, usedC_one, usedC_one, usedC_one, List.take_succ_eq_append_getElem hkl, List.map_append, sumZ_append]
      simp only [List.map_cons, List.map_nil, sumZ]
      omega
  have hk := key g.length (Nat.le_refl _)
  rw [List.take_length] at hk
  refine ⟨_, _, _, usedL_of hv hi, hk, ?_, ?_, ?_⟩
  · have := hb 0; rw [rgZ_len] at this; omega
  · have := hb 1; rw [rgZ_len] at this; omega
  · have := hb 2; rw [rgZ_len] at this; omega
theorem used_none {g : List T} (hv : valid g = true) : usedL g [] = [0, 0, 0] := by
  rw [usedL_of hv (by unfold inG; simp [asc, allInB])]
  rfl
theorem units_take {g : List T} {k : Nat} (hk : k < g.length) : sumZ ((g.take (k + 1)).map fun t => t.units) = sumZ ((g.take k).map fun t => t.units) + g[k].units := by
  rw [List.take_succ_eq_append_getElem hk, List.map_append, sumZ_append]
  simp [sumZ]
end Go.Proofs.Ytihgakbopkaemaa.Bs
