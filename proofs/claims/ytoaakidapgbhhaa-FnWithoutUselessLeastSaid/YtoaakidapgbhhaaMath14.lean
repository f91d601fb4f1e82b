/-
  PLAIN MATHEMATICS of graphs of tasks: a task that needs itself; a graph without its last task. No condition.
-/
import Derived.Test.YtoaakidapgbhhaaMath13
import Derived.Test.YtoaakidapgbhhaaMath11
namespace Go.Proofs.Ytoaakidapgbhhaa.Bs
def setN : List T → Nat → List Int → List T
  | [], _, _ => []
  | t :: r, 0, x => { t with needs := x } :: r
  | t :: r, i + 1, x => t :: setN r i x
theorem setN_len : ∀ (g : List T) (i : Nat) (x : List Int), (setN g i x).length = g.length
  | [], _, _ => rfl
  | _ :: _, 0, _ => rfl
  | _ :: r, i + 1, x => by simp [setN, setN_len r i x]
theorem setN_get : ∀ (g : List T) (i : Nat) (x : List Int) (k : Nat), (setN g i x)[k]? = if k = i then (g[k]?).map (fun t => { t with needs := x }) else g[k]?
  | [], i, x, k => by simp [setN]
  | t :: r, 0, x, 0 => by simp [setN]
  | t :: r, 0, x, k + 1 => by simp [setN]
  | t :: r, i + 1, x, 0 => by simp [setN]
  | t :: r, i + 1, x, k + 1 => by simp [setN, setN_get r i x k]
theorem setN_need (g : List T) (i : Nat) (x : List Int) (k : Nat) (hk : k < g.length) : need (setN g i x) k = if k = i then x else need g k := by
  unfold need
  rw [setN_get]
  by_cases e : k = i
  · rw [if_pos e, if_pos e, List.getElem?_eq_getElem hk]; rfl
  · rw [if_neg e, if_neg e]
theorem setN_mem {g : List T} {i : Nat} {x : List Int} {t : T} (h : t ∈ setN g i x) : t ∈ g ∨ ∃ t' ∈ g, t = { t' with needs := x } := by
  obtain ⟨k, hk, e⟩ := List.mem_iff_getElem.1 h
  have h1 := setN_get g i x k
  rw [setN_len] at hk
  rw [List.getElem?_eq_getElem (by rw [setN_len]; exact hk), List.getElem?_eq_getElem hk] at h1
  rw [← e]
  by_cases e2 : k = i
  · rw [if_pos e2] at h1
    exact .inr ⟨g[k], List.getElem_mem hk, by simpa using h1⟩
  · rw [if_neg e2] at h1
    exact .inl (by have h2 : (setN g i x)[k]'(by rw [setN_len]; exact hk) = g[k] := by simpa using h1
                   rw [h2]; exact List.getElem_mem hk)
theorem fine_mem {g : List T} (hF : fine g = true) {t : T} (ht : t ∈ g) : validT g.length t = true := by
  unfold fine at hF
  simp only [Bool.and_eq_true, List.all_eq_true] at hF
  exact hF.1 t ht
/-- what the law of a task that needs itself wants -/
theorem self_law {g : List T} (hv : valid g = true) {k : Nat} (hk : k < g.length) : ∀ i : Nat, i < g.length → (stuckL (setN g k [(k : Int)])).contains (i : Int) = (((i : Int) == (k : Int)) || (usersA g (k : Int)).contains (i : Int)) := by
  have hF := valid_fine hv
  have hg := valid_full hv
  obtain ⟨b, hb⟩ : ∃ b, b = setN g k [(k : Int)] := ⟨_, rfl⟩
  have hl : b.length = g.length := by rw [hb]; exact setN_len _ _ _
  have hn : ∀ i, i < g.length → need b i = if i = k then [(k : Int)] else need g i := by intro i hi; rw [hb]; exact setN_need _ _ _ _ hi
  have hFb : fine b = true := by
    have h8 := fine_len hF
    unfold fine
    simp only [Bool.and_eq_true, List.all_eq_true, decide_eq_true_eq]
    refine ⟨?_, by omega⟩
    intro t ht
    rw [hl]
    rw [hb] at ht
    rcases setN_mem ht with h | ⟨t', h, rfl⟩
    · exact fine_mem hF h
    · have h1 := fine_mem hF h
      rw [validT_iff] at h1 ⊢
      obtain ⟨a1, a2, a3, a4, a5, a6, _⟩ := h1
      refine ⟨a1, a2, a3, a4, a5, a6, ?_⟩
      simp [allInB, asc, ascF]
      omega
  rw [← hb]
  clear hb
  have hst : stuckL b = pick b.length (fun i => !(top b).contains (i : Int)) := by unfold stuckL; rw [hFb]; rfl
  have key : ∀ i, i < g.length → ((i : Int) ∉ top b ↔ i = k ∨ Reach g i k) := by
    refine need_ind hg (fun i => ((i : Int) ∉ top b ↔ i = k ∨ Reach g i k)) ?_
    intro i hi ih
    have hs := stuck_iff (g := b) (i := i) (by omega)
    by_cases e : i = k
    · subst e
      refine ⟨fun _ => .inl rfl, fun _ hm => ?_⟩
      obtain ⟨p, hp, hpe⟩ := List.mem_iff_getElem.1 hm
      have hbh := top_behind b p hp (i : Int) (by rw [hpe, Int.toNat_natCast, hn i hi, if_pos rfl]; simp)
      obtain ⟨j, hj, hje⟩ := List.mem_iff_getElem.1 hbh
      rw [List.length_take] at hj
      rw [List.getElem_take] at hje
      have := top_inj (g := b) (by omega) hp (hje.trans hpe.symm)
      omega
    · rw [hs, hn i hi, if_neg e]
      constructor
      · rintro ⟨x, hx, hxn⟩
        have hr := fine_need hF hx
        have h1 := (ih x hx).1 (by rwa [Int.toNat_of_nonneg hr.1])
        right
        have hx' : ((x.toNat : Nat) : Int) ∈ need g i := by rw [Int.toNat_of_nonneg hr.1]; exact hx
        rcases h1 with h1 | h1
        · subst h1; exact .one hx'
        · exact .via hx' h1
      · rintro (h | h)
        · exact absurd h e
        · rcases Reach_iff.1 h with h1 | ⟨u, hu, hr⟩
          · exact ⟨(k : Int), h1, by have := (ih _ h1).2 (.inl (by simp)); simpa using this⟩
          · exact ⟨(u : Int), hu, by have := (ih _ hu).2 (.inr (by simpa using hr)); simpa using this⟩
  intro i hi
  have h1 := mem_pick_nat b.length (fun i => !(top b).contains (i : Int)) i
  rw [← hst] at h1
  have h2 := users2_iff (g := g) (v := k) hi
  rw [usersA_yes hv (by omega) (by omega), Int.toNat_natCast, h2, Bool.eq_iff_iff]
  simp only [Bool.or_eq_true, reachB_iff, beq_iff_eq, List.contains_eq_mem, decide_eq_true_eq, h1]
  have h3 := key i hi
  constructor
  · rintro ⟨_, h⟩
    rcases h3.1 (by simpa using h) with h4 | h4
    · exact .inl (by omega)
    · exact .inr h4
  · intro h
    refine ⟨by omega, ?_⟩
    have := h3.2 (h.imp (fun h => by omega) id)
    simpa using this
theorem allIn_iff (l : List Int) (lo hi : Int) : allInB l lo hi = true ↔ ∀ x ∈ l, lo ≤ x ∧ x ≤ hi := by
  unfold allInB
  simp
/-- what the law of a graph without its last task wants -/
theorem less_graph {g : List T} (hv : valid g = true) {n : Nat} (hn : g.length = n + 1) : decide (0 < (((usersA g (n : Int)).length : Nat) : Int)) = !valid (g.take n) := by
  have hF := valid_fine hv
  have hg := valid_full hv
  have hl : (g.take n).length = n := by rw [List.length_take]; omega
  have hneed : ∀ i, i < n → need (g.take n) i = need g i := by
    intro i hi
    unfold need
    rw [List.getElem?_take, if_pos hi]
  have hu : usersA g (n : Int) = users2 g n := by rw [usersA_yes hv (by omega) (by omega), Int.toNat_natCast]
  rw [hu]
  have huse : 0 < (users2 g n).length ↔ ∃ i, i < g.length ∧ (n : Int) ∈ need g i := by
    constructor
    · intro h
      have hx := List.getElem_mem h
      unfold users2 at hx
      obtain ⟨j, hj, hr, _⟩ := (mem_pick _ _ _).1 hx
      exact reach_last (reachB_iff.1 hr)
    · rintro ⟨i, hi, hm⟩
      have : (i : Int) ∈ users2 g n := by unfold users2; exact (mem_pick_nat _ _ _).2 ⟨hi, reachB_iff.2 (.one hm)⟩
      exact List.length_pos_of_mem this
  by_cases h : ∃ i, i < g.length ∧ (n : Int) ∈ need g i
  · have h1 : valid (g.take n) = false := by
      rw [Bool.eq_false_iff]
      intro hv'
      obtain ⟨i, hi, hm⟩ := h
      have hin : i < n := by
        rcases Nat.lt_or_ge i n with h1 | h1
        · exact h1
        · exfalso
          have e : i = n := by omega
          subst e
          exact Reach.irrefl hg (.one hm)
      have := fine_need (valid_fine hv') (i := i) (x := (n : Int)) (by rw [hneed i hin]; exact hm)
      omega
    have h2 := huse.2 h
    rw [h1]
    simp
    omega
  · have h2 : ¬ 0 < (users2 g n).length := fun h3 => h (huse.1 h3)
    have hF' : fine (g.take n) = true := by
      have h8 := fine_len hF
      unfold fine
      simp only [Bool.and_eq_true, List.all_eq_true, decide_eq_true_eq]
      refine ⟨?_, by omega⟩
      intro t ht
      obtain ⟨i, hi, e⟩ := List.mem_iff_getElem.1 ht
      rw [List.getElem_take] at e
      have hin : i < n := by omega
      have h1 := fine_mem hF (List.getElem_mem (l := g) (n := i) (by omega))
      rw [e] at h1
      rw [hl]
      rw [validT_iff] at h1 ⊢
      obtain ⟨a1, a2, a3, a4, a5, a6, a7⟩ := h1
      refine ⟨a1, a2, a3, a4, a5, a6, ?_⟩
      rw [Bool.and_eq_true, allIn_iff] at a7 ⊢
      refine ⟨?_, a7.2⟩
      intro x hx
      have h4 := a7.1 x hx
      have h5 : x ≠ (n : Int) := by
        intro e2
        subst e2
        exact h ⟨i, by omega, by rw [need_at (by omega), e]; exact hx⟩
      omega
    have hall : ∀ i : Nat, i < n → (i : Int) ∈ top (g.take n) := by
      have h6 : ∀ i, i < g.length → i < n → (i : Int) ∈ top (g.take n) := by
        refine need_ind hg (fun i => i < n → (i : Int) ∈ top (g.take n)) ?_
        intro i hi ih hin
        rcases Classical.em ((i : Int) ∈ top (g.take n)) with h7 | h7
        · exact h7
        · exfalso
          obtain ⟨x, hx, hxn⟩ := (stuck_iff (g := g.take n) (i := i) (by omega)).1 h7
          rw [hneed i hin] at hx
          have hr := fine_need hF hx
          have h8 : x.toNat < n := by
            rcases Nat.lt_or_ge x.toNat n with h9 | h9
            · exact h9
            · exfalso
              have e : x = (n : Int) := by omega
              subst e
              exact h ⟨i, hi, hx⟩
          exact hxn (by have := ih x hx h8; rwa [Int.toNat_of_nonneg hr.1] at this)
      exact fun i hi => h6 i (by omega) hi
    have h1 : valid (g.take n) = true := by
      unfold valid
      rw [hF']
      have h9 := pigeon _ _ hall
      have h10 := (top_dist (g.take n)).le
      simp
      omega
    rw [h1]
    have h3 : ¬ (0 : Int) < (((users2 g n).length : Nat) : Int) := by omega
    rw [decide_eq_false h3]
    rfl
end Go.Proofs.Ytoaakidapgbhhaa.Bs
