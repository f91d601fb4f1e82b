/-
  PLAIN MATHEMATICS of schedules: one task after the other. No condition.
-/
import Derived.Test.YtnbgekbfccejdabMath44
namespace Go.Proofs.Ytnbgekbfccejdab.Bs
/-- the time that the first k tasks of the order take -/
def rowT (g : List T) (O : List Int) (k : Nat) : Int := sumZ ((O.take k).map fun x => timeOf g x.toNat)
def rowS (g : List T) (O : List Int) : Nat → List Int
  | 0 => List.replicate g.length 0
  | k + 1 => (rowS g O k).set (giZ O k).toNat (rowT g O k)
theorem rowT_succ {g : List T} {O : List Int} {k : Nat} (hk : k < O.length) : rowT g O (k + 1) = rowT g O k + timeOf g (giZ O k).toNat := by
  unfold rowT
  rw [sumZ_take O (fun x => timeOf g x.toNat) k hk, giZ_at hk]
theorem rowS_len (g : List T) (O : List Int) : ∀ k, (rowS g O k).length = g.length := by
  intro k
  induction k with
  | zero => simp [rowS]
  | succ k ih => show ((rowS g O k).set _ _).length = _; rw [List.length_set, ih]
theorem rowT_mono {g : List T} {O : List Int} (hF : fine g = true) : ∀ j k, j ≤ k → k ≤ O.length → rowT g O j ≤ rowT g O k := by
  intro j k hjk hk
  induction k with
  | zero => rw [show j = 0 from by omega]; exact Int.le_refl _
  | succ k ih =>
    by_cases e : j = k + 1
    · subst e; exact Int.le_refl _
    · have h1 := ih (by omega) (by omega)
      have h2 := rowT_succ (g := g) (O := O) (k := k) (by omega)
      have h3 := time_b hF (giZ O k).toNat
      omega
theorem rowT_b {g : List T} {O : List Int} (hF : fine g = true) : ∀ k, k ≤ O.length → 0 ≤ rowT g O k ∧ rowT g O k ≤ 20 * k := by
  intro k
  induction k with
  | zero => intro _; simp [rowT, sumZ]
  | succ k ih =>
    intro hk
    have h1 := ih (by omega)
    have h2 := rowT_succ (g := g) (O := O) (k := k) (by omega)
    have h3 := time_b hF (giZ O k).toNat
    omega
/-- the place of a task has its time -/
theorem rowS_at {g : List T} {O : List Int} (hn : O.Nodup) (hb : ∀ x ∈ O, 0 ≤ x ∧ x < g.length) : ∀ k, k ≤ O.length → ∀ j, j < k → giZ (rowS g O k) (giZ O j).toNat = rowT g O j := by
  intro k
  induction k with
  | zero => intro _ j hj; omega
  | succ k ih =>
    intro hk j hj
    show giZ ((rowS g O k).set (giZ O k).toNat (rowT g O k)) (giZ O j).toNat = rowT g O j
    have hOk := hb _ (List.getElem_mem (show k < O.length by omega))
    have hOj := hb _ (List.getElem_mem (show j < O.length by omega))
    rw [giZ_set, giZ_at (show k < O.length by omega), giZ_at (show j < O.length by omega), rowS_len]
    by_cases e : j = k
    · subst e
      rw [if_pos ⟨rfl, by omega⟩]
    · have hne : O[j] ≠ O[k] := (List.pairwise_iff_getElem.1 (List.nodup_iff_pairwise_ne.1 hn)) j k (by omega) (by omega) (by omega)
      rw [if_neg (by omega)]
      have := ih (by omega) j (by omega)
      rw [giZ_at (show j < O.length by omega)] at this
      exact this
theorem row_valid {g : List T} {m : List Int} (hv : valid g = true) (hm : roomOk m = true) : stV g m 1 (rowS g (top g) g.length) = true := by
  have hF := valid_fine hv
  have h8 := fine_len hF
  have hfull : (top g).length = g.length := valid_full hv
  obtain ⟨hn, hb⟩ := top_dist g
  have hbeh := top_behind g
  obtain ⟨O, hO⟩ : ∃ O, O = top g := ⟨_, rfl⟩
  rw [← hO] at hfull hn hb hbeh ⊢
  obtain ⟨S, hS⟩ : ∃ S, S = rowS g O g.length := ⟨_, rfl⟩
  have hat : ∀ j, j < g.length → giZ S (giZ O j).toNat = rowT g O j := fun j hj => by rw [hS]; exact rowS_at hn hb g.length (by omega) j hj
  have hSl : S.length = g.length := by rw [hS]; exact rowS_len g O _
  rw [← hS]
  -- each task has a place
  have hpl : ∀ i, i < g.length → ∃ j, j < g.length ∧ giZ O j = (i : Int) := by
    intro i hi
    have hmem : (i : Int) ∈ O := by rw [hO]; exact (valid_full hv).mem hi
    obtain ⟨j, hj, e⟩ := List.mem_iff_getElem.1 hmem
    exact ⟨j, by omega, by rw [giZ_at hj]; exact e⟩
  have hst : ∀ i, i < g.length → ∃ j, j < g.length ∧ giZ O j = (i : Int) ∧ giZ S i = rowT g O j := by
    intro i hi
    obtain ⟨j, hj, e⟩ := hpl i hi
    have := hat j hj
    rw [e, Int.toNat_natCast] at this
    exact ⟨j, hj, e, this⟩
  rw [stV_iff]
  refine ⟨canV_iff.2 ⟨hv, hm, by omega, by omega⟩, clkV_iff.2 ⟨hSl, ?_⟩, stK_iff.2 ?_⟩
  · intro i hi
    obtain ⟨j, hj, _, e⟩ := hst i (by omega)
    have := rowT_b (g := g) (O := O) hF j (by omega)
    omega
  · intro i hi
    obtain ⟨j, hj, ej, e⟩ := hst i hi
    refine ⟨needOk_iff.2 ?_, ?_⟩
    · intro x hx
      have hjO : j < O.length := by omega
      have hbx := hbeh j hjO x (by rw [← giZ_at hjO, ej, Int.toNat_natCast]; exact hx)
      obtain ⟨k, hk, ek⟩ := List.mem_iff_getElem.1 hbx
      rw [List.length_take] at hk
      rw [List.getElem_take] at ek
      have hak := hat k (by omega)
      rw [giZ_at (show k < O.length by omega), ek] at hak
      rw [hak, e]
      have h1 := rowT_succ (g := g) (O := O) (k := k) (by omega)
      rw [giZ_at (show k < O.length by omega), ek] at h1
      have h2 := rowT_mono (g := g) (O := O) hF (k + 1) j (by omega) (by omega)
      omega
    · have hrun : runAt g S (giZ S i) = [(i : Int)] := by
        have hone : ∀ x, x ∈ runAt g S (giZ S i) ↔ x ∈ [(i : Int)] := by
          intro x
          rw [List.mem_singleton]
          constructor
          · intro hx
            obtain ⟨i2, hi2, a, b, rfl⟩ := mem_runAt.1 hx
            obtain ⟨j2, hj2, ej2, e2⟩ := hst i2 hi2
            rw [e, e2] at a b
            have h1 := rowT_succ (g := g) (O := O) (k := j2) (by omega)
            rw [ej2, Int.toNat_natCast] at h1
            have h3 := rowT_succ (g := g) (O := O) (k := j) (by omega)
            rw [ej, Int.toNat_natCast] at h3
            have ht := fine_time' hF hi
            rw [← time_at hi] at ht
            have ht2 := fine_time' hF hi2
            rw [← time_at hi2] at ht2
            by_cases c1 : j2 < j
            · have := rowT_mono (g := g) (O := O) hF (j2 + 1) j (by omega) (by omega); omega
            · by_cases c2 : j < j2
              · have := rowT_mono (g := g) (O := O) hF (j + 1) j2 (by omega) (by omega); omega
              · have : j = j2 := by omega
                subst this
                omega
          · rintro rfl
            have ht := fine_time' hF hi
            rw [← time_at hi] at ht
            exact mem_runAt.2 ⟨i, hi, by omega, by omega, rfl⟩
        refine asc_unique (asc_pick _ _) ?_ hone
        rfl
      rw [hrun]
      unfold fitN
      rw [Bool.and_eq_true, decide_eq_true_eq]
      refine ⟨by simp, ?_⟩
      rw [fitsC_iff]
      have hm3 : m.length = 3 := roomOk_len hm
      have hmb : ∀ k, k < 3 → 4 ≤ giZ m k := fun k hk => by
        rw [giZ_at (by omega)]
        unfold roomOk at hm
        rw [Bool.and_eq_true] at hm
        exact (allInB_mem hm.2 (List.getElem_mem (show k < m.length by omega))).1
      have hu : ∀ p : Int, usedC g [(i : Int)] p ≤ 4 := by
        intro p
        rw [usedC_one]
        unfold unitF
        rw [Int.toNat_natCast, units_at hi]
        have := fine_task hF hi
        split <;> omega
      have a0 := hu 0
      have a1 := hu 1
      have a2 := hu 2
      have b0 := hmb 0 (by omega)
      have b1 := hmb 1 (by omega)
      have b2 := hmb 2 (by omega)
      omega
end Go.Proofs.Ytnbgekbfccejdab.Bs
