/-
  PLAIN MATHEMATICS of schedules: what the laws of the least time say. No condition.
-/
import Derived.Test.YtihgakbopkaemaaMath44
import Derived.Test.YtihgakbopkaemaaK2
namespace Go.Proofs.Ytihgakbopkaemaa.Bs
theorem leastL_can {g : List T} {m : List Int} {wk V : Int} (hV : V = leastL g m wk) (h0 : ¬ V < 0) : canV g m wk = true ∧ V = leastK g m wk 3 := by
  cases h : canV g m wk
  · rw [leastL_no h] at hV; omega
  · exact ⟨rfl, by rw [hV, leastL_yes h]⟩
theorem leastK_ge (g : List T) (m : List Int) (wk : Int) : longC g ≤ leastK g m wk 3 ∧ (sumT g + wk - 1) / wk ≤ leastK g m wk 3 ∧ ∀ k : Nat, k < 3 → poolT g (k : Nat) (giZ m k) ≤ leastK g m wk 3 := by
  have e0 : leastK g m wk 0 = max (longC g) ((sumT g + wk - 1) / wk) := rfl
  have e1 : leastK g m wk 1 = max (leastK g m wk 0) (poolT g ((0 : Nat) : Int) (giZ m 0)) := rfl
  have e2 : leastK g m wk 2 = max (leastK g m wk 1) (poolT g ((1 : Nat) : Int) (giZ m 1)) := rfl
  have e3 : leastK g m wk 3 = max (leastK g m wk 2) (poolT g ((2 : Nat) : Int) (giZ m 2)) := rfl
  refine ⟨by omega, by omega, ?_⟩
  intro k hk
  have hk3 : k = 0 ∨ k = 1 ∨ k = 2 := by omega
  rcases hk3 with rfl | rfl | rfl <;> omega
theorem ceil_ge {a b n : Int} (hb : 0 < b) (h : (a + b - 1) / b ≤ n) : a ≤ n * b := by
  have h1 := Int.mul_ediv_add_emod (a + b - 1) b
  have h2 := Int.emod_lt_of_pos (a + b - 1) hb
  have h3 := Int.mul_le_mul_of_nonneg_right h (Int.le_of_lt hb)
  rw [Int.mul_comm] at h1
  omega
theorem sumT_b2 {g : List T} (hF : fine g = true) : 0 ≤ sumT g ∧ sumT g ≤ 160 := by
  have h := sumT_b hF g.length (Nat.le_refl _)
  rw [List.take_length] at h
  have h8 := fine_len hF
  unfold sumT
  omega
theorem long_b {g : List T} (hv : valid g = true) : 0 ≤ longC g ∧ longC g ≤ 1000 := by
  unfold longC
  refine ⟨maxL_nonneg _, maxL_le (by omega) ?_⟩
  intro x hx
  obtain ⟨i, hi, rfl⟩ := List.mem_iff_getElem.1 hx
  have hl := tails_len hv
  have h8 := fine_len (valid_fine hv)
  have hm := (tailsC_spec (valid_fine hv) (valid_full hv)).toTailMid.hi i (by omega)
  have ht : (top g).length ≤ g.length := (top_dist g).le
  rw [show gi (tailsC g) i = (tailsC g)[i] from by unfold gi; rw [List.getD_eq_getElem?_getD, List.getElem?_eq_getElem hi]; rfl] at hm
  omega
theorem least_b {g : List T} {m : List Int} {wk : Int} (h : canV g m wk = true) : 0 ≤ leastK g m wk 3 ∧ leastK g m wk 3 ≤ 1000 := by
  obtain ⟨hv, hm, hw1, hw4⟩ := canV_iff.1 h
  have hF := valid_fine hv
  have hl := long_b hv
  have hs := sumT_b2 hF
  have hq : (sumT g + wk - 1) / wk ≤ 1000 := Int.le_trans (Int.ediv_le_self _ (by omega)) (by omega)
  have hm3 : m.length = 3 := roomOk_len hm
  have hp : ∀ k : Nat, k < 3 → poolT g (k : Nat) (giZ m k) ≤ 1000 := by
    intro k hk
    have hb : 4 ≤ giZ m k ∧ giZ m k ≤ 8 := by
      rw [giZ_at (by omega)]
      unfold roomOk at hm
      rw [Bool.and_eq_true] at hm
      exact allInB_mem hm.2 (List.getElem_mem (show k < m.length by omega))
    rw [poolT_yes hv (by simp; omega) (by simpa using hb)]
    have hwb := work_bound hF (k : Int) g.length (Nat.le_refl _)
    rw [List.take_length] at hwb
    have h8 := fine_len hF
    have hw2 : workC g (k : Int) ≤ 640 := by unfold workC; omega
    have hw3 : 0 ≤ workC g (k : Int) := hwb.1
    exact Int.le_trans (Int.ediv_le_self _ (by omega)) (by omega)
  have p0 := hp 0 (by omega)
  have p1 := hp 1 (by omega)
  have p2 := hp 2 (by omega)
  have e0 : leastK g m wk 0 = max (longC g) ((sumT g + wk - 1) / wk) := rfl
  have e1 : leastK g m wk 1 = max (leastK g m wk 0) (poolT g ((0 : Nat) : Int) (giZ m 0)) := rfl
  have e2 : leastK g m wk 2 = max (leastK g m wk 1) (poolT g ((1 : Nat) : Int) (giZ m 1)) := rfl
  have e3 : leastK g m wk 3 = max (leastK g m wk 2) (poolT g ((2 : Nat) : Int) (giZ m 2)) := rfl
  omega
theorem can_one {g : List T} {m : List Int} {wk : Int} (h : canV g m wk = true) : canV g m 1 = true := by
  obtain ⟨hv, hm, _⟩ := canV_iff.1 h
  exact canV_iff.2 ⟨hv, hm, by omega, by omega⟩
theorem need_bare (g : List T) (i : Nat) : need (g.map bare) i = [] := by
  unfold need
  rw [List.getElem?_map]
  cases g[i]? <;> rfl
theorem time_bare (g : List T) (i : Nat) : timeOf (g.map bare) i = timeOf g i := by
  unfold timeOf
  rw [List.getElem?_map]
  cases g[i]? <;> rfl
theorem tail_ge {g : List T} (hv : valid g = true) {i : Nat} (hi : i < g.length) : timeOf g i ≤ gi (tailsC g) i := by
  have ht := TailMid.isTail (tailsC_spec (valid_fine hv) (valid_full hv)).toTailMid
  rw [ht i hi]
  have := maxL_nonneg ((usersOf g i).map (gi (tailsC g)))
  omega
theorem tail_bare {g : List T} (hv : valid g = true) {i : Nat} (hi : i < g.length) : gi (tailsC (g.map bare)) i = timeOf g i := by
  have hv2 := bare_valid hv
  have ht := TailMid.isTail (tailsC_spec (valid_fine hv2) (valid_full hv2)).toTailMid
  rw [ht i (by simpa using hi), time_bare]
  have e : usersOf (g.map bare) i = [] := by
    unfold usersOf
    rw [List.filter_eq_nil_iff]
    intro k _
    rw [need_bare]
    simp
  rw [e]
  simp [maxL]
theorem long_bare {g : List T} (hv : valid g = true) : longC (g.map bare) ≤ longC g := by
  have hl := tails_len hv
  have hl2 := tails_len (bare_valid hv)
  rw [List.length_map] at hl2
  unfold longC
  refine maxL_le (maxL_nonneg _) ?_
  intro x hx
  obtain ⟨i, hi, rfl⟩ := List.mem_iff_getElem.1 hx
  have hi2 : i < g.length := by omega
  have a := tail_bare hv hi2
  have b := tail_ge hv hi2
  have c : gi (tailsC g) i ∈ tailsC g := by
    unfold gi
    rw [List.getD_eq_getElem?_getD, List.getElem?_eq_getElem (by omega)]
    exact List.getElem_mem _
  have d := le_maxL c
  rw [show gi (tailsC (g.map bare)) i = (tailsC (g.map bare))[i] from by unfold gi; rw [List.getD_eq_getElem?_getD, List.getElem?_eq_getElem hi]; rfl] at a
  omega
theorem least_bare {g : List T} {m : List Int} {wk V : Int} (hV : V = leastL g m wk) (h0 : ¬ V < 0) : 0 ≤ leastL (g.map bare) m wk ∧ leastL (g.map bare) m wk ≤ V := by
  obtain ⟨hcan, hve⟩ := leastL_can hV h0
  obtain ⟨hv, hm, hw1, hw4⟩ := canV_iff.1 hcan
  have hcan2 : canV (g.map bare) m wk = true := canV_iff.2 ⟨bare_valid hv, hm, hw1, hw4⟩
  rw [leastL_yes hcan2, hve]
  refine ⟨(least_b hcan2).1, ?_⟩
  have hs : sumT (g.map bare) = sumT g := by unfold sumT; rw [List.map_map]; rfl
  have hp : ∀ (p r : Int), poolT (g.map bare) p r = poolT g p r := by
    intro p r
    unfold poolT
    rw [bare_valid hv, hv]
    have : workC (g.map bare) p = workC g p := by unfold workC; rw [List.map_map]; rfl
    rw [this]
  have hl := long_bare hv
  have e0 : leastK g m wk 0 = max (longC g) ((sumT g + wk - 1) / wk) := rfl
  have e1 : leastK g m wk 1 = max (leastK g m wk 0) (poolT g ((0 : Nat) : Int) (giZ m 0)) := rfl
  have e2 : leastK g m wk 2 = max (leastK g m wk 1) (poolT g ((1 : Nat) : Int) (giZ m 1)) := rfl
  have e3 : leastK g m wk 3 = max (leastK g m wk 2) (poolT g ((2 : Nat) : Int) (giZ m 2)) := rfl
  have f0 : leastK (g.map bare) m wk 0 = max (longC (g.map bare)) ((sumT (g.map bare) + wk - 1) / wk) := rfl
  have f1 : leastK (g.map bare) m wk 1 = max (leastK (g.map bare) m wk 0) (poolT (g.map bare) ((0 : Nat) : Int) (giZ m 0)) := rfl
  have f2 : leastK (g.map bare) m wk 2 = max (leastK (g.map bare) m wk 1) (poolT (g.map bare) ((1 : Nat) : Int) (giZ m 1)) := rfl
  have f3 : leastK (g.map bare) m wk 3 = max (leastK (g.map bare) m wk 2) (poolT (g.map bare) ((2 : Nat) : Int) (giZ m 2)) := rfl
  rw [hs] at f0
  rw [hp] at f1 f2 f3
  omega
end Go.Proofs.Ytihgakbopkaemaa.Bs
