/-
  PLAIN MATHEMATICS of graphs of tasks: what the laws of heads and tails say. No condition.
-/
import Derived.Test.YtiokblodjhmjmabW18
import Derived.Test.YtiokblodjhmjmabMath4
namespace Go.Proofs.Ytiokblodjhmjmab
open Bs
theorem mem_users {g : List T} {i : Nat} {x : Int} (hi : i < g.length) (hx : x ∈ need g i) (h0 : 0 ≤ x) : i ∈ usersOf g x.toNat := by
  unfold usersOf
  rw [List.mem_filter]
  refine ⟨by simpa using hi, ?_⟩
  rw [Int.toNat_of_nonneg h0]
  simpa using hx
theorem gi_at {l : List Int} {k : Nat} (hk : k < l.length) : gi l k = l[k] := by unfold gi; simp [hk]
theorem time_at {g : List T} {k : Nat} (hk : k < g.length) : timeOf g k = g[k].time := by unfold timeOf; rw [List.getElem?_eq_getElem hk]
theorem valid_of_len {g : List T} {M L : List Int} (h : L = if valid g then M else []) (hl : L.length = g.length) {i : Nat} (hi : i < g.length) : valid g = true ∧ L = M := by
  cases hv : valid g
  · rw [hv] at h
    simp at h
    subst h
    simp at hl
    omega
  · rw [hv] at h
    exact ⟨rfl, by simpa using h⟩
theorem tails_law {g : List T} {L : List Int} (h : L = if valid g then tailsC g else []) (hl : L.length = g.length) : ∀ i (hi : i < g.length), 0 ≤ gi L i ∧ gi L i ≤ 160 ∧ 1 ≤ g[i].time ∧ g[i].time ≤ 20 ∧ g[i].time ≤ gi L i ∧
    ∀ x ∈ g[i].needs, 0 ≤ x ∧ x < g.length ∧ timeOf g x.toNat + gi L i ≤ gi L x.toNat := by
  intro i hi
  obtain ⟨hv, rfl⟩ := valid_of_len h hl hi
  have hF := valid_fine hv
  have h8 := fine_len hF
  have hsp := tailsC_spec hF (valid_full hv)
  have ht := hsp.toTailMid.isTail
  have a := hsp.lo i hi
  have b := hsp.hi i hi
  have htop := (top_dist g).le
  have ti := fine_time hF hi
  rw [← time_at hi, ← need_at hi]
  refine ⟨by omega, by omega, ti.1, ti.2, ?_, ?_⟩
  · rw [ht i hi]
    have := maxL_nonneg ((usersOf g i).map (gi (tailsC g)))
    omega
  · intro x hx
    have hr := fine_need hF hx
    refine ⟨hr.1, hr.2, ?_⟩
    rw [ht x.toNat (by omega)]
    have := le_maxL (List.mem_map_of_mem (f := gi (tailsC g)) (mem_users hi hx hr.1))
    omega
theorem heads_law {g : List T} {L : List Int} (h : L = if valid g then headsC g else []) (hl : L.length = g.length) : ∀ i (hi : i < g.length), 0 ≤ gi L i ∧ gi L i ≤ 160 ∧ 1 ≤ g[i].time ∧ g[i].time ≤ 20 ∧
    (∀ x ∈ g[i].needs, 0 ≤ x ∧ x < g.length ∧ gi L x.toNat + timeOf g x.toNat ≤ gi L i) ∧ ((g[i].needs.length = 0 ∧ gi L i = 0) ∨ (0 < g[i].needs.length ∧ g[i].needs.any (fun x => gi L x.toNat + timeOf g x.toNat == gi L i) = true)) := by
  intro i hi
  obtain ⟨hv, rfl⟩ := valid_of_len h hl hi
  have hF := valid_fine hv
  have h8 := fine_len hF
  have hm := headsK_mid hF _ (Nat.le_refl _)
  have hh := hm.isHead (valid_full hv)
  have hb : ∀ i, i < g.length → 0 ≤ gi (headsC g) i ∧ gi (headsC g) i ≤ 160 := by
    intro i hi
    have htop := (top_dist g).le
    have a := hm.lo i hi
    have b := hm.hi i hi
    unfold headsC
    omega
  have ti := fine_time hF hi
  obtain ⟨b0, b1⟩ := hb i hi
  rw [← time_at hi, ← need_at hi]
  have e : gi (headsC g) i = maxL ((need g i).map fun x => gi (headsC g) x.toNat + timeOf g x.toNat) := hh i hi
  refine ⟨b0, b1, ti.1, ti.2, ?_, ?_⟩
  · intro x hx
    have hr := fine_need hF hx
    refine ⟨hr.1, hr.2, ?_⟩
    rw [e]
    exact le_maxL (List.mem_map_of_mem (f := fun x : Int => gi (headsC g) x.toNat + timeOf g x.toNat) hx)
  · by_cases hn : (need g i).length = 0
    · refine .inl ⟨hn, ?_⟩
      rw [e, List.eq_nil_of_length_eq_zero hn]
      rfl
    · refine .inr ⟨by omega, ?_⟩
      rw [List.any_eq_true]
      rcases maxL_mem ((need g i).map fun x => gi (headsC g) x.toNat + timeOf g x.toNat) with h0 | h0
      · exfalso
        have hx := List.getElem_mem (l := need g i) (n := 0) (by omega)
        have hr := fine_need hF hx
        have h1 := le_maxL (List.mem_map_of_mem (f := fun x : Int => gi (headsC g) x.toNat + timeOf g x.toNat) hx)
        have h2 := hb (need g i)[0].toNat (by omega)
        have h3 := fine_time hF (i := (need g i)[0].toNat) (by omega)
        simp only [h0] at h1
        omega
      · rw [← e] at h0
        obtain ⟨x, hx, hxe⟩ := List.mem_map.1 h0
        exact ⟨x, hx, by simpa using hxe⟩
theorem sum_le {g : List T} (hv : valid g = true) : ∀ i, i < g.length → gi (headsC g) i + gi (tailsC g) i ≤ longC g := by
  have hF := valid_fine hv
  have hg := valid_full hv
  have hh := (headsK_mid hF _ (Nat.le_refl _)).isHead hg
  have hsp := tailsC_spec hF hg
  have ht := hsp.toTailMid.isTail
  refine need_ind hg (fun i => gi (headsC g) i + gi (tailsC g) i ≤ longC g) ?_
  intro i hi ih
  have hmax : gi (tailsC g) i ≤ longC g := by
    unfold longC
    rw [gi_at (by rw [hsp.len]; exact hi)]
    exact le_maxL (List.getElem_mem _)
  have e : gi (headsC g) i = maxL ((need g i).map fun x => gi (headsC g) x.toNat + timeOf g x.toNat) := hh i hi
  rcases maxL_mem ((need g i).map fun x => gi (headsC g) x.toNat + timeOf g x.toNat) with h0 | h0
  · rw [e, h0]; omega
  · rw [← e] at h0
    obtain ⟨x, hx, hxe⟩ := List.mem_map.1 h0
    have hr := fine_need hF hx
    have h1 := ih x hx
    have h2 := ht x.toNat (by omega)
    have h3 := le_maxL (List.mem_map_of_mem (f := gi (tailsC g)) (mem_users hi hx hr.1))
    omega
theorem sum_hit {g : List T} (hv : valid g = true) (h0 : 0 < g.length) : ∃ i, i < g.length ∧ gi (headsC g) i + gi (tailsC g) i = longC g := by
  have hF := valid_fine hv
  have hg := valid_full hv
  have hm := headsK_mid hF _ (Nat.le_refl _)
  have hh := hm.isHead hg
  have hsp := tailsC_spec hF hg
  have ht := hsp.toTailMid.isTail
  rcases maxL_mem (tailsC g) with h1 | h1
  · exfalso
    have h2 : gi (tailsC g) 0 ≤ maxL (tailsC g) := by rw [gi_at (by rw [hsp.len]; exact h0)]; exact le_maxL (List.getElem_mem _)
    have h3 := ht 0 h0
    have h4 := fine_time hF h0
    have h5 := maxL_nonneg ((usersOf g 0).map (gi (tailsC g)))
    omega
  · obtain ⟨i, hi, e⟩ := List.mem_iff_getElem.1 h1
    have hi' : i < g.length := by rw [← hsp.len]; exact hi
    have e' : gi (tailsC g) i = longC g := by rw [gi_at hi]; exact e
    refine ⟨i, hi', ?_⟩
    have h2 := sum_le hv i hi'
    have h3 := hm.lo i hi'
    have h4 : 0 ≤ gi (headsC g) i := h3
    omega
/-- what the law of heads and tails wants -/
theorem sum_law {g : List T} {L H : List Int} {n : Int} (h : L = if valid g then tailsC g else []) (hH : H = if valid g then headsC g else []) (hn : n = longL g) (hl : L.length = g.length) (h0 : 0 < g.length) :
    H.length = g.length ∧ (∀ i, i < g.length → 0 ≤ gi H i ∧ gi H i ≤ 160 ∧ 0 ≤ gi L i ∧ gi L i ≤ 160 ∧ gi H i + gi L i ≤ n) ∧ (List.range g.length).any (fun i => gi H i + gi L i == n) = true := by
  obtain ⟨hv, rfl⟩ := valid_of_len h hl h0
  rw [hv] at hH
  simp only [if_true] at hH
  subst hH
  rw [longL_yes hv] at hn
  subst hn
  have hF := valid_fine hv
  have hm := headsK_mid hF _ (Nat.le_refl _)
  have hsp := tailsC_spec hF (valid_full hv)
  have h8 := fine_len hF
  have htop := (top_dist g).le
  refine ⟨hm.len, ?_, ?_⟩
  · intro i hi
    have a := hm.lo i hi
    have b := hm.hi i hi
    have c := hsp.lo i hi
    have d := hsp.hi i hi
    have e := sum_le hv i hi
    have a' : 0 ≤ gi (headsC g) i := a
    have b' : gi (headsC g) i ≤ 20 * (top g).length := b
    omega
  · obtain ⟨i, hi, e⟩ := sum_hit hv h0
    rw [List.any_eq_true]
    exact ⟨i, by simpa using hi, by simpa using e⟩
theorem any_range (p : Nat → Bool) (j : Nat) : (List.range (j + 1)).any p = ((List.range j).any p || p j) := by
  rw [List.range_succ, List.any_append, List.any_cons, List.any_nil, Bool.or_false]
end Go.Proofs.Ytiokblodjhmjmab
