/-
  PLAIN MATHEMATICS of graphs of tasks: what the laws of heads and tails say. No condition.
-/
import Derived.Test.YtiokblodjhmjmaaW17
import Derived.Test.YtiokblodjhmjmaaMath4
namespace Go.Proofs.Ytiokblodjhmjmaa
open Bs
theorem mem_users {g : List T} {i : Nat} {x : Int} (hi : i < g.length) (hx : x ∈ need g i) (h0 : 0 ≤ x) : i ∈ usersOf g x.toNat := by
  unfold usersOf
  rw [List.mem_filter]
  refine ⟨by simpa using hi, ?_⟩
  rw [Int.toNat_of_nonneg h0]
  simpa using hx
theorem gi_at {l : List Int} {k : Nat} (hk : k < l.length) : gi l k = l[k] := by unfold gi; simp [hk]
theorem time_at {g : List T} {k : Nat} (hk : k < g.length) : timeOf g k = g[k].time := by unfold timeOf; rw [List.getElem?_eq_getElem hk]
theorem valid_of_len {g : List T} {M L : List Int} (h : L = if valid g then M else []) (hl : L.length = g.length) {i : Nat} (hi : i < g.length) : valid g = true ∧ L = M := by
  cases hv : valid g
  · rw [hv] at h
    simp at h
    subst h
    simp at hl
    omega
  · rw [hv] at h
    exact ⟨rfl, by simpa using h⟩
theorem tails_law {g : List T} {L : List Int} (h : L = if valid g then tailsC g else []) (hl : L.length = g.length) : ∀ i (hi : i < g.length), 0 ≤ gi L i ∧ gi L i ≤ 160 ∧ 1 ≤ g[i].time ∧ g[i].time ≤ 20 ∧ g[i].time ≤ gi L i ∧
    ∀ x ∈ g[i].needs, 0 ≤ x ∧ x < g.length ∧ timeOf g x.toNat + gi L i ≤ gi L x.toNat := by
  intro i hi
  obtain ⟨hv, rfl⟩ := valid_of_len h hl hi
  have hF := valid_fine hv
  have h8 := fine_len hF
  have hsp := tailsC_spec hF (valid_full hv)
  have ht := hsp.toTailMid.isTail
  have a := hsp.lo i hi
  have b := hsp.hi i hi
  have htop := (top_dist g).le
  have ti := fine_time hF hi
  rw [← time_at hi, ← need_at hi]
  refine ⟨by omega, by omega, ti.1, ti.2, ?_, ?_⟩
  · rw [ht i hi]
    have := maxL_nonneg ((usersOf g i).map (gi (tailsC g)))
    omega
  · intro x hx
    have hr := fine_need hF hx
    refine ⟨hr.1, hr.2, ?_⟩
    rw [ht x.toNat (by omega)]
    have := le_maxL (List.mem_map_of_mem (f := gi (tailsC g)) (mem_users hi hx hr.1))
    omega
theorem heads_law {g : List T} {L : List Int} (h : L = if valid g then headsC g else []) (hl : L.length = g.length) : ∀ i (hi : i < g.length), 0 ≤ gi L i ∧ gi L i ≤ 160 ∧ 1 ≤ g[i].time ∧ g[i].time ≤ 20 ∧
    (∀ x ∈ g[i].needs, 0 ≤ x ∧ x < g.length ∧ gi L x.toNat + timeOf g x.toNat ≤ gi L i) ∧ ((g[i].needs.length = 0 ∧ gi L i = 0) ∨ (0 < g[i].needs.length ∧ g[i].needs.any (fun x => gi L x.toNat + timeOf g x.toNat == gi L i) = true)) := by
  intro i hi
  obtain ⟨hv, rfl⟩ := valid_of_len h hl hi
  have hF := valid_fine hv
  have h8 := fine_len hF
  have hm := headsK_mid hF _ (Nat.le_refl _)
  have hh := hm.isHead (valid_full hv)
  have hb : ∀ i, i < g.length → 0 ≤ gi (headsC g) i ∧ gi (headsC g) i ≤ 160 := by
    intro i hi
    have htop := (top_dist g).le
    have a := hm.lo i hi
    have b := hm.hi i hi
    unfold headsC
    omega
  have ti := fine_time hF hi
  obtain ⟨b0, b1⟩ := hb i hi
  rw [← time_at hi, ← need_at hi]
  have e : gi (headsC g) i = maxL ((need g i).map fun x => gi (headsC g) x.toNat + timeOf g x.toNat) := hh i hi
  refine ⟨b0, b1, ti.1, ti.2, ?_, ?_⟩
  · intro x hx
    have hr := fine_need hF hx
    refine ⟨hr.1, hr.2, ?_⟩
    rw [e]
    exact le_maxL (List.mem_map_of_mem (f := fun x : Int => gi (headsC g) x.toNat + timeOf g x.toNat) hx)
  · by_cases hn : (need g i).length = 0
    · refine .inl ⟨hn, ?_⟩
      rw [e, List.eq_nil_of_length_eq_zero hn]
      rfl
    · refine .inr ⟨by omega, ?_⟩
      rw [List.any_eq_true]
      rcases maxL_mem ((need g i).map fun x => gi (headsC g) x.toNat + timeOf g x.toNat) with h0 | h0
      · exfalso
        have hx := List.getElem_mem (l := need g i) (n := 0) (by omega)
        have hr := fine_need hF hx
        have h1 := le_maxL (List.mem_map_of_mem (f := fun x : Int => gi (headsC g) x.toNat + timeOf g x.toNat) hx)
        have h2 := hb (need g i)[0].toNat (by omega)
        have h3 := fine_time hF (i := (need g i)[0].toNat) (by omega)
        simp only [h0] at h1
        omega
      · rw [← e] at h0
        obtain ⟨x, hx, hxe⟩ := List.mem_map.1 h0
        exact ⟨x, hx, by simpa using hxe⟩
end Go.Proofs.Ytiokblodjhmjmaa
