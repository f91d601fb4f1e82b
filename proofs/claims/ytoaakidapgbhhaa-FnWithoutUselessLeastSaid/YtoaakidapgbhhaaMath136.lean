/-
  PLAIN MATHEMATICS of stages and useless needs: what the laws want. No condition.
-/
import Derived.Test.YtoaakidapgbhhaaMath135
namespace Go.Proofs.Ytoaakidapgbhhaa.Bs
theorem stage_law {g : List T} {L : List Int} (h : L = if valid g then levC g else []) (hl : L.length = g.length) : ∀ i (hi : i < g.length), 0 ≤ gi L i ∧ gi L i ≤ 7 ∧ (∀ x ∈ g[i].needs, 0 ≤ x ∧ x < g.length ∧ 0 ≤ gi L x.toNat ∧ gi L x.toNat + 1 ≤ gi L i) ∧
    (g[i].needs.length = 0 ∧ gi L i = 0 ∨ 0 < g[i].needs.length ∧ g[i].needs.any (fun x => gi L x.toNat + 1 == gi L i) = true) ∧ gi L i < g.length ∧ gi L i ≤ ((needsA g (i : Int)).length : Int) := by
  intro i hi
  obtain ⟨hv, rfl⟩ := valid_of_len h hl hi
  have hF := valid_fine hv
  have h8 := fine_len hF
  obtain ⟨a, b, c⟩ := lev_law hv hi
  have d := lev_lt hv hi
  have e := lev_count hv i hi
  rw [← need_at hi]
  refine ⟨a, by omega, ?_, ?_, d, ?_⟩
  · intro x hx
    have hxb := fine_need hF hx
    exact ⟨hxb.1, hxb.2, (lev_law hv (i := x.toNat) (by omega)).1, b x hx⟩
  · rcases c with ⟨c1, c2⟩ | ⟨x, hx, c2⟩
    · exact .inl ⟨by rw [c1]; rfl, c2⟩
    · refine .inr ⟨List.length_pos_of_mem hx, ?_⟩
      rw [List.any_eq_true]
      exact ⟨x, hx, by rw [beq_iff_eq]; exact c2.symm⟩
  · rw [needsA_yes hv (by omega) (by omega), Int.toNat_natCast]
    exact e
theorem pick_add {p q r : Nat → Bool} : ∀ n, (∀ i, i < n → r i = (p i || q i)) → (∀ i, i < n → ¬ (p i = true ∧ q i = true)) → (pick n r).length = (pick n p).length + (pick n q).length := by
  intro n
  induction n with
  | zero => intro _ _; rfl
  | succ n ih =>
    intro h1 h2
    have := ih (fun i hi => h1 i (by omega)) (fun i hi => h2 i (by omega))
    rw [pick_succ, pick_succ, pick_succ, h1 n (by omega)]
    have h3 := h2 n (by omega)
    cases hp : p n <;> cases hq : q n <;> simp [hp, hq] at h3 ⊢ <;> omega
theorem bef_add (g : List T) (s : Nat) : (befS g (s + 1)).length = (befS g s).length + (stgS g s).length := by
  unfold befS stgS
  refine pick_add _ ?_ ?_
  · intro i _
    rw [Bool.eq_iff_iff, Bool.or_eq_true, decide_eq_true_eq, decide_eq_true_eq, beq_iff_eq]
    omega
  · intro i _ h
    rw [decide_eq_true_eq, beq_iff_eq] at h
    omega
theorem bef_all {g : List T} {k : Nat} (h : ∀ i, i < g.length → gi (levC g) i < (k : Int)) : (befS g k).length = g.length := by
  unfold befS
  rw [pick_congr g.length _ (fun _ => true) (fun i hi => decide_eq_true (h i hi))]
  exact allL_len g.length
theorem stages_law {g : List T} {Ls : List (List Int)} (h : Ls = stgL g) (h0 : ¬ Ls.length = 0) : valid g = true ∧ g.length ≤ 8 ∧ Ls.length ≤ 8 ∧ (∀ s (hs : s < Ls.length), Ls[s] = stgS g s ∧ 0 < (stgS g s).length) ∧ (befS g Ls.length).length = g.length := by
  cases hv : valid g
  · rw [h, stgL_no hv] at h0
    exact absurd rfl h0
  · obtain ⟨k, hk, hne, hke, hL⟩ := stg_end hv
    rw [hL] at h
    subst h
    have h8 := fine_len (valid_fine hv)
    have hlen : (stgK g k).length = k := by simp [stgK]
    refine ⟨rfl, h8, by omega, ?_, ?_⟩
    · intro s hs
      refine ⟨by simp [stgK], List.length_pos_iff.2 (hne s (by omega))⟩
    · rw [hlen]
      exact bef_all (stg_none hv hke)
theorem stg_at {g : List T} {s i : Nat} (hi : i < (stgS g s).length) : ∃ j : Nat, (stgS g s)[i] = (j : Int) ∧ j < g.length ∧ gi (levC g) j = (s : Int) ∧ ∀ i', i' < i → (stgS g s)[i']! < (j : Int) := by
  have hm : (stgS g s)[i] ∈ stgS g s := List.getElem_mem hi
  have hm2 := hm
  unfold stgS at hm2
  obtain ⟨j, hj, e, ej⟩ := (mem_pick _ _ _).1 hm2
  rw [beq_iff_eq] at e
  have ej' : (stgS g s)[i] = (j : Int) := ej
  refine ⟨j, ej', hj, e, ?_⟩
  intro i' hi'
  have hp := asc_pair (show asc (stgS g s) = true from asc_pick _ _)
  rw [← ej', getElem!_pos (stgS g s) i' (by omega)]
  exact (List.pairwise_iff_getElem.1 hp) i' i (by omega) hi hi'
theorem stage_ready {g : List T} (hv : valid g = true) (s : Nat) : readyL g (befS g s) = stgS g s := by
  unfold readyL
  rw [bef_vdone hv s, if_pos rfl]
  exact ready_stage hv s
theorem pair_law {g : List T} {Ls : List (List Int)} (h : Ls = pairL g) : Ls.length ≤ 64 ∧ ∀ k (hk : k < Ls.length), valid g = true ∧ g.length ≤ 8 ∧ ∃ a x : Nat, a < g.length ∧ x < g.length ∧ Ls[k] = [(a : Int), (x : Int)] ∧ (need g a).contains (x : Int) = true := by
  constructor
  · subst h
    cases hv : valid g
    · rw [pairL_no hv]; simp
    · rw [pairL_yes hv]
      have h1 := pairK_len (valid_fine hv) g.length
      have h8 := fine_len (valid_fine hv)
      omega
  · intro k hk
    cases hv : valid g
    · rw [h, pairL_no hv] at hk; simp at hk
    · refine ⟨rfl, fine_len (valid_fine hv), ?_⟩
      have hm := List.getElem_mem hk
      rw [pairL_yes hv] at h
      obtain ⟨P, hP⟩ : ∃ P, P = Ls[k] := ⟨_, rfl⟩
      rw [← hP] at hm ⊢
      rw [h] at hm
      unfold pairK at hm
      rw [List.mem_flatMap] at hm
      obtain ⟨a, ha, hx⟩ := hm
      rw [List.mem_range] at ha
      obtain ⟨x, hx2, rfl⟩ := List.mem_map.1 hx
      have h1 := usl_sub hx2
      have hxb := fine_need (valid_fine hv) h1
      refine ⟨a, x.toNat, ha, by omega, by rw [show ((x.toNat : Nat) : Int) = x from by omega], ?_⟩
      rw [show ((x.toNat : Nat) : Int) = x from by omega]
      exact contains_iff'.2 h1
theorem pair_get {g : List T} {Ls : List (List Int)} (h : Ls = pairL g) {k : Nat} (hk : k < Ls.length) : valid g = true ∧ ∃ a x : Nat, a < g.length ∧ x < g.length ∧ Ls[k] = [(a : Int), (x : Int)] ∧ (x : Int) ∈ uslL g a := by
  cases hv : valid g
  · rw [h, pairL_no hv] at hk; simp at hk
  · refine ⟨rfl, ?_⟩
    have hm := List.getElem_mem hk
    rw [pairL_yes hv] at h
    obtain ⟨P, hP⟩ : ∃ P, P = Ls[k] := ⟨_, rfl⟩
    rw [← hP] at hm ⊢
    rw [h] at hm
    unfold pairK at hm
    rw [List.mem_flatMap] at hm
    obtain ⟨a, ha, hx⟩ := hm
    rw [List.mem_range] at ha
    obtain ⟨x, hx2, rfl⟩ := List.mem_map.1 hx
    have hxb := fine_need (valid_fine hv) (usl_sub hx2)
    exact ⟨a, x.toNat, ha, by omega, by rw [show ((x.toNat : Nat) : Int) = x from by omega], by rw [show ((x.toNat : Nat) : Int) = x from by omega]; exact hx2⟩
theorem pair_none {g : List T} {Ls : List (List Int)} (h : Ls = pairL g) : ∀ k (hk : k < Ls.length), ∃ (a x : Nat) (ha : a < g.length), x < g.length ∧ Ls[k] = [(a : Int), (x : Int)] ∧ (g[a].needs.any (fun y => decide (gi (levC g) x < gi (levC g) y.toNat)) = true ∧ ∀ y ∈ g[a].needs, 0 ≤ y ∧ y < g.length) := by
  intro k hk
  obtain ⟨hv, a, x, ha, hx, e, hu⟩ := pair_get h hk
  refine ⟨a, x, ha, hx, e, ?_, ?_⟩
  · obtain ⟨_, y, hy, _, hl⟩ := usl_law hv hu
    rw [List.any_eq_true]
    refine ⟨y, by rw [← need_eq ha]; exact hy, ?_⟩
    rw [decide_eq_true_eq]
    rwa [Int.toNat_natCast] at hl
  · intro y hy
    rw [← need_eq ha] at hy
    exact fine_need (valid_fine hv) hy
theorem pair_need {g : List T} {Ls : List (List Int)} (h : Ls = pairL g) : ∀ k (hk : k < Ls.length), ∃ (a x : Nat) (ha : a < g.length), x < g.length ∧ Ls[k] = [(a : Int), (x : Int)] ∧ g[a].needs.any (fun y => (needsA g y).contains (x : Int)) = true ∧ (∀ y ∈ g[a].needs, 0 ≤ y ∧ y < g.length) ∧ g[a].needs.contains (x : Int) = true := by
  intro k hk
  obtain ⟨hv, a, x, ha, hx, e, hu⟩ := pair_get h hk
  have hb : ∀ y ∈ g[a].needs, 0 ≤ y ∧ y < g.length := by
    intro y hy
    rw [← need_eq ha] at hy
    exact fine_need (valid_fine hv) hy
  obtain ⟨hxn, y, hy, hc, _⟩ := usl_law hv hu
  rw [need_eq ha] at hxn hy
  refine ⟨a, x, ha, hx, e, ?_, hb, contains_iff'.2 hxn⟩
  rw [List.any_eq_true]
  have := hb y hy
  exact ⟨y, hy, by rw [needsA_yes hv this.1 this.2]; exact hc⟩
end Go.Proofs.Ytoaakidapgbhhaa.Bs
