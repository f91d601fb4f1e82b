/-
  PLAIN MATHEMATICS: the laws of deadlines. No condition.
-/
import Derived.Test.YthbajjkggfgogaaMath120
import Derived.Test.YthbajjkggfgogaaK11
namespace Go.Proofs.Ythbajjkggfgogaa.Bs
theorem latL_len (g : List T) (d : Int) : (latL g d).length ≤ 8 := by
  unfold latL
  split
  · rename_i h
    rw [Bool.and_eq_true] at h
    rw [latC_len, tailsC_len h.1]
    exact fine_len (valid_fine h.1)
  · simp
theorem lateL_len (g : List T) (m : List Int) (wk : Int) (S : List Int) (d : Int) : (lateL g m wk S d).length ≤ 8 := by
  unfold lateL
  split
  · rename_i h
    rw [Bool.and_eq_true] at h
    have := lateC_len g S d
    have h8 := fine_len (valid_fine (canV_iff.1 (stV_iff.1 h.1).1).1)
    omega
  · simp
theorem latL_can {g : List T} {d : Int} {L : List Int} (hL : L = latL g d) (hl : L.length = g.length) (h0 : 0 < g.length) : valid g = true ∧ (0 ≤ d ∧ d ≤ 200) ∧ L = latC g d := by
  unfold latL at hL
  split at hL
  · rename_i h
    rw [Bool.and_eq_true] at h
    refine ⟨h.1, ?_, hL⟩
    have := h.2
    unfold dlOk at this
    exact of_decide_eq_true this
  · rw [hL] at hl; simp at hl; omega
/-- latest beginnings leave time for what follows -/
theorem lat_law {g : List T} {d : Int} {L : List Int} (hL : L = latL g d) (hl : L.length = g.length) : ∀ i (hi : i < g.length), -160 ≤ giZ L i ∧ giZ L i ≤ 200 ∧ 1 ≤ g[i].time ∧ g[i].time ≤ 20 ∧ giZ L i + g[i].time ≤ d ∧ ∀ x ∈ g[i].needs, 0 ≤ x ∧ x < g.length ∧ 0 ≤ timeOf g x.toNat ∧ timeOf g x.toNat ≤ 20 ∧ giZ L x.toNat + timeOf g x.toNat ≤ giZ L i := by
  intro i hi
  obtain ⟨hv, hd, hC⟩ := latL_can hL hl (by omega)
  have htl := tailsC_len hv
  have hF := valid_fine hv
  obtain ⟨t0, t1, t2, t3, t4, t5⟩ := tails_law (g := g) (L := tailsC g) (by rw [hv]; rfl) htl i hi
  have e := latC_at (g := g) (d := d) (i := i) (by omega)
  rw [← hC] at e
  refine ⟨by omega, by omega, t2, t3, by omega, ?_⟩
  intro x hx
  obtain ⟨x0, x1, x2⟩ := t5 x hx
  have e2 := latC_at (g := g) (d := d) (i := x.toNat) (by omega)
  rw [← hC] at e2
  have tb := time_b hF x.toNat
  refine ⟨x0, x1, tb.1, tb.2, by omega⟩
/-- at the longest time latest is earliest and slack -/
theorem lat_later {g : List T} {d : Int} {L : List Int} (hL : L = latL g d) (h0 : ¬ L.length = 0) (hd : d ≠ 200) : (latL g (d + 1)).length = L.length ∧ ∀ i, i < L.length → giZ (latL g (d + 1)) i = giZ L i + 1 := by
  unfold latL at hL
  split at hL
  · rename_i h
    rw [Bool.and_eq_true] at h
    have hdd := h.2
    unfold dlOk at hdd
    have hdd := of_decide_eq_true hdd
    rw [latL_yes h.1 (by unfold dlOk; exact decide_eq_true (by omega)), hL, latC_len, latC_len]
    refine ⟨rfl, fun i hi => ?_⟩
    rw [latC_at hi, latC_at hi]
    omega
  · rw [hL] at h0; exact absurd rfl h0
theorem latL_b {g : List T} {d : Int} {L : List Int} (hL : L = latL g d) (h0 : ¬ L.length = 0) : (0 ≤ d ∧ d ≤ 200) ∧ ∀ i, i < L.length → -200 ≤ giZ L i ∧ giZ L i ≤ 200 := by
  unfold latL at hL
  split at hL
  · rename_i h
    rw [Bool.and_eq_true] at h
    have hdd := h.2
    unfold dlOk at hdd
    have hdd := of_decide_eq_true hdd
    have htl := tailsC_len h.1
    refine ⟨hdd, fun i hi => ?_⟩
    rw [hL, latC_len, htl] at hi
    obtain ⟨t0, t1, _⟩ := tails_law (g := g) (L := tailsC g) (by rw [h.1]; rfl) htl i hi
    rw [hL, latC_at (by omega)]
    omega
  · rw [hL] at h0; exact absurd rfl h0
/-- late tasks are too late -/
theorem late_mem {g : List T} {m S : List Int} {wk d : Int} {i : Nat} (h : (i : Int) ∈ lateL g m wk S d) : stV g m wk S = true ∧ (0 ≤ d ∧ d ≤ 200) ∧ i < g.length ∧ d - gi (tailsC g) i < giZ S i := by
  unfold lateL at h
  split at h
  · rename_i hc
    rw [Bool.and_eq_true] at hc
    have hdd := hc.2
    unfold dlOk at hdd
    unfold lateC at h
    rw [mem_pick_nat] at h
    refine ⟨hc.1, of_decide_eq_true hdd, h.1, ?_⟩
    have := h.2
    unfold lateP at this
    exact of_decide_eq_true this
  · cases h
theorem late_iff {g : List T} {m S : List Int} {wk d : Int} {i : Nat} (hst : stV g m wk S = true) (hd : 0 ≤ d ∧ d ≤ 200) : (i : Int) ∈ lateL g m wk S d ↔ i < g.length ∧ d - gi (tailsC g) i < giZ S i := by
  rw [lateL_yes hst (by unfold dlOk; exact decide_eq_true hd)]
  unfold lateC
  rw [mem_pick_nat]
  unfold lateP
  rw [decide_eq_true_eq]
/-- somebody is late exactly if the end is too late -/
theorem late_any {g : List T} {m S : List Int} {wk d : Int} (hst : stV g m wk S = true) (hd : 0 ≤ d ∧ d ≤ 200) : 0 < (lateL g m wk S d).length ↔ d < endC g S := by
  have hv := (canV_iff.1 (stV_iff.1 hst).1).1
  have hF := valid_fine hv
  constructor
  · intro h
    have hx := List.getElem_mem (l := lateL g m wk S d) (n := 0) h
    have hin : ∀ x ∈ lateL g m wk S d, ∃ j : Nat, x = j := by
      intro x hx
      rw [lateL_yes hst (by unfold dlOk; exact decide_eq_true hd)] at hx
      obtain ⟨j, _, _, rfl⟩ := (mem_pick _ _ _).1 hx
      exact ⟨j, rfl⟩
    obtain ⟨j, hj⟩ := hin _ hx
    rw [hj] at hx
    obtain ⟨hjl, hlt⟩ := (late_iff hst hd).1 hx
    have := tail_fits hst j hjl
    omega
  · intro h
    have hc := (stV_iff.1 hst).2.1
    by_cases h0 : 0 < g.length
    · obtain ⟨i, hi, e⟩ := end_at hF hc h0
      have ht := tail_ge hv hi
      have : (i : Int) ∈ lateL g m wk S d := (late_iff hst hd).2 ⟨hi, by omega⟩
      exact List.length_pos_of_mem this
    · have : endC g S ≤ 0 := end_le (Int.le_refl _) (fun i hi => by omega)
      omega
theorem late_last {g : List T} {m S : List Int} {wk d : Int} (hst : stV g m wk S = true) (hd : 0 ≤ d ∧ d ≤ 200) (h : d < endC g S) {i : Nat} (hi : i < g.length) (he : giZ S i + timeOf g i = endC g S) : (i : Int) ∈ lateL g m wk S d := by
  have hv := (canV_iff.1 (stV_iff.1 hst).1).1
  have ht := tail_ge hv hi
  exact (late_iff hst hd).2 ⟨hi, by omega⟩
theorem late_users {g : List T} {m S L : List Int} {wk d : Int} (hL : L = lateL g m wk S d) : L.length ≤ g.length ∧ ∀ k (hk : k < L.length), ∀ M, M = latL g d → ∃ j : Nat, L[k] = (j : Int) ∧ j < M.length ∧ j < S.length ∧ giZ M j < giZ S j := by
  have hlen : L.length ≤ g.length := by
    rw [hL]
    unfold lateL
    split
    · exact lateC_len _ _ _
    · simp
  refine ⟨hlen, fun k hk M hM => ?_⟩
  have hin : ∃ j : Nat, L[k] = (j : Int) := by
    have hx := List.getElem_mem hk
    have hsub : ∀ x ∈ L, ∃ j : Nat, x = j := by
      intro x hx
      rw [hL] at hx
      unfold lateL at hx
      split at hx
      · obtain ⟨j, _, _, rfl⟩ := (mem_pick _ _ _).1 hx
        exact ⟨j, rfl⟩
      · cases hx
    exact hsub _ hx
  obtain ⟨j, hj⟩ := hin
  have hm : (j : Int) ∈ lateL g m wk S d := by rw [← hL, ← hj]; exact List.getElem_mem hk
  obtain ⟨hst, hd, hjl, hlt⟩ := late_mem hm
  have hv := (canV_iff.1 (stV_iff.1 hst).1).1
  have htl := tailsC_len hv
  have hsl := clk_len (stV_iff.1 hst).2.1
  have hMe : M = latC g d := by rw [hM]; exact latL_yes hv (by unfold dlOk; exact decide_eq_true hd)
  refine ⟨j, hj, by rw [hMe, latC_len]; omega, by omega, ?_⟩
  rw [hMe, latC_at (by omega)]
  exact hlt
theorem end_pos {g : List T} {m S : List Int} {wk : Int} (hst : stV g m wk S = true) : (endC g S ≤ 0) ↔ g.length = 0 := by
  have hv := (canV_iff.1 (stV_iff.1 hst).1).1
  have hF := valid_fine hv
  constructor
  · intro h
    apply Classical.byContradiction
    intro hn
    have h0 : 0 < g.length := by omega
    have h1 := end_ge (g := g) (S := S) (i := 0) h0
    have h2 := clk_at (stV_iff.1 hst).2.1 0
    have h3 := fine_time hF h0
    omega
  · intro h
    exact end_le (Int.le_refl _) (fun i hi => by omega)
theorem wrk_spec {p : Int → Bool} : ∀ (k : Nat) (n : Int), 0 ≤ n → wrkFrom p k n = -1 ∧ (∀ i : Int, n ≤ i → i < n + k → p i = false) ∨ (n ≤ wrkFrom p k n ∧ wrkFrom p k n < n + k ∧ p (wrkFrom p k n) = true ∧ ∀ i : Int, n ≤ i → i < wrkFrom p k n → p i = false) := by
  intro k
  induction k with
  | zero => intro n _; left; exact ⟨rfl, fun i a b => by omega⟩
  | succ k ih =>
    intro n hn
    cases hp : p n
    · rw [wrk_no hp]
      rcases ih (n + 1) (by omega) with ⟨a, b⟩ | ⟨a, b, c, e⟩
      · left
        refine ⟨a, fun i h1 h2 => ?_⟩
        by_cases ei : i = n
        · subst ei; exact hp
        · exact b i (by omega) (by omega)
      · right
        refine ⟨by omega, by omega, c, fun i h1 h2 => ?_⟩
        by_cases ei : i = n
        · subst ei; exact hp
        · exact e i (by omega) h2
    · rw [wrk_yes hp]
      right
      exact ⟨Int.le_refl _, by omega, hp, fun i h1 h2 => by omega⟩
theorem wrkL_ok {g : List T} {m : List Int} {d n : Int} (hn : n = wrkL g m d) (h0 : ¬ n < 0) : valid g = true ∧ roomOk m = true ∧ (0 ≤ d ∧ d ≤ 200) ∧ 1 ≤ n ∧ n ≤ 4 ∧ meetP g m d n = true ∧ ∀ i : Int, 1 ≤ i → i < n → meetP g m d i = false := by
  unfold wrkL at hn
  split at hn
  · rename_i h
    rw [Bool.and_eq_true, Bool.and_eq_true] at h
    have hdd := h.2.2
    unfold dlOk at hdd
    unfold wrkC at hn
    rcases wrk_spec (p := meetP g m d) 4 1 (by omega) with ⟨a, _⟩ | ⟨a, b, c, e⟩
    · omega
    · rw [← hn] at a b c e
      exact ⟨h.1, h.2.1, of_decide_eq_true hdd, a, by omega, c, e⟩
  · omega
/-- a plan meets a deadline exactly if it ends by then -/
theorem meetB_plan {g : List T} {m : List Int} {d k : Int} (hv : valid g = true) (hm : roomOk m = true) (hd : 0 ≤ d ∧ d ≤ 200) (h1 : 1 ≤ k) (h4 : k ≤ 4) : meetB g m k (planL g m k) d = meetP g m d k := by
  have hc : canV g m k = true := canV_iff.2 ⟨hv, hm, h1, h4⟩
  rw [meetB_yes (planL_valid hc) (by unfold dlOk; exact decide_eq_true hd), planL_yes hc]
  rfl
theorem wrkL_one {g : List T} {m : List Int} (hv : valid g = true) (hm : roomOk m = true) : wrkL g m (sumT g) = 1 ∧ wrkL g m (longC g - 1) = -1 := by
  have hF := valid_fine hv
  have hs := sumT_b2 hF
  have hc1 : canV g m 1 = true := canV_iff.2 ⟨hv, hm, by omega, by omega⟩
  constructor
  · rw [wrkL_yes hv hm (by unfold dlOk; exact decide_eq_true (by omega))]
    refine wrk_yes ?_
    unfold meetP
    exact decide_eq_true (plan_end hc1).1
  · by_cases hd : 0 ≤ longC g - 1 ∧ longC g - 1 ≤ 200
    · rw [wrkL_yes hv hm (by unfold dlOk; exact decide_eq_true hd)]
      unfold wrkC
      rcases wrk_spec (p := meetP g m (longC g - 1)) 4 1 (by omega) with ⟨a, _⟩ | ⟨a, b, c, _⟩
      · exact a
      · exfalso
        have hc : canV g m (wrkFrom (meetP g m (longC g - 1)) 4 1) = true := canV_iff.2 ⟨hv, hm, a, by omega⟩
        have h1 := long_le (plan_valid hc)
        unfold meetP at c
        have h2 := of_decide_eq_true c
        unfold meetP at h1
        omega
    · rw [wrkL_no3 (by unfold dlOk; exact decide_eq_false hd)]
theorem wrkL_later {g : List T} {m : List Int} {d n : Int} (hn : n = wrkL g m d) (h0 : ¬ n < 0) (hd : d ≠ 200) : 1 ≤ wrkL g m (d + 1) ∧ wrkL g m (d + 1) ≤ n := by
  obtain ⟨hv, hm, hdb, h1, h4, hp, _⟩ := wrkL_ok hn h0
  rw [wrkL_yes hv hm (by unfold dlOk; exact decide_eq_true (by omega))]
  have hp1 : meetP g m (d + 1) n = true := by
    unfold meetP at hp ⊢
    have := of_decide_eq_true hp
    exact decide_eq_true (by omega)
  unfold wrkC
  rcases wrk_spec (p := meetP g m (d + 1)) 4 1 (by omega) with ⟨_, b⟩ | ⟨a, _, _, e⟩
  · have := b n h1 (by omega)
    rw [hp1] at this
    cases this
  · refine ⟨a, ?_⟩
    apply Classical.byContradiction
    intro hlt
    have := e n h1 (by omega)
    rw [hp1] at this
    cases this
end Go.Proofs.Ythbajjkggfgogaa.Bs
