/-
  PLAIN MATHEMATICS of orders: fewer needs leave more orders, useless needs do not matter; chains have a stage for each task. No condition.
-/
import Derived.Test.YtoaakidapgbhhaaMath134
import Derived.Test.YtoaakidapgbhhaaMath132
import Derived.Test.YtoaakidapgbhhaaK20
namespace Go.Proofs.Ytoaakidapgbhhaa.Bs
def closedL (g : List T) (l : List Int) : Prop := ∀ x ∈ l, 0 ≤ x ∧ ∀ y ∈ need g x.toNat, y ∈ l
theorem closed_reach {g : List T} {l : List Int} (h : closedL g l) {i j : Nat} (hr : Reach g i j) : (i : Int) ∈ l → (j : Int) ∈ l := by
  induction hr with
  | one a =>
    intro hi
    exact (h _ hi).2 _ (by rw [Int.toNat_natCast]; exact a)
  | via a _ ih =>
    intro hi
    exact ih ((h _ hi).2 _ (by rw [Int.toNat_natCast]; exact a))
theorem closed_snoc {g : List T} {l : List Int} (h : closedL g l) {k : Nat} (hk : okNext g l k = true) : closedL g (l ++ [(k : Int)]) := by
  have hk2 : ∀ y ∈ need g k, y ∈ l := by
    unfold okNext at hk
    rw [Bool.and_eq_true, List.all_eq_true] at hk
    exact fun y hy => contains_iff'.1 (hk.2 y hy)
  intro x hx
  rw [List.mem_append, List.mem_singleton] at hx
  rcases hx with hx | rfl
  · exact ⟨(h x hx).1, fun y hy => List.mem_append_left _ ((h x hx).2 y hy)⟩
  · exact ⟨by omega, fun y hy => List.mem_append_left _ (hk2 y (by rwa [Int.toNat_natCast] at hy))⟩
theorem okNext_wu {g : List T} (hv : valid g = true) {l : List Int} (h : closedL g l) (k : Nat) : okNext (wuG g) l k = okNext g l k := by
  have hF := valid_fine hv
  unfold okNext
  congr 1
  rw [Bool.eq_iff_iff, List.all_eq_true, List.all_eq_true, need_wu]
  constructor
  · intro ha x hx
    have hxb := fine_need hF hx
    rcases keep_dom hv x hx with hk | ⟨y, hy, hr⟩
    · exact ha x hk
    · have hyb := fine_need hF (keep_sub hy)
      have := contains_iff'.1 (ha y hy)
      rw [show y = ((y.toNat : Nat) : Int) from by omega] at this
      have := closed_reach h hr this
      rw [show ((x.toNat : Nat) : Int) = x from by omega] at this
      exact contains_iff'.2 this
  · intro ha x hx
    exact ha x (keep_sub hx)
theorem ords_wu {g : List T} (hv : valid g = true) : ∀ r l, closedL g l → ordsF (wuG g) r l = ordsF g r l := by
  intro r
  induction r with
  | zero => intro l _; rfl
  | succ r ih =>
    intro l hl
    rw [ordsF_succ, ordsF_succ, wuG_len]
    have : ∀ k, ordsK (wuG g) r l k = ordsK g r l k := by
      intro k
      induction k with
      | zero => rfl
      | succ k ihk =>
        rw [ordsK_succ, ordsK_succ, ihk, okNext_wu hv hl]
        cases hk : okNext g l k
        · rfl
        · simp only [if_true]
          rw [ih _ (closed_snoc hl hk)]
    exact this _
theorem cnt_wu {g : List T} (hv : valid g = true) : cntC (wuG g) = cntC g := by
  by_cases h5 : g.length ≤ 5
  · rw [cnt_yes hv h5, cnt_yes (valid_wu hv) (by rw [wuG_len]; exact h5), wuG_len, ords_wu hv _ _ (by intro x hx; simp at hx)]
  · rw [cnt_no2 h5, cnt_no2 (by rw [wuG_len]; exact h5)]
theorem ords_sub {g g' : List T} (hl : g'.length = g.length) (h : ∀ i, ∀ x ∈ need g' i, x ∈ need g i) : ∀ r l, (ordsF g r l).length ≤ (ordsF g' r l).length := by
  intro r
  induction r with
  | zero => intro l; exact Nat.le_refl _
  | succ r ih =>
    intro l
    rw [ordsF_succ, ordsF_succ, hl]
    have : ∀ k, (ordsK g r l k).length ≤ (ordsK g' r l k).length := by
      intro k
      induction k with
      | zero => exact Nat.le_refl _
      | succ k ihk =>
        rw [ordsK_succ, ordsK_succ, List.length_append, List.length_append]
        have hok : okNext g l k = true → okNext g' l k = true := by
          intro hk
          unfold okNext at hk ⊢
          rw [Bool.and_eq_true, List.all_eq_true] at hk ⊢
          exact ⟨hk.1, fun x hx => hk.2 x (h k x hx)⟩
        cases hk : okNext g l k
        · simp only [Bool.false_eq_true, if_false, List.length_nil]
          omega
        · rw [hok hk]
          simp only [if_true]
          have := ih (l ++ [(k : Int)])
          omega
    exact this _
theorem free_sub (g : List T) (k : Nat) : ∀ i, ∀ x ∈ need (setN g k []) i, x ∈ need g i := by
  intro i x hx
  by_cases hi : i < g.length
  · rw [setN_need _ _ _ _ hi] at hx
    split at hx
    · simp at hx
    · exact hx
  · unfold need at hx
    rw [List.getElem?_eq_none (by rw [setN_len]; omega)] at hx
    simp at hx
theorem setN_at {g : List T} {k : Nat} {x : List Int} {i : Nat} (hi : i < g.length) (hi' : i < (setN g k x).length) : (setN g k x)[i] = if i = k then { g[i] with needs := x } else g[i] := by
  have h1 := setN_get g k x i
  rw [List.getElem?_eq_getElem hi', List.getElem?_eq_getElem hi] at h1
  split at h1
  · rename_i e; rw [if_pos e]; simpa using h1
  · rename_i e; rw [if_neg e]; simpa using h1
theorem valid_free {g : List T} (hv : valid g = true) (k : Nat) : valid (setN g k []) = true := by
  refine valid_sub hv (setN_len _ _ _) ?_
  intro i hi hi'
  rw [setN_at hi hi']
  split
  · exact ⟨rfl, rfl, rfl, fun x hx => by simp at hx, rfl⟩
  · refine ⟨rfl, rfl, rfl, fun x hx => hx, ?_⟩
    rw [← need_eq hi]
    exact fine_asc (valid_fine hv) i
/-- what the law of fewer orders wants -/
theorem cnt_less {g : List T} {n : Int} (hn : n = cntC g) (h0 : ¬ n < 0) : valid g = true ∧ g.length ≤ 5 ∧ n ≤ cntC (setN g 0 []) ∧ cntC (wuG g) = n ∧ 1 ≤ n := by
  obtain ⟨hv, h5, hc, h1, _⟩ := cnt_law hn h0
  refine ⟨hv, h5, ?_, (cnt_wu hv).trans hn.symm, h1⟩
  rw [hc, cnt_yes (valid_free hv 0) (by rw [setN_len]; exact h5), setN_len]
  have := ords_sub (g := g) (g' := setN g 0 []) (setN_len _ _ _) (free_sub g 0) g.length []
  omega
theorem lev_top {g : List T} (hv : valid g = true) : ∀ n k (hk : k < (top g).length), k ≤ n → gi (levC g) (top g)[k].toNat ≤ (k : Int) := by
  have hF := valid_fine hv
  intro n
  induction n with
  | zero =>
    intro k hk h
    have hr := top_range hk
    rcases (lev_law hv (i := (top g)[k].toNat) (by omega)).2.2 with ⟨_, e⟩ | ⟨x, hx, e⟩
    · omega
    · have := top_behind g k hk x hx
      obtain rfl : k = 0 := by omega
      simp at this
  | succ n ih =>
    intro k hk h
    have hr := top_range hk
    rcases (lev_law hv (i := (top g)[k].toNat) (by omega)).2.2 with ⟨_, e⟩ | ⟨x, hx, e⟩
    · omega
    · have hm := top_behind g k hk x hx
      obtain ⟨q, hq, e2⟩ := List.mem_iff_getElem.1 hm
      rw [List.length_take] at hq
      rw [List.getElem_take] at e2
      have := ih q (by omega) (by omega)
      rw [e2] at this
      omega
/-- with a stage for each task the order goes stage by stage -/
theorem lev_all {g : List T} (hv : valid g = true) (hall : ∀ s, s < g.length → stgS g s ≠ []) : ∀ d k (hk : k < (top g).length), g.length ≤ k + 1 + d → gi (levC g) (top g)[k].toNat = (k : Int) := by
  have hfull : (top g).length = g.length := valid_full hv
  intro d
  induction d using Nat.strongRecOn with
  | ind d ih =>
    intro k hk hd
    obtain ⟨x, hx⟩ := List.exists_mem_of_ne_nil _ (hall k (by omega))
    unfold stgS at hx
    obtain ⟨i, hi, e, rfl⟩ := (mem_pick _ _ _).1 hx
    rw [beq_iff_eq] at e
    obtain ⟨j, hj, ej⟩ := Full.pos (valid_full hv) hi
    have hle := lev_top hv _ j hj (Nat.le_refl _)
    rw [ej, Int.toNat_natCast, e] at hle
    by_cases hjk : j = k
    · subst hjk
      rw [ej, Int.toNat_natCast, e]
    · have := ih (g.length - (j + 1)) (by omega) j hj (by omega)
      rw [ej, Int.toNat_natCast, e] at this
      omega
theorem chainB_iff {g : List T} {L : List Int} {k : Nat} : chainB g L k = true ↔ ∀ i, i < k → i = 0 ∨ giZ L (i - 1) ∈ need g (giZ L i).toNat := by
  unfold chainB
  rw [List.all_eq_true]
  constructor
  · intro h i hi
    have := h i (List.mem_range.2 hi)
    rw [Bool.or_eq_true, beq_iff_eq, contains_iff'] at this
    exact this
  · intro h i hi
    rw [Bool.or_eq_true, beq_iff_eq, contains_iff']
    exact h i (List.mem_range.1 hi)
theorem stages_chain {g : List T} (hv : valid g = true) (h5 : g.length ≤ 5) : ((stgL g).length = g.length) ↔ cntC g = 1 := by
  have hfull : (top g).length = g.length := valid_full hv
  have hF := valid_fine hv
  obtain ⟨k, hk, hne, hke, hL⟩ := stg_end hv
  have hlen : (stgL g).length = k := by rw [hL]; simp [stgK]
  rw [hlen, cnt_yes hv h5]
  have hc := chain_law hv
  constructor
  · intro e
    subst e
    have : chainB g (top g) g.length = true := by
      rw [chainB_iff]
      intro i hi
      by_cases h0 : i = 0
      · exact .inl h0
      · right
        rw [giZ_at (by omega), giZ_at (by omega)]
        have hi' : i < (top g).length := by omega
        have hr := top_range hi'
        have hl := lev_all hv hne _ i hi' (show g.length ≤ i + 1 + g.length by omega)
        rcases (lev_law hv (i := (top g)[i].toNat) (by omega)).2.2 with ⟨_, e⟩ | ⟨x, hx, e⟩
        · omega
        · have hm := top_behind g i hi' x hx
          obtain ⟨q, hq, e2⟩ := List.mem_iff_getElem.1 hm
          rw [List.length_take] at hq
          rw [List.getElem_take] at e2
          have hl2 := lev_all hv hne _ q (by omega) (show g.length ≤ q + 1 + g.length by omega)
          rw [e2] at hl2
          have : q = i - 1 := by omega
          subst this
          rw [e2]
          exact hx
    have := hc.2 this
    omega
  · intro e
    have h1 := hc.1 (by omega)
    rw [chainB_iff] at h1
    apply Classical.byContradiction
    intro hkn
    have hpos : ∀ i (hi : i < (top g).length), (i : Int) ≤ gi (levC g) (top g)[i].toNat := by
      intro i
      induction i with
      | zero =>
        intro hi
        have hr := top_range hi
        have := (lev_law hv (i := (top g)[0].toNat) (by omega)).1
        omega
      | succ i ih =>
        intro hi
        have hr := top_range hi
        have h2 := (h1 (i + 1) (by omega)).resolve_left (by omega)
        rw [giZ_at hi, Nat.add_sub_cancel, giZ_at (by omega)] at h2
        have h3 := (lev_law hv (i := (top g)[i + 1].toNat) (by omega)).2.1 _ h2
        have h4 := ih (by omega)
        omega
    have h2 := hpos k (by omega)
    have hr := top_range (show k < (top g).length by omega)
    have := stg_none hv hke (top g)[k].toNat (by omega)
    omega
end Go.Proofs.Ytoaakidapgbhhaa.Bs
