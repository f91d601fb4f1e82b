/-
  PLAIN MATHEMATICS of useless needs: graphs without them are the same in all that counts. No condition.
-/
import Derived.Test.YtoaakidapgbhhaaMath133
import Derived.Test.YtoaakidapgbhhaaK2
import Derived.Test.YtoaakidapgbhhaaMath14
namespace Go.Proofs.Ytoaakidapgbhhaa.Bs
theorem lev_reach {g : List T} (hv : valid g = true) {i j : Nat} (h : Reach g i j) : gi (levC g) j < gi (levC g) i := by
  induction h with
  | @one i j h =>
    have := (lev_law hv (Reach.one h).src).2.1 _ h
    rw [Int.toNat_natCast] at this
    omega
  | @via i k j h hr ih =>
    have := (lev_law hv (Reach.one h).src).2.1 _ h
    rw [Int.toNat_natCast] at this
    omega
theorem lev_lt {g : List T} (hv : valid g = true) {i : Nat} (hi : i < g.length) : gi (levC g) i < (g.length : Int) := stg_none hv (stg_few hv) i hi
theorem keep_dom {g : List T} (hv : valid g = true) {i : Nat} : ∀ x ∈ need g i, x ∈ keepL g i ∨ ∃ y ∈ keepL g i, Reach g y.toNat x.toNat := by
  have hF := valid_fine hv
  have key : ∀ d : Nat, ∀ x ∈ need g i, (g.length : Int) - gi (levC g) x.toNat ≤ d → (x ∈ keepL g i ∨ ∃ y ∈ keepL g i, Reach g y.toNat x.toNat) := by
    intro d
    induction d with
    | zero =>
      intro x hx h
      have := fine_need hF hx
      have := lev_lt hv (i := x.toNat) (by omega)
      omega
    | succ d ih =>
      intro x hx h
      by_cases hk : x ∈ keepL g i
      · exact .inl hk
      · right
        have : ∃ y ∈ need g i, Reach g y.toNat x.toNat := by
          apply Classical.byContradiction
          intro hn
          exact hk ((mem_keep hF).2 ⟨hx, fun y hy hr => hn ⟨y, hy, hr⟩⟩)
        obtain ⟨y, hy, hr⟩ := this
        have hl := lev_reach hv hr
        rcases ih y hy (by omega) with hyk | ⟨z, hz, hzr⟩
        · exact ⟨y, hyk, hr⟩
        · exact ⟨z, hz, hzr.trans hr⟩
  intro x hx
  have h0 := fine_need hF hx
  have h1 := (lev_law hv (i := x.toNat) (by omega)).1
  exact key g.length x hx (by omega)
theorem reach_sub {g g' : List T} (h : ∀ i, ∀ x ∈ need g' i, x ∈ need g i) {i j : Nat} (hr : Reach g' i j) : Reach g i j := by
  induction hr with
  | one a => exact .one (h _ _ a)
  | via a _ ih => exact .via (h _ _ a) ih
theorem wu_sub (g : List T) : ∀ i, ∀ x ∈ need (wuG g) i, x ∈ need g i := fun i x hx => by rw [need_wu] at hx; exact keep_sub hx
theorem reach_wu {g : List T} (hv : valid g = true) {i j : Nat} : Reach (wuG g) i j ↔ Reach g i j := by
  have hF := valid_fine hv
  refine ⟨reach_sub (wu_sub g), ?_⟩
  intro h
  have key := need_ind (valid_full hv) (fun i => ∀ j, Reach g i j → Reach (wuG g) i j) (fun i hi ih => by
    have one : ∀ x ∈ need g i, Reach (wuG g) i x.toNat := fun x hx => by
      have hx' := fine_need hF hx
      rcases keep_dom hv x hx with h | ⟨y, hy, hr⟩
      · exact .one (by rw [need_wu, show ((x.toNat : Nat) : Int) = x from by omega]; exact h)
      · have hy' := fine_need hF (keep_sub hy)
        exact .via (k := y.toNat) (by rw [need_wu, show ((y.toNat : Nat) : Int) = y from by omega]; exact hy) (ih y (keep_sub hy) x.toNat hr)
    intro j hr
    rcases Reach_iff.1 hr with h | ⟨k, hk, hr2⟩
    · have := one _ h
      rwa [Int.toNat_natCast] at this
    · have h1 := one _ hk
      have h2 := ih _ hk
      simp only [Int.toNat_natCast] at h1 h2
      exact h1.trans (h2 j hr2))
  exact key i h.src j h
theorem needs2_wu {g : List T} (hv : valid g = true) (z : Nat) : needs2 (wuG g) z = needs2 g z := by
  unfold needs2
  rw [wuG_len]
  apply pick_congr
  intro j _
  rw [Bool.eq_iff_iff, reachB_iff, reachB_iff, reach_wu hv]
/-- needs in the range, ascending, and all else as it was -/
theorem fine_sub {g g' : List T} (hF : fine g = true) (hl : g'.length = g.length) (h : ∀ i (hi : i < g.length) (hi' : i < g'.length), g'[i].time = g[i].time ∧ g'[i].pool = g[i].pool ∧ g'[i].units = g[i].units ∧ (∀ x ∈ g'[i].needs, x ∈ g[i].needs) ∧ asc g'[i].needs = true) : fine g' = true := by
  have h8 := fine_len hF
  unfold fine
  rw [Bool.and_eq_true, List.all_eq_true, decide_eq_true_eq]
  refine ⟨?_, by omega⟩
  intro t ht
  obtain ⟨i, hi, e⟩ := List.mem_iff_getElem.1 ht
  have hi' : i < g.length := by omega
  obtain ⟨a, b, c, d, ha⟩ := h i hi' hi
  have hm := (validT_iff _ _).1 (fine_mem hF (List.getElem_mem hi'))
  rw [hl]
  refine (validT_iff _ _).2 ?_
  rw [← e, a, b, c]
  refine ⟨hm.1, hm.2.1, hm.2.2.1, hm.2.2.2.1, hm.2.2.2.2.1, hm.2.2.2.2.2.1, ?_⟩
  rw [Bool.and_eq_true]
  refine ⟨?_, ha⟩
  rw [allIn_iff]
  intro x hx
  have h1 := d x hx
  have := fine_need hF (i := i) (x := x) (by rw [need_eq hi']; exact h1)
  omega
theorem full_sub {g g' : List T} (hg : Full g) (hl : g'.length = g.length) (h : ∀ i, ∀ x ∈ need g' i, x ∈ need g i) (h0 : ∀ i, ∀ x ∈ need g i, 0 ≤ x) : Full g' := by
  have hall : ∀ i : Nat, i < g.length → (i : Int) ∈ top g' := by
    refine need_ind hg (fun i => (i : Int) ∈ top g') ?_
    intro i hi ih
    apply Classical.byContradiction
    intro hn
    obtain ⟨x, hx, hxn⟩ := (stuck_iff (g := g') (i := i) (by omega)).1 hn
    have h1 := h i x hx
    have h2 := ih x h1
    rw [show ((x.toNat : Nat) : Int) = x from by have := h0 i x h1; omega] at h2
    exact hxn h2
  have h1 := pigeon _ _ hall
  have h2 := (top_dist g').le
  unfold Full
  omega
theorem valid_sub {g g' : List T} (hv : valid g = true) (hl : g'.length = g.length) (h : ∀ i (hi : i < g.length) (hi' : i < g'.length), g'[i].time = g[i].time ∧ g'[i].pool = g[i].pool ∧ g'[i].units = g[i].units ∧ (∀ x ∈ g'[i].needs, x ∈ g[i].needs) ∧ asc g'[i].needs = true) : valid g' = true := by
  have hF := valid_fine hv
  refine (valid_iff g').2 ⟨fine_sub hF hl h, full_sub (valid_full hv) hl ?_ (fun i x hx => (fine_need hF hx).1)⟩
  intro i x hx
  by_cases hi : i < g.length
  · rw [need_eq (by omega)] at hx
    rw [need_eq hi]
    exact (h i hi (by omega)).2.2.2.1 x hx
  · unfold need at hx
    rw [List.getElem?_eq_none (by omega)] at hx
    simp at hx
theorem valid_wu {g : List T} (hv : valid g = true) : valid (wuG g) = true := by
  refine valid_sub hv (wuG_len g) ?_
  intro i hi hi'
  rw [wuG_at hi' hi]
  refine ⟨rfl, rfl, rfl, ?_, keep_asc (valid_fine hv) i⟩
  intro x hx
  rw [← need_eq hi]
  exact keep_sub hx
theorem usl_wu {g : List T} (hv : valid g = true) (i : Nat) : uslL (wuG g) i = [] := by
  rw [List.eq_nil_iff_forall_not_mem]
  intro x hx
  obtain ⟨h1, y, hy, hr⟩ := (mem_usl (valid_fine (valid_wu hv))).1 hx
  rw [need_wu] at h1 hy
  exact ((mem_keep (valid_fine hv)).1 h1).2 y (keep_sub hy) ((reach_wu hv).1 hr)
theorem pair_wu {g : List T} (hv : valid g = true) : pairL (wuG g) = [] := by
  rw [pairL_yes (valid_wu hv)]
  unfold pairK
  rw [List.eq_nil_iff_forall_not_mem]
  intro p hp
  rw [List.mem_flatMap] at hp
  obtain ⟨i, _, h⟩ := hp
  rw [usl_wu hv] at h
  simp at h
/-- greatest ends: only the needs that are kept count -/
theorem max_keep {g : List T} (hv : valid g = true) {f τ : Nat → Int} (ht : ∀ i, i < g.length → 0 ≤ τ i) (h : ∀ i, i < g.length → f i = maxL ((need g i).map fun x => f x.toNat + τ x.toNat)) :
    ∀ i, i < g.length → f i = maxL ((keepL g i).map fun x => f x.toNat + τ x.toNat) := by
  have hF := valid_fine hv
  have hr : ∀ i j, Reach g i j → f j + τ j ≤ f i := by
    intro i j hr
    induction hr with
    | @one i j a =>
      have := le_maxL (List.mem_map_of_mem (f := fun x : Int => f x.toNat + τ x.toNat) a)
      rw [← h i (Reach.one a).src] at this
      simpa using this
    | @via i k j a b ih =>
      have := le_maxL (List.mem_map_of_mem (f := fun x : Int => f x.toNat + τ x.toNat) a)
      rw [← h i (Reach.one a).src] at this
      simp only [Int.toNat_natCast] at this
      have := ht k b.src
      omega
  intro i hi
  have h1 : maxL ((keepL g i).map fun x => f x.toNat + τ x.toNat) ≤ f i := by
    rw [h i hi]
    refine maxL_le (maxL_nonneg _) ?_
    intro y hy
    obtain ⟨x, hx, rfl⟩ := List.mem_map.1 hy
    exact le_maxL (List.mem_map_of_mem (f := fun x : Int => f x.toNat + τ x.toNat) (keep_sub hx))
  have h2 : f i ≤ maxL ((keepL g i).map fun x => f x.toNat + τ x.toNat) := by
    rw [h i hi]
    refine maxL_le (maxL_nonneg _) ?_
    intro y hy
    obtain ⟨x, hx, rfl⟩ := List.mem_map.1 hy
    rcases keep_dom hv x hx with hk | ⟨z, hz, hzr⟩
    · exact le_maxL (List.mem_map_of_mem (f := fun x : Int => f x.toNat + τ x.toNat) hk)
    · have a := hr _ _ hzr
      have b := le_maxL (List.mem_map_of_mem (f := fun x : Int => f x.toNat + τ x.toNat) hz)
      have c := ht z.toNat hzr.src
      omega
  omega
theorem heads_wu {g : List T} (hv : valid g = true) : headsC (wuG g) = headsC g := by
  have hF := valid_fine hv
  have hw := valid_wu hv
  have hm := headsK_mid hF _ (Nat.le_refl _)
  have hmw := headsK_mid (valid_fine hw) _ (Nat.le_refl _)
  have e1 : (headsC g).length = g.length := hm.len
  have e2 : (headsC (wuG g)).length = g.length := hmw.len.trans (wuG_len g)
  refine list_gi (by omega) ?_
  intro i hi
  refine head_unique (g := wuG g) (valid_full hw) (hmw.isHead (valid_full hw)) ?_ i (by rw [wuG_len]; omega)
  intro j hj
  rw [wuG_len] at hj
  rw [need_wu]
  have := max_keep hv (f := gi (headsC g)) (τ := timeOf g) (fun i hi => by have := fine_time hF hi; omega) (hm.isHead (valid_full hv)) j hj
  refine this.trans (maxL_congr _ _ _ ?_)
  intro x _
  rw [time_wu]
theorem lev_wu {g : List T} (hv : valid g = true) : levC (wuG g) = levC g := by
  have hF := valid_fine hv
  have hw := valid_wu hv
  have hu := valid_unit hw
  have e1 := levC_len hv
  have e2 := levC_len hw
  rw [wuG_len] at e2
  refine list_gi (by omega) ?_
  intro i hi
  refine head_unique (g := unitG (wuG g)) (valid_full hu) ((headsK_mid (valid_fine hu) _ (Nat.le_refl _)).isHead (valid_full hu)) (f' := gi (levC g)) ?_ i (by rw [unit_len, wuG_len]; omega)
  intro j hj
  rw [unit_len, wuG_len] at hj
  rw [need_unit, need_wu]
  have := max_keep hv (f := gi (levC g)) (τ := fun _ => 1) (fun i hi => by omega) (fun i hi => lev_max hv hi) j hj
  refine this.trans (maxL_congr _ _ _ ?_)
  intro x hx
  have := fine_need hF (keep_sub hx)
  rw [time_unit (by rw [wuG_len]; omega)]
theorem reach_lastU {g : List T} {i j : Nat} (h : Reach g i j) : ∃ u, (j : Int) ∈ need g u ∧ (u = i ∨ Reach g i u) := by
  induction h with
  | @one i j a => exact ⟨i, a, .inl rfl⟩
  | @via i k j a b ih =>
    obtain ⟨u, hu, e | r⟩ := ih
    · subst e; exact ⟨u, hu, .inr (.one a)⟩
    · exact ⟨u, hu, .inr (.via a r)⟩
theorem tails_wu {g : List T} (hv : valid g = true) : tailsC (wuG g) = tailsC g := by
  have hF := valid_fine hv
  have hw := valid_wu hv
  have hs := tailsC_spec hF (valid_full hv)
  have hsw := tailsC_spec (valid_fine hw) (valid_full hw)
  have ht := hs.toTailMid.isTail
  have e1 : (tailsC g).length = g.length := hs.len
  have e2 : (tailsC (wuG g)).length = g.length := hsw.len.trans (wuG_len g)
  have one : ∀ u k : Nat, k < g.length → (u : Int) ∈ need g k → gi (tailsC g) k ≤ gi (tailsC g) u := by
    intro u k hk h
    have hb := fine_need hF h
    have hu : u < g.length := by omega
    rw [ht u hu]
    have := le_maxL (List.mem_map_of_mem (f := gi (tailsC g)) (mem_usersOf.2 ⟨hk, h⟩))
    have := fine_time hF hu
    omega
  have hr : ∀ k u, Reach g k u → gi (tailsC g) k ≤ gi (tailsC g) u := by
    intro k u h
    induction h with
    | @one i j a => exact one j i (Reach.one a).src a
    | @via i k j a b ih =>
      have := one k i (Reach.one a).src a
      omega
  refine list_gi (by omega) ?_
  intro i hi
  refine tail_unique (g := wuG g) (valid_full hw) hsw.toTailMid.isTail ?_ i (by rw [wuG_len]; omega)
  intro j hj
  rw [wuG_len] at hj
  rw [time_wu, ht j hj]
  have h1 : maxL ((usersOf (wuG g) j).map (gi (tailsC g))) ≤ maxL ((usersOf g j).map (gi (tailsC g))) := by
    refine maxL_le (maxL_nonneg _) ?_
    intro y hy
    obtain ⟨u, hu, rfl⟩ := List.mem_map.1 hy
    rw [mem_usersOf, wuG_len, need_wu] at hu
    exact le_maxL (List.mem_map_of_mem (f := gi (tailsC g)) (mem_usersOf.2 ⟨hu.1, keep_sub hu.2⟩))
  have h2 : maxL ((usersOf g j).map (gi (tailsC g))) ≤ maxL ((usersOf (wuG g) j).map (gi (tailsC g))) := by
    refine maxL_le (maxL_nonneg _) ?_
    intro y hy
    obtain ⟨k, hk, rfl⟩ := List.mem_map.1 hy
    rw [mem_usersOf] at hk
    obtain ⟨u, hu, e⟩ := reach_lastU ((reach_wu hv).2 (.one hk.2))
    have hub : u < g.length := by have := (Reach.one hu).src; rwa [wuG_len] at this
    have a := le_maxL (List.mem_map_of_mem (f := gi (tailsC g)) (mem_usersOf.2 ⟨by rw [wuG_len]; exact hub, hu⟩))
    rcases e with e | r
    · rw [e] at a; exact a
    · have := hr _ _ ((reach_wu hv).1 r)
      omega
  omega
/-- without its first need a task of the graph without useless needs needs less -/
theorem less_wu {g : List T} (hv : valid g = true) {i : Nat} (hi : i < g.length) {x : Int} {r : List Int} (hk : keepL g i = x :: r) : (needsA (setN (wuG g) i r) (i : Int)).contains x = false := by
  have hF := valid_fine hv
  rw [Bool.eq_false_iff]
  intro hc
  rw [contains_iff'] at hc
  unfold needsA at hc
  split at hc
  · rw [Int.toNat_natCast] at hc
    unfold needs2 at hc
    obtain ⟨j, hj, hr, rfl⟩ := (mem_pick _ _ _).1 hc
    rw [reachB_iff] at hr
    have hxk : (j : Int) ∈ keepL g i := by rw [hk]; simp
    have hasc := asc_pair (keep_asc hF i)
    rw [hk, List.pairwise_cons] at hasc
    have hsub : ∀ k, ∀ y ∈ need (setN (wuG g) i r) k, y ∈ need g k := by
      intro k y hy
      by_cases hkl : k < (wuG g).length
      · rw [setN_need _ _ _ _ hkl] at hy
        split at hy
        · rename_i e
          rw [e]
          exact keep_sub (by rw [hk]; simp [hy])
        · exact wu_sub g k y hy
      · unfold need at hy
        rw [List.getElem?_eq_none (by rw [setN_len]; omega)] at hy
        simp at hy
    have hni : need (setN (wuG g) i r) i = r := by rw [setN_need _ _ _ _ (by rw [wuG_len]; exact hi), if_pos rfl]
    rcases Reach_iff.1 hr with h | ⟨k, hk2, hr2⟩
    · rw [hni] at h
      have := hasc.1 _ h
      omega
    · rw [hni] at hk2
      have h1 := reach_sub hsub hr2
      have h2 := ((mem_keep hF).1 hxk).2 (k : Int) (keep_sub (by rw [hk]; simp [hk2]))
      simp only [Int.toNat_natCast] at h2
      exact h2 h1
  · simp at hc
/-- a task needs at least as many as stages stand before it -/
theorem lev_count {g : List T} (hv : valid g = true) : ∀ i, i < g.length → gi (levC g) i ≤ ((needs2 g i).length : Int) := by
  have hF := valid_fine hv
  refine need_ind (valid_full hv) (fun i => gi (levC g) i ≤ ((needs2 g i).length : Int)) ?_
  intro i hi ih
  rcases (lev_law hv hi).2.2 with ⟨_, e⟩ | ⟨x, hx, e⟩
  · omega
  · have hxb := fine_need hF hx
    have h1 := ih x hx
    have hlt : (pick g.length (reachB g x.toNat)).length < (pick g.length (reachB g i)).length := by
      refine pick_lt _ ?_ ⟨x.toNat, by omega, ?_, ?_⟩
      · intro j hj h
        rw [reachB_iff] at h ⊢
        exact .via (k := x.toNat) (by rw [show ((x.toNat : Nat) : Int) = x from by omega]; exact hx) h
      · rw [reachB_iff]
        exact .one (by rw [show ((x.toNat : Nat) : Int) = x from by omega]; exact hx)
      · exact reach_self hv x.toNat
    simp only [needs2] at h1 ⊢
    omega
/-- what the law of useless needs says -/
theorem usl_law {g : List T} (hv : valid g = true) {i : Nat} {x : Int} (h : x ∈ uslL g i) : x ∈ need g i ∧ ∃ y ∈ need g i, (needs2 g y.toNat).contains x = true ∧ gi (levC g) x.toNat < gi (levC g) y.toNat := by
  have hF := valid_fine hv
  have h1 := usl_sub h
  have h2 : uslB g i x = true := (List.mem_filter.1 h).2
  unfold uslB at h2
  rw [List.any_eq_true] at h2
  obtain ⟨y, hy, hc⟩ := h2
  refine ⟨h1, y, hy, hc, ?_⟩
  rw [contains_iff'] at hc
  have hxb := fine_need hF h1
  rw [show x = ((x.toNat : Nat) : Int) from by omega, mem_needs2] at hc
  exact lev_reach hv hc.2
end Go.Proofs.Ytoaakidapgbhhaa.Bs
