/-
  PLAIN MATHEMATICS: the laws of plans. No condition.
-/
import Derived.Test.YtfholjgndpefdaaMath111
namespace Go.Proofs.Ytfholjgndpefdaa.Bs
theorem planL_st {g : List T} {m L : List Int} {wk : Int} (hL : L = planL g m wk) (h0 : ¬ L.length = 0) : stV g m wk L = true ∧ L.length = g.length ∧ 0 < g.length ∧ canV g m wk = true := by
  obtain ⟨hc, hS, hg⟩ := planL_can hL h0
  have h := plan_valid hc
  rw [← hS] at h
  exact ⟨h, clk_len (stV_iff.1 h).2.1, hg, hc⟩
theorem plan_zero {g : List T} {m L : List Int} {wk : Int} (hL : L = planL g m wk) (h0 : ¬ L.length = 0) : L.contains 0 = true := by
  obtain ⟨hst, hl, hg, hc⟩ := planL_st hL h0
  obtain ⟨_, hS, _⟩ := planL_can hL h0
  have hF := valid_fine (canV_iff.1 hc).1
  have he := end_ge (g := g) (S := planC g m wk) (i := 0) hg
  have hk := clk_at (plan_clk hc) 0
  have ht := fine_time hF hg
  have hne := (plan_end hc).2.2 0 (by omega)
  obtain ⟨x, hx⟩ := List.exists_mem_of_ne_nil _ hne
  obtain ⟨j, hj, h1, _, rfl⟩ := mem_runAt.1 hx
  have h2 := clk_at (plan_clk hc) j
  have e : giZ L j = 0 := by rw [hS]; omega
  rw [giZ_at (by omega)] at e
  rw [List.contains_iff_mem, ← e]
  exact List.getElem_mem _
theorem plan_busy {g : List T} {m L : List Int} {wk : Int} (hL : L = planL g m wk) (h0 : ¬ L.length = 0) : endT g m wk L = endC g L ∧ 0 ≤ endC g L ∧ endC g L ≤ sumT g ∧ ∀ t : Nat, (t : Int) < endC g L → 0 < (runL g m wk L t).length := by
  obtain ⟨hst, hl, hg, hc⟩ := planL_st hL h0
  obtain ⟨_, hS, _⟩ := planL_can hL h0
  obtain ⟨h1, _, h3⟩ := plan_end hc
  rw [← hS] at h1 h3
  refine ⟨endT_yes hst, end_nonneg _ _, h1, fun t ht => ?_⟩
  rw [runL_yes hst]
  exact List.length_pos_iff.2 (h3 t ht)
/-- one worker does one task after the other -/
theorem plan_one {g : List T} {m : List Int} {wk : Int} (h : canV g m wk = true) : endT g m 1 (planL g m 1) = sumT g := by
  have hc := can_one h
  have hst := planL_valid hc
  have hF := valid_fine (canV_iff.1 hc).1
  rw [endT_yes hst]
  have h1 := (plan_end hc).1
  have hle := least_le hst
  rw [planL_yes hc] at hst hle ⊢
  rw [leastL_yes hc] at hle
  have h2 := ceil_ge (by omega) (leastK_ge g m 1).2.1
  omega
theorem plan_twice {g : List T} {m L : List Int} {wk : Int} (hL : L = planL g m wk) (h0 : ¬ L.length = 0) : endT g m wk L ≤ endT g m 1 (planL g m 1) ∧ longC g ≤ endT g m wk L := by
  obtain ⟨hst, hl, hg, hc⟩ := planL_st hL h0
  obtain ⟨e1, _, e3, _⟩ := plan_busy hL h0
  rw [plan_one hc, e1]
  exact ⟨e3, long_le hst⟩
theorem adm_head {g : List T} {m : List Int} {wk : Int} {l : List Int} (h0 : 0 < l.length) (hok : admOk g m [] wk [] l[0] = true) : l[0] ∈ admC g m [] wk l := by
  have h1 : l[0] ∈ admK g m [] wk l 1 := by
    rw [admK_succ (k := 0) h0]
    unfold admS
    rw [admK_zero, hok]
    simp
  have h2 : ∀ d, 1 + d ≤ l.length → l[0] ∈ admK g m [] wk l (1 + d) := by
    intro d
    induction d with
    | zero => intro _; exact h1
    | succ d ih =>
      intro hd
      rw [show 1 + (d + 1) = 1 + d + 1 from rfl, admK_succ (show 1 + d < l.length by omega)]
      unfold admS
      split
      · exact List.mem_append_left _ (ih (by omega))
      · exact ih (by omega)
  have := h2 (l.length - 1) (by omega)
  rwa [show 1 + (l.length - 1) = l.length from by omega] at this
theorem plan_first {g : List T} {m L : List Int} {wk : Int} (hL : L = planL g m wk) (h0 : ¬ L.length = 0) : 0 < (ordL g []).length ∧ 0 ≤ giZ (ordL g []) 0 ∧ giZ (ordL g []) 0 < L.length ∧ giZ L (giZ (ordL g []) 0).toNat = 0 := by
  obtain ⟨hst, hl, hg, hc⟩ := planL_st hL h0
  obtain ⟨_, hS, _⟩ := planL_can hL h0
  obtain ⟨hv, hm, hw, _⟩ := canV_iff.1 hc
  have hF := valid_fine hv
  have hvd : vdone g [] = true := by rw [vdone_nil]; exact hv
  rw [ordL_yes hvd]
  obtain ⟨p1, p2⟩ := ord_ok (d := []) hF
  have hlen : 0 < (ordC g []).length := by
    rw [ord_len hF]
    apply Classical.byContradiction
    intro hn
    have := ready_none hvd (List.eq_nil_iff_length_eq_zero.2 (by omega))
    simp at this
    omega
  have hz : ∀ i, i < g.length → giZ (List.replicate g.length 200) i = 200 := fun i hi => by rw [giZ_at (by simpa using hi)]; simp
  have hd : planDone g (planK g m wk 0) ((0 : Nat) : Int) = [] := by
    rw [List.eq_nil_iff_forall_not_mem]
    intro x hx
    unfold planDone at hx
    obtain ⟨j, hj, h1, rfl⟩ := (mem_pick _ _ _).1 hx
    rw [decide_eq_true_eq] at h1
    have := hz j hj
    have := time_b hF j
    change giZ (List.replicate g.length 200) j + timeOf g j ≤ ((0 : Nat) : Int) at h1
    omega
  have ho : planOrd g (planK g m wk 0) ((0 : Nat) : Int) = ordC g [] := by
    refine (planOrd_eq hF p1 ?_).symm
    intro x
    rw [p2, planList_mem, hd]
    constructor
    · intro hx
      have := ready_in hx
      exact ⟨hx, hz _ (by omega)⟩
    · exact fun hx => hx.1
  have hr : runAt g (planK g m wk 0) ((0 : Nat) : Int) = [] := by
    rw [List.eq_nil_iff_forall_not_mem]
    intro x hx
    obtain ⟨j, hj, h1, _, rfl⟩ := mem_runAt.1 hx
    have := hz j hj
    change giZ (List.replicate g.length 200) j ≤ ((0 : Nat) : Int) at h1
    omega
  have hxm := List.getElem_mem (l := ordC g []) (n := 0) hlen
  have hxb := ready_in ((p2 _).1 hxm)
  have hn : (ordC g [])[0] ∈ planNext g m wk (planK g m wk 0) ((0 : Nat) : Int) := by
    unfold planNext
    rw [ho, hr]
    refine adm_head hlen ?_
    unfold admOk
    rw [Bool.and_eq_true, decide_eq_true_eq]
    refine ⟨by simp; omega, ?_⟩
    rw [show ([] : List Int) ++ ([] ++ [(ordC g [])[0]]) = [(ordC g [])[0]] from rfl]
    exact fits_one hF hm hxb
  rw [giZ_at hlen]
  refine ⟨hlen, hxb.1, by omega, ?_⟩
  obtain ⟨j, hj⟩ : ∃ j : Nat, (ordC g [])[0] = j := ⟨(ordC g [])[0].toNat, by omega⟩
  rw [hj] at hn hxb ⊢
  rw [Int.toNat_natCast]
  have h1 : giZ (planK g m wk (0 + 1)) j = _ := step_at (g := g) (m := m) (S := planK g m wk 0) (wk := wk) (now := 0) hF (PJ.all hc 0 (by omega)).pi.len j
  rw [if_pos hn] at h1
  have h2 : giZ (planC g m wk) j = _ := plan_keep hc (show 0 + 1 ≤ 200 by omega) (Nat.le_refl _) (show j < g.length by omega) (by omega)
  rw [hS, h2, h1]
  rfl
theorem leastK_more {g : List T} {m : List Int} {wk : Int} (hv : valid g = true) (hw : 1 ≤ wk) : leastK g m (wk + 1) 3 ≤ leastK g m wk 3 := by
  have hF := valid_fine hv
  have hs := sumT_b2 hF
  have h1 : (sumT g + (wk + 1) - 1) / (wk + 1) ≤ (sumT g + wk - 1) / wk := by
    refine ceil_le (by omega) ?_
    have h2 := ceil_ge (a := sumT g) (b := wk) (n := (sumT g + wk - 1) / wk) (by omega) (Int.le_refl _)
    have h3 : 0 ≤ (sumT g + wk - 1) / wk := Int.ediv_nonneg (by omega) (by omega)
    rw [Int.mul_add]
    omega
  have key : ∀ k, leastK g m (wk + 1) k ≤ leastK g m wk k := by
    intro k
    induction k with
    | zero => show max _ _ ≤ max _ _; omega
    | succ k ih => show max _ _ ≤ max _ _; omega
  exact key 3
end Go.Proofs.Ytfholjgndpefdaa.Bs
