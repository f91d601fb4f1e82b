/-
  MERGED TEXTS: Math110 Math111 Math113.
-/
import Derived.Test.YtihgakbopkaemaaK16
import Derived.Test.YtihgakbopkaemaaMath45
namespace Go.Proofs.Ytihgakbopkaemaa.Bs
theorem used_mid {g : List T} (hF : fine g = true) (r a : List Int) (y x p : Int) : usedC g (r ++ (a ++ [x])) p ≤ usedC g (r ++ ((a ++ [y]) ++ [x])) p := by
  simp only [usedC_append]
  have h1 := unitF_nonneg hF p y
  have h2 := usedC_one g y p
  omega
theorem fits_mid {g : List T} {m : List Int} (hF : fine g = true) {r a : List Int} {y x : Int} (h : fitsC g m (r ++ (a ++ [x])) = false) : fitsC g m (r ++ ((a ++ [y]) ++ [x])) = false := by
  cases hc : fitsC g m (r ++ ((a ++ [y]) ++ [x]))
  · rfl
  · exfalso
    rw [fitsC_iff] at hc
    have h0 := used_mid hF r a y x 0
    have h1 := used_mid hF r a y x 1
    have h2 := used_mid hF r a y x 2
    have : fitsC g m (r ++ (a ++ [x])) = true := by rw [fitsC_iff]; omega
    rw [this] at h
    cases h
theorem adm_left {g : List T} {m r : List Int} {wk : Int} {l : List Int} (hF : fine g = true) : ∀ k, k ≤ l.length → ∀ x ∈ l.take k, x ∉ admK g m r wk l k → wk ≤ (r.length : Int) + ((admK g m r wk l k).length : Int) ∨ fitsC g m (r ++ (admK g m r wk l k ++ [x])) = false := by
  intro k
  induction k with
  | zero => intro _ x hx; simp at hx
  | succ k ih =>
    intro hk x hx hn
    have hlt : k < l.length := by omega
    have hs := admK_succ (g := g) (m := m) (r := r) (wk := wk) hlt
    unfold admS at hs
    cases ho : admOk g m r wk (admK g m r wk l k) l[k]
    · rw [ho, if_neg (by simp)] at hs
      rw [hs] at hn ⊢
      rcases (take_succ_mem hlt x).1 hx with h | h
      · exact ih (by omega) x h hn
      · subst h
        unfold admOk at ho
        rw [Bool.and_eq_false_iff, decide_eq_false_iff_not] at ho
        rcases ho with h | h
        · left; omega
        · right; exact h
    · rw [ho, if_pos rfl] at hs
      rw [hs] at hn ⊢
      rw [List.mem_append, List.mem_singleton, not_or] at hn
      rcases (take_succ_mem hlt x).1 hx with h | h
      · rcases ih (by omega) x h hn.1 with e | e
        · left; rw [List.length_append]; simp; omega
        · right; exact fits_mid hF e
      · exact absurd h hn.2
theorem adm_none {g : List T} {m r l : List Int} {wk : Int} (h : ∀ x ∈ l, admOk g m r wk [] x = false) : admC g m r wk l = [] := by
  have : ∀ k, k ≤ l.length → admK g m r wk l k = [] := by
    intro k
    induction k with
    | zero => intro _; rfl
    | succ k ih =>
      intro hk
      have hlt : k < l.length := by omega
      rw [admK_no hlt (by rw [ih (by omega)]; exact h _ (List.getElem_mem hlt))]
      exact ih (by omega)
  exact this _ (Nat.le_refl _)
theorem used_perm {g : List T} {r r' : List Int} (h : r.Perm r') (p : Int) : usedC g r p = usedC g r' p := sumZ_perm (h.map _)
theorem fits_perm {g : List T} {m r r' : List Int} (h : r.Perm r') : fitsC g m r = fitsC g m r' := by
  rw [Bool.eq_iff_iff, fitsC_iff, fitsC_iff, used_perm h, used_perm h, used_perm h]
theorem next_in {g : List T} {m S : List Int} {wk now : Int} (hF : fine g = true) : ∀ x ∈ planNext g m wk S now, 0 ≤ x ∧ x < g.length := fun _ hx => planList_in (planNext_mem hF hx)
/-- who begins, and who began before -/
theorem step_at {g : List T} {m S : List Int} {wk : Int} {now : Nat} (hF : fine g = true) (hl : S.length = g.length) (i : Nat) : giZ (planStep g m wk S now) i = if (i : Int) ∈ planNext g m wk S now then (now : Int) else giZ S i := by
  have hin := next_in (g := g) (m := m) (S := S) (wk := wk) (now := (now : Int)) hF
  exact giZ_setAll (now : Int) (planNext g m wk S now) S hl (by rw [← hl] at hin ⊢; exact hin) i
theorem next_free {g : List T} {m S : List Int} {wk now : Int} (hF : fine g = true) {i : Nat} (h : (i : Int) ∈ planNext g m wk S now) : giZ S i = 200 := by
  have := (planList_mem.1 (planNext_mem hF h)).2
  rwa [Int.toNat_natCast] at this
theorem next_nodup {g : List T} {m S : List Int} {wk : Int} {now : Nat} (h : PI g m S now) (hn : now < 200) (hF : fine g = true) : (planNext g m wk S now).Nodup := by
  obtain ⟨o1, o2⟩ := planOrd_ok hF S (now : Int)
  exact adm_nodup (idle_of o1 (fun x hx => h.apart hn x ((o2 x).1 hx)) _ (Nat.le_refl _)) _ (Nat.le_refl _)
theorem both_nodup {g : List T} {m S : List Int} {wk : Int} {now : Nat} (h : PI g m S now) (hn : now < 200) (hF : fine g = true) : (runAt g S now ++ planNext g m wk S now).Nodup := by
  rw [List.nodup_append]
  refine ⟨pick_nodup _ _, next_nodup h hn hF, ?_⟩
  intro a ha b hb e
  subst e
  exact h.apart hn a (planNext_mem hF hb) ha
/-- between two ends nobody is admitted -/
theorem plan_quiet {g : List T} {m S : List Int} {wk : Int} {t u : Nat} (hF : fine g = true) (h : PI g m S t) (htu : t < u) (hu : u < 200)
    (hno : ∀ i, i < g.length → giZ (planStep g m wk S t) i ≠ 200 → giZ (planStep g m wk S t) i + timeOf g i ≤ t ∨ (u : Int) < giZ (planStep g m wk S t) i + timeOf g i) :
    planNext g m wk (planStep g m wk S t) u = [] := by
  have hst := fun i => step_at (g := g) (m := m) (S := S) (wk := wk) (now := t) hF h.len i
  obtain ⟨S', hS'⟩ : ∃ S', S' = planStep g m wk S t := ⟨_, rfl⟩
  obtain ⟨N, hN⟩ : ∃ N, N = planNext g m wk S t := ⟨_, rfl⟩
  rw [← hS'] at hst hno ⊢
  rw [← hN] at hst
  have hfree : ∀ i : Nat, (i : Int) ∈ N → giZ S i = 200 := fun i hi => next_free hF (by rw [← hN]; exact hi)
  have hNin : ∀ x ∈ N, 0 ≤ x ∧ x < g.length := fun x hx => next_in hF x (by rw [← hN]; exact hx)
  have hdone : planDone g S' u = planDone g S t := by
    unfold planDone
    apply pick_congr
    intro i hi
    have ht := fine_time hF hi
    have h1 := hst i
    have h2 := h.st i hi
    have h3 := hno i hi
    rw [decide_eq_decide]
    by_cases hm : (i : Int) ∈ N
    · rw [if_pos hm] at h1
      have := hfree i hm
      rw [h1] at h3 ⊢
      have := h3 (by omega)
      omega
    · rw [if_neg hm] at h1
      rw [h1] at h3 ⊢
      by_cases e : giZ S i = 200
      · omega
      · have := h3 e; omega
  have hrun : (runAt g S' u).Perm (runAt g S t ++ N) := by
    rw [List.perm_ext_iff_of_nodup (show (runAt g S' (u : Int)).Nodup from pick_nodup _ _) (show (runAt g S t ++ N).Nodup from by rw [hN]; exact both_nodup h (by omega) hF)]
    intro x
    rw [List.mem_append, mem_runAt, mem_runAt]
    constructor
    · rintro ⟨j, hj, a, b, rfl⟩
      have h1 := hst j
      by_cases hm : (j : Int) ∈ N
      · exact .inr hm
      · left
        rw [if_neg hm] at h1
        have h3 := hno j hj
        have h2 := h.st j hj
        rw [h1] at h3 a b
        by_cases e : giZ S j = 200
        · omega
        · have := h3 e
          exact ⟨j, hj, by omega, by omega, rfl⟩
    · rintro (⟨j, hj, a, b, rfl⟩ | hx)
      · have h1 := hst j
        have hm : (j : Int) ∉ N := fun hm => by have := hfree j hm; omega
        rw [if_neg hm] at h1
        have h3 := hno j hj
        rw [h1] at h3
        refine ⟨j, hj, by rw [h1]; omega, ?_, rfl⟩
        rw [h1]
        have := h3 (by omega)
        omega
      · have hb := hNin x hx
        obtain ⟨j, rfl⟩ : ∃ j : Nat, x = j := ⟨x.toNat, by omega⟩
        have h1 := hst j
        rw [if_pos hx] at h1
        have h3 := hno j (by omega)
        rw [h1] at h3
        have := h3 (by omega)
        have ht := fine_time hF (i := j) (by omega)
        refine ⟨j, by omega, by rw [h1]; omega, by rw [h1]; omega, rfl⟩
  obtain ⟨o1, o2⟩ := planOrd_ok hF S' (u : Int)
  obtain ⟨p1, p2⟩ := planOrd_ok hF S (t : Int)
  refine adm_none ?_
  intro x hx
  have hx1 := (o2 x).1 hx
  have hxb := planList_in hx1
  obtain ⟨hx2, hx3⟩ := planList_mem.1 hx1
  rw [hdone] at hx2
  obtain ⟨j, rfl⟩ : ∃ j : Nat, x = j := ⟨x.toNat, by omega⟩
  rw [Int.toNat_natCast] at hx3
  have h1 := hst j
  have hm : (j : Int) ∉ N := fun hm => by rw [if_pos hm] at h1; omega
  rw [if_neg hm] at h1
  have hxl : (j : Int) ∈ planOrd g S t := (p2 _).2 (planList_mem.2 ⟨hx2, by rw [Int.toNat_natCast]; omega⟩)
  have hk := adm_left (g := g) (m := m) (r := runAt g S t) (wk := wk) (l := planOrd g S t) hF _ (Nat.le_refl _) (j : Int) (by rw [List.take_length]; exact hxl) (by rw [hN] at hm; exact hm)
  have eN : admK g m (runAt g S t) wk (planOrd g S t) (planOrd g S t).length = N := hN.symm
  rw [eN] at hk
  have hlen := hrun.length_eq
  rw [List.length_append] at hlen
  unfold admOk
  rw [Bool.and_eq_false_iff, decide_eq_false_iff_not]
  rcases hk with e | e
  · left
    simp only [List.length_nil]
    omega
  · right
    rw [List.nil_append, fits_perm (hrun.append_right [(j : Int)]), List.append_assoc]
    exact e
/-- what a plan is like before a time, all of it -/
structure PJ (g : List T) (m : List Int) (wk : Int) (S : List Int) (now : Nat) : Prop where
  pi : PI g m S now
  nd : ∀ i, i < g.length → giZ S i ≠ 200 → ∀ x ∈ need g i, giZ S x.toNat + timeOf g x.toNat ≤ giZ S i
  cnt : now < 200 → ((runAt g S now).length : Int) ≤ wk
  ft : ∀ i, i < g.length → giZ S i ≠ 200 → fitN g m wk (runAt g S (giZ S i)) = true
theorem PJ.start {g : List T} {m : List Int} {wk : Int} (hm : roomOk m = true) (hw : 1 ≤ wk) : PJ g m wk (List.replicate g.length 200) 0 := by
  have hz : ∀ i, i < g.length → giZ (List.replicate g.length 200) i = 200 := fun i hi => by rw [giZ_at (by simpa using hi)]; simp
  have he : runAt g (List.replicate g.length 200) ((0 : Nat) : Int) = [] := by
    rw [List.eq_nil_iff_forall_not_mem]
    intro x hx
    obtain ⟨j, hj, h1, _, rfl⟩ := mem_runAt.1 hx
    have := hz j hj
    omega
  refine ⟨PI.start hm, fun i hi h => absurd (hz i hi) h, fun _ => ?_, fun i hi h => absurd (hz i hi) h⟩
  rw [he]
  simp
  omega
theorem run_sub {g : List T} {m S : List Int} {wk : Int} {t : Nat} {u : Int} (hF : fine g = true) (h : PI g m S t) (hu : (t : Int) ≤ u) (hu2 : u < 200) : ∀ x ∈ runAt g (planStep g m wk S t) u, x ∈ runAt g S t ++ planNext g m wk S t := by
  intro x hx
  obtain ⟨j, hj, h1, h2, rfl⟩ := mem_runAt.1 hx
  rw [List.mem_append]
  have hg := step_at (g := g) (m := m) (S := S) (wk := wk) (now := t) hF h.len j
  by_cases hm : (j : Int) ∈ planNext g m wk S t
  · exact .inr hm
  · rw [if_neg hm] at hg
    left
    rw [mem_runAt]
    rcases h.st j hj with e | e
    · omega
    · exact ⟨j, hj, by omega, by omega, rfl⟩
theorem fitN_iff {g : List T} {m R : List Int} {wk : Int} : fitN g m wk R = true ↔ (R.length : Int) ≤ wk ∧ fitsC g m R = true := by
  unfold fitN
  rw [Bool.and_eq_true, decide_eq_true_eq]
theorem run_fit {g : List T} {m S : List Int} {wk : Int} {t : Nat} {u : Int} (hF : fine g = true) (h : PJ g m wk S t) (hu : (t : Int) ≤ u) (hu2 : u < 200) : fitN g m wk (runAt g (planStep g m wk S t) u) = true := by
  have hs := run_sub (m := m) (wk := wk) hF h.pi hu hu2
  have hnd := both_nodup (wk := wk) h.pi (by omega) hF
  rw [fitN_iff]
  constructor
  · have h1 := nodup_le (show (runAt g (planStep g m wk S t) u).Nodup from pick_nodup _ _) hs
    have h2 := adm_count (g := g) (m := m) (r := runAt g S t) (wk := wk) (l := planOrd g S t) _ (Nat.le_refl _)
    have h3 := h.cnt (by omega)
    rw [List.length_append] at h1
    have e : (planNext g m wk S t) = admK g m (runAt g S t) wk (planOrd g S t) (planOrd g S t).length := rfl
    rw [← e] at h2
    rcases h2 with h2 | h2
    · rw [h2] at h1; simp only [List.length_nil] at h1; omega
    · omega
  · exact fits_sub hF (pick_nodup _ _) hnd hs (adm_fits (h.pi.fit (by omega)) _ (Nat.le_refl _))
theorem PJ.step {g : List T} {m S : List Int} {wk : Int} {now : Nat} (h : PJ g m wk S now) (hn : now < 200) (hv : valid g = true) : PJ g m wk (planStep g m wk S now) (now + 1) := by
  have hF := valid_fine hv
  have hst := fun i => step_at (g := g) (m := m) (S := S) (wk := wk) (now := now) hF h.pi.len i
  refine ⟨h.pi.step hn hv, ?_, ?_, ?_⟩
  · intro i hi hb x hx
    have hxb := fine_need hF hx
    obtain ⟨z, rfl⟩ : ∃ z : Nat, x = z := ⟨x.toNat, by omega⟩
    rw [Int.toNat_natCast]
    have h1 := hst i
    have h2 := hst z
    have hfx : (z : Int) ∈ planNext g m wk S now → giZ S z = 200 := next_free hF
    have htx := time_b hF z
    by_cases hm : (i : Int) ∈ planNext g m wk S now
    · have hr := (planList_mem.1 (planNext_mem hF hm)).1
      have hd := (mem_ready.1 hr).2.2 z hx
      unfold planDone at hd
      obtain ⟨hj, hj2⟩ := (mem_pick_nat _ _ _).1 hd
      rw [decide_eq_true_eq] at hj2
      rw [if_pos hm] at h1
      rw [if_neg (fun e => by have := hfx e; omega)] at h2
      omega
    · rw [if_neg hm] at h1
      have h3 := h.nd i hi (by omega) z hx
      rw [Int.toNat_natCast] at h3
      have h4 := h.pi.st i hi
      rw [if_neg (fun e => by have := hfx e; have := fine_time hF hi; omega)] at h2
      omega
  · intro hn1
    exact (fitN_iff.1 (run_fit hF h (show (now : Int) ≤ ((now + 1 : Nat) : Int) by omega) (by omega))).1
  · intro i hi hb
    have h1 := hst i
    by_cases hm : (i : Int) ∈ planNext g m wk S now
    · rw [if_pos hm] at h1
      rw [h1]
      exact run_fit hF h (Int.le_refl _) (by omega)
    · rw [if_neg hm] at h1
      have h4 := h.pi.st i hi
      have e : runAt g (planStep g m wk S now) (giZ S i) = runAt g S (giZ S i) := by
        unfold runAt
        apply pick_congr
        intro j hj
        unfold runAp
        have h5 := hst j
        have h6 : (j : Int) ∈ planNext g m wk S now → giZ S j = 200 := next_free hF
        by_cases hm2 : (j : Int) ∈ planNext g m wk S now
        · rw [if_pos hm2] at h5
          have := h6 hm2
          rw [decide_eq_false (show ¬ giZ (planStep g m wk S now) j ≤ giZ S i by omega), decide_eq_false (show ¬ giZ S j ≤ giZ S i by omega)]
          rfl
        · rw [if_neg hm2] at h5
          rw [h5]
      rw [h1, e]
      exact h.ft i hi (by omega)
theorem PJ.all {g : List T} {m : List Int} {wk : Int} (h : canV g m wk = true) : ∀ k, k ≤ 200 → PJ g m wk (planK g m wk k) k := by
  obtain ⟨hv, hm, hw, _⟩ := canV_iff.1 h
  intro k
  induction k with
  | zero => intro _; exact PJ.start hm hw
  | succ k ih => intro hk; exact (ih (by omega)).step (by omega) hv
theorem mem_planDone {g : List T} {S : List Int} {now : Int} {i : Nat} : (i : Int) ∈ planDone g S now ↔ i < g.length ∧ giZ S i + timeOf g i ≤ now := by
  unfold planDone
  rw [mem_pick_nat, decide_eq_true_eq]
theorem PJ.vdone {g : List T} {m S : List Int} {wk : Int} {now : Nat} (h : PJ g m wk S now) (hn : now < 200) (hv : valid g = true) : vdone g (planDone g S now) = true := by
  have hF := valid_fine hv
  rw [vdone_iff]
  refine ⟨hv, inG_pick g _, ?_⟩
  intro x hx y hy
  unfold planDone at hx
  obtain ⟨j, hj, hj2, rfl⟩ := (mem_pick _ _ _).1 hx
  rw [decide_eq_true_eq] at hj2
  rw [Int.toNat_natCast] at hy
  have hyb := fine_need hF hy
  have ht := time_b hF j
  have := h.nd j hj (by omega) y hy
  obtain ⟨z, rfl⟩ : ∃ z : Nat, y = z := ⟨y.toNat, by omega⟩
  rw [Int.toNat_natCast] at this
  exact mem_planDone.2 ⟨by omega, by omega⟩
/-- who is ready and alone is admitted: nothing runs and nobody begins only when all is done -/
theorem plan_idle {g : List T} {m S : List Int} {wk : Int} {t : Nat} (hv : valid g = true) (hm : roomOk m = true) (hw : 1 ≤ wk) (h : PJ g m wk S t) (ht : t < 200) (hr : runAt g S t = []) (hn : planNext g m wk S t = []) : ∀ i, i < g.length → giZ S i + timeOf g i ≤ t := by
  have hF := valid_fine hv
  obtain ⟨p1, p2⟩ := planOrd_ok hF S (t : Int)
  have hnone : ∀ x, x ∉ planOrd g S t := by
    intro x hx
    have hxb := planList_in ((p2 x).1 hx)
    have hk := adm_left (g := g) (m := m) (r := runAt g S t) (wk := wk) (l := planOrd g S t) hF _ (Nat.le_refl _) x (by rw [List.take_length]; exact hx) (by rw [show admK g m (runAt g S t) wk (planOrd g S t) (planOrd g S t).length = planNext g m wk S t from rfl, hn]; simp)
    rw [show admK g m (runAt g S t) wk (planOrd g S t) (planOrd g S t).length = planNext g m wk S t from rfl, hn, hr] at hk
    rcases hk with e | e
    · simp at e; omega
    · rw [show ([] : List Int) ++ ([] ++ [x]) = [x] from rfl, fits_one hF hm hxb] at e; cases e
  have h0 : readyC g (planDone g S t) = [] := by
    rw [List.eq_nil_iff_forall_not_mem]
    intro x hx
    have hxb := ready_in hx
    obtain ⟨j, rfl⟩ : ∃ j : Nat, x = j := ⟨x.toNat, by omega⟩
    have h1 := (mem_ready.1 hx).2.1
    by_cases e : giZ S j = 200
    · exact hnone _ ((p2 _).2 (planList_mem.2 ⟨hx, by rw [Int.toNat_natCast]; exact e⟩))
    · have h2 := h.pi.st j (by omega)
      rw [mem_planDone] at h1
      have : (j : Int) ∈ runAt g S t := mem_runAt.2 ⟨j, by omega, by omega, by omega, rfl⟩
      rw [hr] at this
      cases this
  have hlen := ready_none (h.vdone ht hv) h0
  have hd : Dist g.length (planDone g S t) := ⟨pick_nodup _ _, fun x hx => by unfold planDone at hx; obtain ⟨j, hj, _, rfl⟩ := (mem_pick _ _ _).1 hx; omega⟩
  intro i hi
  exact (mem_planDone.1 (hd.full hlen i hi)).2
end Go.Proofs.Ytihgakbopkaemaa.Bs
namespace Go.Proofs.Ytihgakbopkaemaa.Bs
theorem list_giZ {l l' : List Int} (h : l.length = l'.length) (hg : ∀ i, i < l.length → giZ l i = giZ l' i) : l = l' := by
  apply List.ext_getElem h
  intro i h1 h2
  have := hg i h1
  rwa [giZ_at h1, giZ_at h2] at this
theorem plan_or {g : List T} {m : List Int} {wk : Int} (h : canV g m wk = true) {k : Nat} {i : Nat} : ∀ d, k + d ≤ 200 → giZ (planK g m wk (k + d)) i = giZ (planK g m wk k) i ∨ (giZ (planK g m wk k) i = 200 ∧ (k : Int) ≤ giZ (planK g m wk (k + d)) i) := by
  have hF := valid_fine (canV_iff.1 h).1
  intro d
  induction d with
  | zero => intro _; exact .inl rfl
  | succ d ih =>
    intro hd
    have h1 := ih (by omega)
    have hj := PJ.all h (k + d) (by omega)
    have h2 : giZ (planK g m wk (k + d + 1)) i = _ := step_at (g := g) (m := m) (S := planK g m wk (k + d)) (wk := wk) (now := k + d) hF hj.pi.len i
    rw [show k + (d + 1) = k + d + 1 from rfl, h2]
    by_cases hm : (i : Int) ∈ planNext g m wk (planK g m wk (k + d)) ((k + d : Nat) : Int)
    · rw [if_pos hm]
      have := next_free hF hm
      right
      rcases h1 with e | e
      · exact ⟨by omega, by omega⟩
      · exact ⟨e.1, by omega⟩
    · rw [if_neg hm]
      exact h1
theorem plan_keep {g : List T} {m : List Int} {wk : Int} (h : canV g m wk = true) {k k' : Nat} (hk : k ≤ k') (hk' : k' ≤ 200) {i : Nat} (_hi : i < g.length) (hb : giZ (planK g m wk k) i ≠ 200) : giZ (planK g m wk k') i = giZ (planK g m wk k) i := by
  have := plan_or h (k := k) (i := i) (k' - k) (by omega)
  rw [show k + (k' - k) = k' from by omega] at this
  rcases this with e | e
  · exact e
  · exact absurd e.1 hb
/-- all is done at a time -/
def allAt (g : List T) (m : List Int) (wk : Int) (t : Nat) : Prop := ∀ i, i < g.length → giZ (planK g m wk t) i + timeOf g i ≤ t
theorem run_plan {g : List T} {m : List Int} {wk : Int} (h : canV g m wk = true) {t : Nat} (ht : t < 200) (hn : ¬ allAt g m wk t) : runAt g (planC g m wk) t ≠ [] := by
  obtain ⟨hv, hm, hw, _⟩ := canV_iff.1 h
  have hF := valid_fine hv
  have hj := PJ.all h t (by omega)
  intro he
  have hin : ∀ i, i < g.length → giZ (planC g m wk) i ≤ t → (t : Int) < giZ (planC g m wk) i + timeOf g i → False := by
    intro i hi h1 h2
    have : (i : Int) ∈ runAt g (planC g m wk) t := mem_runAt.2 ⟨i, hi, h1, h2, rfl⟩
    rw [he] at this
    cases this
  apply hn
  refine plan_idle hv hm hw hj ht ?_ ?_
  · rw [List.eq_nil_iff_forall_not_mem]
    intro x hx
    obtain ⟨j, hjl, h1, h2, rfl⟩ := mem_runAt.1 hx
    have e : giZ (planC g m wk) j = _ := plan_keep h (show t ≤ 200 by omega) (Nat.le_refl _) hjl (by omega)
    exact hin j hjl (by omega) (by omega)
  · rw [List.eq_nil_iff_forall_not_mem]
    intro x hx
    have hxb := next_in hF x hx
    obtain ⟨j, rfl⟩ : ∃ j : Nat, x = j := ⟨x.toNat, by omega⟩
    have h2 : giZ (planK g m wk (t + 1)) j = _ := step_at (g := g) (m := m) (S := planK g m wk t) (wk := wk) (now := t) hF hj.pi.len j
    rw [if_pos hx] at h2
    have e : giZ (planC g m wk) j = _ := plan_keep h (show t + 1 ≤ 200 by omega) (Nat.le_refl _) (show j < g.length by omega) (by omega)
    have := fine_time hF (i := j) (by omega)
    exact hin j (by omega) (by omega) (by omega)
theorem plan_clk {g : List T} {m : List Int} {wk : Int} (h : canV g m wk = true) : clkV g (planC g m wk) = true := by
  have hj : PJ g m wk (planC g m wk) 200 := PJ.all h 200 (Nat.le_refl _)
  rw [clkV_iff]
  refine ⟨hj.pi.len, fun i hi => ?_⟩
  have := hj.pi.st i (by rw [hj.pi.len] at hi; exact hi)
  omega
theorem rs_cut {f : Nat → Int} (hf : ∀ i, 0 ≤ f i) {a : Nat} : ∀ d, rs a f ≤ rs (a + d) f := by
  intro d
  induction d with
  | zero => exact Int.le_refl _
  | succ d ih => rw [show a + (d + 1) = a + d + 1 from rfl, rs_succ]; have := hf (a + d); omega
theorem busy_sum {g : List T} {S : List Int} (hF : fine g = true) (hc : clkV g S = true) {e : Nat} (he : e ≤ 220) (hb : ∀ t, t < e → runAt g S (t : Int) ≠ []) : (e : Int) ≤ sumT g := by
  have h1 := run_time (E := 220) hF hc (fun i hi => by have := clk_at hc i; have := time_b hF i; omega)
  have h2 := rs_cut (f := fun t => ((runAt g S (t : Int)).length : Int)) (fun _ => by omega) (a := e) (220 - e)
  rw [show e + (220 - e) = 220 from by omega, h1] at h2
  have h3 := rs_le (f := fun _ => (1 : Int)) (h := fun t => ((runAt g S (t : Int)).length : Int)) e (fun t ht => by
    have := hb t ht
    have : 0 < (runAt g S (t : Int)).length := List.length_pos_iff.2 this
    show (1 : Int) ≤ ((runAt g S (t : Int)).length : Int)
    omega)
  rw [rs_const] at h3
  omega
theorem all_ex {g : List T} {m : List Int} {wk : Int} (h : canV g m wk = true) : ∃ t : Nat, (t : Int) ≤ sumT g ∧ t ≤ 160 ∧ allAt g m wk t ∧ ∀ u, u < t → ¬ allAt g m wk u := by
  have hF := valid_fine (canV_iff.1 h).1
  have hs := sumT_b2 hF
  have h1 : ∃ t : Nat, t ≤ 160 ∧ allAt g m wk t := by
    apply Classical.byContradiction
    intro hno
    have := busy_sum (e := 161) hF (plan_clk h) (by omega) (fun t ht => run_plan h (by omega) (fun ha => hno ⟨t, by omega, ha⟩))
    omega
  obtain ⟨t0, h160, ht0⟩ := h1
  have h2 : ∀ n : Nat, n ≤ t0 → ∃ t : Nat, t ≤ t0 ∧ allAt g m wk t ∧ (∀ u, u < t → ¬ allAt g m wk u) ∨ ∀ u, u < n → ¬ allAt g m wk u := by
    intro n
    induction n with
    | zero => intro _; exact ⟨0, .inr (fun u hu => by omega)⟩
    | succ n ih =>
      intro hn
      obtain ⟨t, ht⟩ := ih (by omega)
      rcases ht with ht | ht
      · exact ⟨t, .inl ht⟩
      · by_cases ha : allAt g m wk n
        · exact ⟨n, .inl ⟨by omega, ha, ht⟩⟩
        · exact ⟨0, .inr (fun u hu => by rcases Nat.lt_succ_iff_lt_or_eq.1 hu with e | e; (· exact ht u e); subst e; exact ha)⟩
  obtain ⟨t, ht⟩ := h2 t0 (Nat.le_refl _)
  rcases ht with ⟨a, b, c⟩ | ht
  · refine ⟨t, ?_, by omega, b, c⟩
    exact busy_sum hF (plan_clk h) (by omega) (fun u hu => run_plan h (by omega) (c u hu))
  · refine ⟨t0, ?_, h160, ht0, ht⟩
    exact busy_sum hF (plan_clk h) (by omega) (fun u hu => run_plan h (by omega) (ht u hu))
theorem plan_end {g : List T} {m : List Int} {wk : Int} (h : canV g m wk = true) : endC g (planC g m wk) ≤ sumT g ∧ (∀ i, i < g.length → giZ (planC g m wk) i ≠ 200) ∧ ∀ t : Nat, (t : Int) < endC g (planC g m wk) → runAt g (planC g m wk) t ≠ [] := by
  have hF := valid_fine (canV_iff.1 h).1
  obtain ⟨t, hs, h160, ha, hb⟩ := all_ex h
  have hk : ∀ i, i < g.length → giZ (planC g m wk) i = giZ (planK g m wk t) i := fun i hi => by
    have := ha i hi
    have := time_b hF i
    exact plan_keep h (show t ≤ 200 by omega) (Nat.le_refl _) hi (by omega)
  have he : endC g (planC g m wk) ≤ t := end_le (by omega) (fun i hi => by rw [hk i hi]; exact ha i hi)
  refine ⟨by omega, fun i hi => ?_, fun u hu => run_plan h (by omega) (hb u (by omega))⟩
  have := ha i hi
  have := time_b hF i
  rw [hk i hi]
  omega
theorem plan_valid {g : List T} {m : List Int} {wk : Int} (h : canV g m wk = true) : stV g m wk (planC g m wk) = true := by
  have hj : PJ g m wk (planC g m wk) 200 := PJ.all h 200 (Nat.le_refl _)
  have hb := (plan_end h).2.1
  rw [stV_iff]
  refine ⟨h, plan_clk h, ?_⟩
  rw [stK_iff]
  intro i hi
  exact ⟨needOk_iff.2 (hj.nd i hi (hb i hi)), hj.ft i hi (hb i hi)⟩
theorem planL_valid {g : List T} {m : List Int} {wk : Int} (h : canV g m wk = true) : stV g m wk (planL g m wk) = true := by rw [planL_yes h]; exact plan_valid h
theorem planL_can {g : List T} {m S : List Int} {wk : Int} (hS : S = planL g m wk) (h0 : ¬ S.length = 0) : canV g m wk = true ∧ S = planC g m wk ∧ 0 < g.length := by
  cases h : canV g m wk
  · rw [planL_no h] at hS; rw [hS] at h0; exact absurd rfl h0
  · rw [planL_yes h] at hS
    obtain ⟨hv, hm, _⟩ := canV_iff.1 h
    refine ⟨rfl, hS, ?_⟩
    have := planC_len (wk := wk) hv hm
    rw [hS] at h0
    omega
/-- nothing changes until the next end -/
theorem plan_skip {g : List T} {m : List Int} {wk : Int} (h : canV g m wk = true) {t : Nat} : ∀ d, t + 1 + d ≤ 200 → (∀ i, i < g.length → giZ (planK g m wk (t + 1)) i ≠ 200 → giZ (planK g m wk (t + 1)) i + timeOf g i ≤ t ∨ ((t + 1 + d : Nat) : Int) ≤ giZ (planK g m wk (t + 1)) i + timeOf g i) → planK g m wk (t + 1 + d) = planK g m wk (t + 1) := by
  have hF := valid_fine (canV_iff.1 h).1
  intro d
  induction d with
  | zero => intro _ _; rfl
  | succ d ih =>
    intro hd hno
    have e := ih (by omega) (fun i hi hb => by rcases hno i hi hb with a | a; (· exact .inl a); right; omega)
    have hj := PJ.all h t (by omega)
    have hq := plan_quiet (wk := wk) hF hj.pi (show t < t + 1 + d by omega) (by omega) (fun i hi hb => by
      rcases hno i hi hb with a | a
      · exact .inl a
      · right
        show ((t + 1 + d : Nat) : Int) < giZ (planK g m wk (t + 1)) i + timeOf g i
        omega)
    show planStep g m wk (planK g m wk (t + 1 + d)) ((t + 1 + d : Nat) : Int) = _
    rw [e]
    unfold planStep
    rw [show planNext g m wk (planK g m wk (t + 1)) ((t + 1 + d : Nat) : Int) = [] from hq]
    rfl
/-- behind the last end nothing changes -/
theorem plan_stop {g : List T} {m : List Int} {wk : Int} (h : canV g m wk = true) {t : Nat} (ht : t ≤ 200) (hb : ∀ i, i < g.length → giZ (planK g m wk t) i ≠ 200) : planC g m wk = planK g m wk t := by
  have a := (PJ.all h 200 (Nat.le_refl _)).pi.len
  have b := (PJ.all h t ht).pi.len
  refine list_giZ (by show (planK g m wk 200).length = _; omega) (fun i hi => ?_)
  exact plan_keep h ht (Nat.le_refl _) (by change i < (planK g m wk 200).length at hi; omega) (hb i (by change i < (planK g m wk 200).length at hi; omega))
end Go.Proofs.Ytihgakbopkaemaa.Bs
namespace Go.Proofs.Ytihgakbopkaemaa.Bs
theorem planL_st {g : List T} {m L : List Int} {wk : Int} (hL : L = planL g m wk) (h0 : ¬ L.length = 0) : stV g m wk L = true ∧ L.length = g.length ∧ 0 < g.length ∧ canV g m wk = true := by
  obtain ⟨hc, hS, hg⟩ := planL_can hL h0
  have h := plan_valid hc
  rw [← hS] at h
  exact ⟨h, clk_len (stV_iff.1 h).2.1, hg, hc⟩
theorem plan_zero {g : List T} {m L : List Int} {wk : Int} (hL : L = planL g m wk) (h0 : ¬ L.length = 0) : L.contains 0 = true := by
  obtain ⟨hst, hl, hg, hc⟩ := planL_st hL h0
  obtain ⟨_, hS, _⟩ := planL_can hL h0
  have hF := valid_fine (canV_iff.1 hc).1
  have he := end_ge (g := g) (S := planC g m wk) (i := 0) hg
  have hk := clk_at (plan_clk hc) 0
  have ht := fine_time hF hg
  have hne := (plan_end hc).2.2 0 (by omega)
  obtain ⟨x, hx⟩ := List.exists_mem_of_ne_nil _ hne
  obtain ⟨j, hj, h1, _, rfl⟩ := mem_runAt.1 hx
  have h2 := clk_at (plan_clk hc) j
  have e : giZ L j = 0 := by rw [hS]; omega
  rw [giZ_at (by omega)] at e
  rw [List.contains_iff_mem, ← e]
  exact List.getElem_mem _
theorem plan_busy {g : List T} {m L : List Int} {wk : Int} (hL : L = planL g m wk) (h0 : ¬ L.length = 0) : endT g m wk L = endC g L ∧ 0 ≤ endC g L ∧ endC g L ≤ sumT g ∧ ∀ t : Nat, (t : Int) < endC g L → 0 < (runL g m wk L t).length := by
  obtain ⟨hst, hl, hg, hc⟩ := planL_st hL h0
  obtain ⟨_, hS, _⟩ := planL_can hL h0
  obtain ⟨h1, _, h3⟩ := plan_end hc
  rw [← hS] at h1 h3
  refine ⟨endT_yes hst, end_nonneg _ _, h1, fun t ht => ?_⟩
  rw [runL_yes hst]
  exact List.length_pos_iff.2 (h3 t ht)
/-- one worker does one task after the other -/
theorem plan_one {g : List T} {m : List Int} {wk : Int} (h : canV g m wk = true) : endT g m 1 (planL g m 1) = sumT g := by
  have hc := can_one h
  have hst := planL_valid hc
  have hF := valid_fine (canV_iff.1 hc).1
  rw [endT_yes hst]
  have h1 := (plan_end hc).1
  have hle := least_le hst
  rw [planL_yes hc] at hst hle ⊢
  rw [leastL_yes hc] at hle
  have h2 := ceil_ge (by omega) (leastK_ge g m 1).2.1
  omega
theorem plan_twice {g : List T} {m L : List Int} {wk : Int} (hL : L = planL g m wk) (h0 : ¬ L.length = 0) : endT g m wk L ≤ endT g m 1 (planL g m 1) ∧ longC g ≤ endT g m wk L := by
  obtain ⟨hst, hl, hg, hc⟩ := planL_st hL h0
  obtain ⟨e1, _, e3, _⟩ := plan_busy hL h0
  rw [plan_one hc, e1]
  exact ⟨e3, long_le hst⟩
theorem adm_head {g : List T} {m : List Int} {wk : Int} {l : List Int} (h0 : 0 < l.length) (hok : admOk g m [] wk [] l[0] = true) : l[0] ∈ admC g m [] wk l := by
  have h1 : l[0] ∈ admK g m [] wk l 1 := by
    rw [admK_succ (k := 0) h0]
    unfold admS
    rw [admK_zero, hok]
    simp
  have h2 : ∀ d, 1 + d ≤ l.length → l[0] ∈ admK g m [] wk l (1 + d) := by
    intro d
    induction d with
    | zero => intro _; exact h1
    | succ d ih =>
      intro hd
      rw [show 1 + (d + 1) = 1 + d + 1 from rfl, admK_succ (show 1 + d < l.length by omega)]
      unfold admS
      split
      · exact List.mem_append_left _ (ih (by omega))
      · exact ih (by omega)
  have := h2 (l.length - 1) (by omega)
  rwa [show 1 + (l.length - 1) = l.length from by omega] at this
theorem plan_first {g : List T} {m L : List Int} {wk : Int} (hL : L = planL g m wk) (h0 : ¬ L.length = 0) : 0 < (ordL g []).length ∧ 0 ≤ giZ (ordL g []) 0 ∧ giZ (ordL g []) 0 < L.length ∧ giZ L (giZ (ordL g []) 0).toNat = 0 := by
  obtain ⟨hst, hl, hg, hc⟩ := planL_st hL h0
  obtain ⟨_, hS, _⟩ := planL_can hL h0
  obtain ⟨hv, hm, hw, _⟩ := canV_iff.1 hc
  have hF := valid_fine hv
  have hvd : vdone g [] = true := by rw [vdone_nil]; exact hv
  rw [ordL_yes hvd]
  obtain ⟨p1, p2⟩ := ord_ok (d := []) hF
  have hlen : 0 < (ordC g []).length := by
    rw [ord_len hF]
    apply Classical.byContradiction
    intro hn
    have := ready_none hvd (List.eq_nil_iff_length_eq_zero.2 (by omega))
    simp at this
    omega
  have hz : ∀ i, i < g.length → giZ (List.replicate g.length 200) i = 200 := fun i hi => by rw [giZ_at (by simpa using hi)]; simp
  have hd : planDone g (planK g m wk 0) ((0 : Nat) : Int) = [] := by
    rw [List.eq_nil_iff_forall_not_mem]
    intro x hx
    unfold planDone at hx
    obtain ⟨j, hj, h1, rfl⟩ := (mem_pick _ _ _).1 hx
    rw [decide_eq_true_eq] at h1
    have := hz j hj
    have := time_b hF j
    change giZ (List.replicate g.length 200) j + timeOf g j ≤ ((0 : Nat) : Int) at h1
    omega
  have ho : planOrd g (planK g m wk 0) ((0 : Nat) : Int) = ordC g [] := by
    refine (planOrd_eq hF p1 ?_).symm
    intro x
    rw [p2, planList_mem, hd]
    constructor
    · intro hx
      have := ready_in hx
      exact ⟨hx, hz _ (by omega)⟩
    · exact fun hx => hx.1
  have hr : runAt g (planK g m wk 0) ((0 : Nat) : Int) = [] := by
    rw [List.eq_nil_iff_forall_not_mem]
    intro x hx
    obtain ⟨j, hj, h1, _, rfl⟩ := mem_runAt.1 hx
    have := hz j hj
    change giZ (List.replicate g.length 200) j ≤ ((0 : Nat) : Int) at h1
    omega
  have hxm := List.getElem_mem (l := ordC g []) (n := 0) hlen
  have hxb := ready_in ((p2 _).1 hxm)
  have hn : (ordC g [])[0] ∈ planNext g m wk (planK g m wk 0) ((0 : Nat) : Int) := by
    unfold planNext
    rw [ho, hr]
    refine adm_head hlen ?_
    unfold admOk
    rw [Bool.and_eq_true, decide_eq_true_eq]
    refine ⟨by simp; omega, ?_⟩
    rw [show ([] : List Int) ++ ([] ++ [(ordC g [])[0]]) = [(ordC g [])[0]] from rfl]
    exact fits_one hF hm hxb
  rw [giZ_at hlen]
  refine ⟨hlen, hxb.1, by omega, ?_⟩
  obtain ⟨j, hj⟩ : ∃ j : Nat, (ordC g [])[0] = j := ⟨(ordC g [])[0].toNat, by omega⟩
  rw [hj] at hn hxb ⊢
  rw [Int.toNat_natCast]
  have h1 : giZ (planK g m wk (0 + 1)) j = _ := step_at (g := g) (m := m) (S := planK g m wk 0) (wk := wk) (now := 0) hF (PJ.all hc 0 (by omega)).pi.len j
  rw [if_pos hn] at h1
  have h2 : giZ (planC g m wk) j = _ := plan_keep hc (show 0 + 1 ≤ 200 by omega) (Nat.le_refl _) (show j < g.length by omega) (by omega)
  rw [hS, h2, h1]
  rfl
theorem leastK_more {g : List T} {m : List Int} {wk : Int} (hv : valid g = true) (hw : 1 ≤ wk) : leastK g m (wk + 1) 3 ≤ leastK g m wk 3 := by
  have hF := valid_fine hv
  have hs := sumT_b2 hF
  have h1 : (sumT g + (wk + 1) - 1) / (wk + 1) ≤ (sumT g + wk - 1) / wk := by
    refine ceil_le (by omega) ?_
    have h2 := ceil_ge (a := sumT g) (b := wk) (n := (sumT g + wk - 1) / wk) (by omega) (Int.le_refl _)
    have h3 : 0 ≤ (sumT g + wk - 1) / wk := Int.ediv_nonneg (by omega) (by omega)
    rw [Int.mul_add]
    omega
  have key : ∀ k, leastK g m (wk + 1) k ≤ leastK g m wk k := by
    intro k
    induction k with
    | zero => show max _ _ ≤ max _ _; omega
    | succ k ih => show max _ _ ≤ max _ _; omega
  exact key 3
end Go.Proofs.Ytihgakbopkaemaa.Bs
