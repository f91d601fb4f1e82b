/-
  PLAIN MATHEMATICS of stale tasks: what their laws say. No condition.
-/
import Derived.Test.YthllincpbiafcaaMath70
import Derived.Test.YthllincpbiafcaaMath13
import Derived.Test.YthllincpbiafcaaMath39
import Derived.Test.YthllincpbiafcaaMath32
namespace Go.Proofs.Ythllincpbiafcaa.Bs
theorem stale_has {g : List T} {F : List Int} {i : Nat} (hi : i < g.length) : (staleC g F).contains (i : Int) = stB g F i := by
  rw [Bool.eq_iff_iff, contains_iff']
  unfold staleC
  rw [mem_pick_nat]
  exact ⟨fun h => h.2, fun h => ⟨hi, h⟩⟩
theorem stale_in {g : List T} {F : List Int} : ∀ x ∈ staleC g F, 0 ≤ x ∧ x < g.length := by
  intro x hx
  obtain ⟨j, hj, _, rfl⟩ := (mem_pick _ _ _).1 hx
  omega
theorem inG_nat {g : List T} {F : List Int} (h : inG g F = true) : ∀ x ∈ F, 0 ≤ x := fun x hx => (inG_mem h x hx).1
theorem sta_idem {g : List T} {F : List Int} (h : staOk g F = true) : staleL g (staleC g F) = staleC g F := by
  obtain ⟨hv, hF⟩ := staOk_iff.1 h
  rw [staleL_yes (show staOk g (staleC g F) = true from staOk_iff.2 ⟨hv, inG_pick g _⟩)]
  refine pick_congr _ _ _ ?_
  intro i hi
  rw [Bool.eq_iff_iff, stB_iff (fun x hx => (stale_in x hx).1), stB_iff (inG_nat hF)]
  have hm : ∀ j : Nat, (j : Int) ∈ staleC g F ↔ j < g.length ∧ stB g F j = true := fun j => mem_pick_nat _ _ _
  constructor
  · rintro ⟨j, hj, h⟩
    obtain ⟨_, h1⟩ := (hm j).1 hj
    obtain ⟨k, hk, h2⟩ := (stB_iff (inG_nat hF)).1 h1
    refine ⟨k, hk, ?_⟩
    rcases h with rfl | h
    · exact h2
    · rcases h2 with rfl | h2
      · exact .inr h
      · exact .inr (h.trans h2)
  · rintro ⟨k, hk, h2⟩
    exact ⟨i, (hm i).2 ⟨hi, (stB_iff (inG_nat hF)).2 ⟨k, hk, h2⟩⟩, .inl rfl⟩
theorem sta_none {g : List T} : staleL g [] = [] := by
  cases h : staOk g []
  · exact staleL_no h
  · rw [staleL_yes h]
    unfold staleC
    rw [pick_congr _ (stB g []) (fun _ => false) (fun i _ => rfl)]
    generalize g.length = n
    induction n with
    | zero => rfl
    | succ n ih => rw [pick_succ, ih]; rfl
theorem sta_done {g : List T} {F : List Int} (h : staOk g F = true) : vdone g (pick g.length fun i => !stB g F i) = true := by
  obtain ⟨hv, hF⟩ := staOk_iff.1 h
  obtain ⟨hf, hg⟩ := (valid_iff g).1 hv
  rw [vdone_iff]
  refine ⟨hv, inG_pick g _, ?_⟩
  intro x hx y hy
  obtain ⟨i, hi, hp, rfl⟩ := (mem_pick _ _ _).1 hx
  rw [Int.toNat_natCast] at hy
  have hyr := fine_need hf hy
  rw [stB_step hf (inG_nat hF), Bool.not_eq_true', Bool.or_eq_false_iff, List.any_eq_false] at hp
  rw [mem_pick]
  exact ⟨y.toNat, by omega, by have := hp.2 y hy; simpa using this, by omega⟩
theorem stB_part {g : List T} {F G : List Int} (hG : ∀ x ∈ G, x ∈ F) {i : Nat} (h : stB g G i = true) : stB g F i = true := by
  unfold stB at h ⊢
  rw [Bool.or_eq_true, List.any_eq_true, contains_iff'] at h ⊢
  rcases h with h | ⟨x, hx, h⟩
  · exact .inl (hG _ h)
  · exact .inr ⟨x, hG _ hx, h⟩
theorem sta_take {g : List T} {F : List Int} (h : staOk g F = true) (k : Nat) : staOk g (F.take k) = true := by
  obtain ⟨hv, hF⟩ := staOk_iff.1 h
  have ha : asc F = true := by unfold inG at hF; rw [Bool.and_eq_true] at hF; exact hF.1
  refine staOk_iff.2 ⟨hv, inG_sub hF ?_ (fun x hx => List.mem_of_mem_take hx)⟩
  rw [asc_iff] at ha ⊢
  intro i hi
  rw [List.length_take] at hi
  simp only [List.getElem_take]
  exact ha i (by omega)
theorem sta_drop {g : List T} {F : List Int} (h : staOk g F = true) (k : Nat) : staOk g (F.drop k) = true := by
  obtain ⟨hv, hF⟩ := staOk_iff.1 h
  have ha : asc F = true := by unfold inG at hF; rw [Bool.and_eq_true] at hF; exact hF.1
  refine staOk_iff.2 ⟨hv, inG_sub hF ?_ (fun x hx => List.mem_of_mem_drop hx)⟩
  rw [asc_iff] at ha ⊢
  intro i hi
  rw [List.length_drop] at hi
  simp only [List.getElem_drop]
  have := ha (k + i) (by omega)
  simpa [Nat.add_assoc] using this
theorem sta_some {g : List T} {F : List Int} (h : staOk g F = true) (h0 : (staleC g F).length ≠ 0) : 0 < F.length := by
  rcases Nat.eq_zero_or_pos F.length with e | e
  · have : F = [] := List.eq_nil_of_length_eq_zero e
    subst this
    rw [← staleL_yes h, sta_none] at h0
    exact absurd rfl h0
  · exact e
theorem sta_more {g : List T} {F : List Int} (h : staOk g F = true) (h0 : 0 < F.length) : (∀ x ∈ staleC g (F.take 1), (staleC g F).contains x = true) ∧ 0 < (staleC g (F.take 1)).length := by
  obtain ⟨hv, hF⟩ := staOk_iff.1 h
  refine ⟨?_, ?_⟩
  · intro x hx
    obtain ⟨j, hj, h1, rfl⟩ := (mem_pick _ _ _).1 hx
    rw [stale_has hj]
    exact stB_part (fun x hx => List.mem_of_mem_take hx) h1
  · have h1 := inG_mem hF F[0] (List.getElem_mem h0)
    have h2 : (F[0].toNat : Int) ∈ staleC g (F.take 1) := by
      unfold staleC
      rw [mem_pick_nat]
      refine ⟨by omega, ?_⟩
      unfold stB
      rw [Bool.or_eq_true, contains_iff']
      left
      rw [show ((F[0].toNat : Nat) : Int) = F[0] from by omega]
      rw [List.mem_iff_getElem]
      exact ⟨0, by rw [List.length_take]; omega, by rw [List.getElem_take]⟩
    exact List.length_pos_of_mem h2
/-- tasks that have the same needs have the same keys -/
def plainT (t : T) : T := ⟨1, t.needs, 0, 1⟩
theorem plain_need (g : List T) (k : Nat) : need (g.map plainT) k = need g k := by
  unfold need
  rw [List.getElem?_map]
  cases g[k]? <;> rfl
theorem plain_top (g : List T) : top (g.map plainT) = top g := top_congr (by simp) (plain_need g)
theorem plain_valid {g : List T} (hv : valid g = true) : valid (g.map plainT) = true := by
  obtain ⟨hf, hg⟩ := (valid_iff g).1 hv
  refine (valid_iff _).2 ⟨?_, by unfold Full; rw [plain_top, List.length_map]; exact hg⟩
  unfold fine at hf ⊢
  simp only [Bool.and_eq_true, decide_eq_true_eq, List.all_eq_true, List.length_map] at hf ⊢
  refine ⟨?_, hf.2⟩
  intro x hx
  rw [List.mem_map] at hx
  obtain ⟨t, ht, rfl⟩ := hx
  have := hf.1 t ht
  unfold validT at this ⊢
  unfold plainT
  simp only [Bool.and_eq_true, decide_eq_true_eq] at this ⊢
  refine ⟨⟨⟨⟨?_, ?_⟩, ?_⟩, ?_⟩, ?_⟩
  all_goals first | exact this.1.2 | exact this.2 | exact this.1.1.2 | exact this.1.1.1.2 | omega
theorem plain_keys (g : List T) (inp : List Int) : keysC (g.map plainT) inp = keysC g inp := by
  unfold keysC keysK
  rw [plain_top, List.length_map]
  congr 1
  funext K x
  unfold keyS keyV
  rw [plain_need]
/-- the time of stale tasks, as a sum over all -/
theorem stal_rs (g : List T) (F : List Int) : sumZ ((staleC g F).map fun x => timeOf g x.toNat) = rs g.length (fun i => if stB g F i then timeOf g i else 0) := pick_sum (timeOf g) (stB g F) g.length
theorem time_pos {g : List T} (hf : fine g = true) {i : Nat} (hi : i < g.length) : 0 ≤ timeOf g i := by have := fine_time hf hi; omega
theorem stal_parts {g : List T} {F : List Int} (h : staOk g F = true) : stalT g F ≤ stalT g (F.take 1) + stalT g (F.drop 1) ∧ stalT g (F.take 1) ≤ stalT g F ∧ stalT g (F.drop 1) ≤ stalT g F := by
  obtain ⟨hv, hF⟩ := staOk_iff.1 h
  obtain ⟨hf, hg⟩ := (valid_iff g).1 hv
  rw [stalT_yes h, stalT_yes (sta_take h 1), stalT_yes (sta_drop h 1), stal_rs, stal_rs, stal_rs]
  refine ⟨?_, ?_, ?_⟩
  · rw [← rs_add]
    refine rs_le _ ?_
    intro i hi
    have ht := time_pos hf hi
    have hor : stB g F i = true → stB g (F.take 1) i = true ∨ stB g (F.drop 1) i = true := by
      intro h1
      unfold stB at h1 ⊢
      simp only [Bool.or_eq_true, List.any_eq_true, contains_iff'] at h1 ⊢
      have hm : ∀ x ∈ F, x ∈ F.take 1 ∨ x ∈ F.drop 1 := by
        intro x hx
        rw [← List.take_append_drop 1 F, List.mem_append] at hx
        exact hx
      rcases h1 with h1 | ⟨x, hx, h1⟩
      · rcases hm _ h1 with h2 | h2
        · exact .inl (.inl h2)
        · exact .inr (.inl h2)
      · rcases hm _ hx with h2 | h2
        · exact .inl (.inr ⟨x, h2, h1⟩)
        · exact .inr (.inr ⟨x, h2, h1⟩)
    by_cases h1 : stB g F i = true
    · rw [if_pos h1]
      rcases hor h1 with h2 | h2
      · rw [if_pos h2]; split <;> omega
      · rw [if_pos h2]; split <;> omega
    · rw [if_neg h1]; split <;> split <;> omega
  · refine rs_le _ ?_
    intro i hi
    have ht := time_pos hf hi
    by_cases h1 : stB g (F.take 1) i = true
    · rw [if_pos h1, if_pos (stB_part (fun x hx => List.mem_of_mem_take hx) h1)]; exact Int.le_refl _
    · rw [if_neg h1]; split <;> omega
  · refine rs_le _ ?_
    intro i hi
    have ht := time_pos hf hi
    by_cases h1 : stB g (F.drop 1) i = true
    · rw [if_pos h1, if_pos (stB_part (fun x hx => List.mem_of_mem_drop hx) h1)]; exact Int.le_refl _
    · rw [if_neg h1]; split <;> omega
theorem rs_time (g : List T) : rs g.length (timeOf g) = sumZ (g.map T.time) := by
  unfold rs
  congr 1
  apply List.ext_getElem
  · simp
  · intro i h1 h2
    simp only [List.getElem_map, List.getElem_range]
    unfold timeOf
    rw [List.getElem?_eq_getElem]
theorem stal_all {g : List T} {F : List Int} (h : staOk g F = true) : 0 ≤ stalT g F ∧ stalT g F ≤ sumZ (g.map T.time) := by
  obtain ⟨hv, hF⟩ := staOk_iff.1 h
  obtain ⟨hf, hg⟩ := (valid_iff g).1 hv
  rw [stalT_yes h, stal_rs, ← rs_time]
  constructor
  · have := rs_le (f := fun _ => 0) (h := fun i => if stB g F i then timeOf g i else 0) g.length (by
      intro i hi
      have ht := time_pos hf hi
      show (0 : Int) ≤ if stB g F i then timeOf g i else 0
      split <;> omega)
    rw [rs_const] at this
    omega
  · refine rs_le _ ?_
    intro i hi
    have ht := time_pos hf hi
    show (if stB g F i then timeOf g i else 0) ≤ timeOf g i
    split <;> omega
/-- failures skip users -/
theorem out_stale {g : List T} {F : List Int} (hv : valid g = true) (hF : inG g F = true) : ∀ i, i < g.length → (gi (outC g F 8) i == 0) = !stB g F i := by
  obtain ⟨hf, hg⟩ := (valid_iff g).1 hv
  have hI := outI g F 8
  refine need_ind hg (fun i => (gi (outC g F 8) i == 0) = !stB g F i) ?_
  intro i hi ih
  have h3 := hI.noLeft hv hi
  have ht := hI.task hg hi
  rw [stB_step hf (inG_nat hF)]
  have hfo : fineO g (outC g F 8) i = !((need g i).any fun x => stB g F x.toNat) := by
    unfold fineO
    rw [Bool.eq_iff_iff, List.all_eq_true, Bool.not_eq_true', List.any_eq_false]
    constructor
    · intro h x hx h2
      have := h x hx
      rw [ih x hx, h2] at this
      cases this
    · intro h x hx
      rw [ih x hx]
      have := h x hx
      simpa using this
  rw [hfo] at ht
  generalize ((need g i).any fun x => stB g F x.toNat) = b at *
  generalize F.contains (i : Int) = c at *
  rcases ht with ⟨h1, h2, h4⟩ | ⟨h1, h2, h4⟩ | ⟨h1, h2⟩ | h1
  · rw [h1]; cases b <;> cases c <;> simp_all
  · rw [h1]; cases b <;> cases c <;> simp_all
  · rw [h1]; cases b <;> cases c <;> simp_all
  · exact absurd h1 h3
end Go.Proofs.Ythllincpbiafcaa.Bs
