/-
  PLAIN MATHEMATICS of estimates: the time that is left, progress; what their laws say. No condition.
-/
import Derived.Test.YtihgakbopkaemaaK2
import Derived.Test.YtihgakbopkaemaaMath39
import Derived.Test.YtihgakbopkaemaaK43
namespace Go.Proofs.Ytihgakbopkaemaa.Bs
def leftC (g : List T) (d : List Int) : Int := maxL ((readyC g d).map fun x => gi (tailsC g) x.toNat)
def leftL (g : List T) (d : List Int) : Int := if vdone g d then leftC g d else -1
def alT (g : List T) : Int := rs g.length (timeOf g)
def dnK (g : List T) (d : List Int) (k : Nat) : Int := rs k (fun i => if d.contains (i : Int) then timeOf g i else 0)
def progC (g : List T) (d : List Int) : Int := if g.length = 0 then 1000 else dnK g d g.length * 1000 / alT g
def progL (g : List T) (d : List Int) : Int := if vdone g d then progC g d else -1
theorem leftL_no {g : List T} {d : List Int} (h : vdone g d = false) : leftL g d = -1 := by unfold leftL; rw [h]; rfl
theorem leftL_yes {g : List T} {d : List Int} (h : vdone g d = true) : leftL g d = leftC g d := by unfold leftL; rw [h]; rfl
theorem progL_no {g : List T} {d : List Int} (h : vdone g d = false) : progL g d = -1 := by unfold progL; rw [h]; rfl
theorem progL_yes {g : List T} {d : List Int} (h : vdone g d = true) : progL g d = progC g d := by unfold progL; rw [h]; rfl
theorem leftC_nonneg (g : List T) (d : List Int) : 0 ≤ leftC g d := maxL_nonneg _
theorem leftL_pos {g : List T} {d : List Int} (h : ¬ leftL g d < 0) : vdone g d = true := by
  cases hv : vdone g d
  · exact absurd (leftL_no hv) (by omega)
  · rfl
theorem tail_is {g : List T} (hv : valid g = true) : IsTail g (gi (tailsC g)) := TailMid.isTail (tailsC_spec (valid_fine hv) (valid_full hv)).toTailMid
theorem tail_pos {g : List T} (hv : valid g = true) {i : Nat} (hi : i < g.length) : 1 ≤ gi (tailsC g) i ∧ timeOf g i ≤ gi (tailsC g) i := by
  rw [tail_is hv i hi]
  have h1 := maxL_nonneg ((usersOf g i).map (gi (tailsC g)))
  have h2 := fine_time (valid_fine hv) hi
  omega
theorem tail_user {g : List T} (hv : valid g = true) {i u : Nat} (hi : i < g.length) (hu : u < g.length) (h : (i : Int) ∈ need g u) : gi (tailsC g) u + timeOf g i ≤ gi (tailsC g) i := by
  rw [tail_is hv i hi]
  have := le_maxL (List.mem_map_of_mem (f := gi (tailsC g)) (mem_usersOf.2 ⟨hu, h⟩))
  omega
theorem ready_nat {g : List T} {d : List Int} {x : Int} (h : x ∈ readyC g d) : ∃ i : Nat, i < g.length ∧ x = i := by
  unfold readyC at h
  obtain ⟨i, hi, _, rfl⟩ := (mem_pick _ _ _).1 h
  exact ⟨i, hi, rfl⟩
theorem left_ge {g : List T} {d : List Int} {i : Nat} (h : (i : Int) ∈ readyC g d) : gi (tailsC g) i ≤ leftC g d := by
  have := le_maxL (List.mem_map_of_mem (f := fun x : Int => gi (tailsC g) x.toNat) h)
  rwa [Int.toNat_natCast] at this
/-- a task that is finished leaves no more time -/
theorem left_fin {g : List T} {d : List Int} {a : Int} (h : finOk g d a = true) : leftC g (finC g d a) ≤ leftC g d := by
  obtain ⟨hd, ha⟩ := finOk_iff.1 h
  have hv := vdone_valid hd
  refine maxL_le (leftC_nonneg _ _) ?_
  intro y hy
  obtain ⟨x, hx, rfl⟩ := List.mem_map.1 hy
  obtain ⟨i, hi, rfl⟩ := ready_nat hx
  simp only [Int.toNat_natCast]
  rcases ((after_law h).2 i (by simpa using hx)).2 with h1 | h1
  · exact left_ge (by simpa using h1)
  · obtain ⟨v, hvl, rfl⟩ := ready_nat ha
    have h2 := tail_user hv hvl hi h1
    have h3 := fine_time (valid_fine hv) hvl
    have h4 := left_ge ha
    omega
theorem left_nil {g : List T} (hv : valid g = true) : leftC g [] = longC g := by
  have hg := valid_full hv
  have h1 : leftC g [] ≤ longC g := by
    refine maxL_le (maxL_nonneg _) ?_
    intro y hy
    obtain ⟨x, hx, rfl⟩ := List.mem_map.1 hy
    obtain ⟨i, hi, rfl⟩ := ready_nat hx
    simp only [Int.toNat_natCast]
    exact tail_le_long hv hi
  have h2 : longC g ≤ leftC g [] := by
    refine longC_le (leftC_nonneg _ _) hv ?_
    refine need_ind hg (fun i => gi (tailsC g) i ≤ leftC g []) ?_
    intro i hi ih
    by_cases hn : need g i = []
    · exact left_ge (mem_ready.2 ⟨hi, by simp, by rw [hn]; simp⟩)
    · obtain ⟨x, hx⟩ := List.exists_mem_of_ne_nil _ hn
      have hr := fine_need (valid_fine hv) hx
      have h3 := ih x hx
      have h4 := tail_user hv (i := x.toNat) (u := i) (by omega) hi (by rwa [Int.toNat_of_nonneg hr.1])
      have h5 := fine_time (valid_fine hv) (i := x.toNat) (by omega)
      omega
  omega
theorem left_zero {g : List T} {d : List Int} (h : vdone g d = true) : decide (leftC g d = 0) = decide (d.length = g.length) := by
  have hv := vdone_valid h
  rw [Bool.eq_iff_iff, decide_eq_true_iff, decide_eq_true_iff]
  constructor
  · intro h0
    refine ready_none h ?_
    by_cases hn : readyC g d = []
    · exact hn
    · exfalso
      obtain ⟨x, hx⟩ := List.exists_mem_of_ne_nil _ hn
      obtain ⟨i, hi, rfl⟩ := ready_nat hx
      have h1 := left_ge hx
      have h2 := tail_pos hv hi
      omega
  · intro hl
    have he : readyC g d = [] := by
      by_cases hn : readyC g d = []
      · exact hn
      · exfalso
        obtain ⟨x, hx⟩ := List.exists_mem_of_ne_nil _ hn
        have hf := (fin_law (finOk_iff.2 ⟨h, hx⟩))
        have hin := inG_len (vdone_iff.1 hf.2.2.2.2.1).2.1
        omega
    unfold leftC
    rw [he]
    rfl
theorem done_reach {g : List T} {d : List Int} (h : vdone g d = true) {i j : Nat} (hr : Reach g j i) (hj : (j : Int) ∈ d) : (i : Int) ∈ d := by
  have hc := (vdone_iff.1 h).2.2
  induction hr with
  | one h1 => exact hc _ hj _ (by rwa [Int.toNat_natCast])
  | via h1 _ ih => exact ih (hc _ hj _ (by rwa [Int.toNat_natCast]))
theorem tail_sum {g : List T} (hv : valid g = true) : ∀ i, i < g.length → gi (tailsC g) i ≤ psum (timeOf g) g.length (fun j => decide (j = i) || reachB g j i) := by
  have hF := valid_fine hv
  have hg := valid_full hv
  have ht := time_nonneg hF
  refine user_ind hg (fun i => gi (tailsC g) i ≤ psum (timeOf g) g.length (fun j => decide (j = i) || reachB g j i)) ?_
  intro i hi ih
  rw [tail_is hv i hi]
  have h0 : timeOf g i ≤ psum (timeOf g) g.length (fun j => decide (j = i) || reachB g j i) := by
    have h1 := psum_more ht (p := fun _ => false) (q := fun j => decide (j = i) || reachB g j i) i g.length (fun j _ hj => by cases hj) hi (by simp) rfl
    have h4 : ∀ n, psum (timeOf g) n (fun _ => false) = 0 := by
      intro n
      induction n with
      | zero => rfl
      | succ n ih => rw [psum_succ, ih]; simp
    rw [h4] at h1
    omega
  have hm : maxL ((usersOf g i).map (gi (tailsC g))) ≤ psum (timeOf g) g.length (fun j => decide (j = i) || reachB g j i) - timeOf g i := by
    refine maxL_le (by omega) ?_
    intro y hy
    obtain ⟨u, hu, rfl⟩ := List.mem_map.1 hy
    obtain ⟨hul, hun⟩ := mem_usersOf.1 hu
    have hr : Reach g u i := .one hun
    have h1 := ih u hul hun
    have h2 := psum_more ht (p := fun j => decide (j = u) || reachB g j u) (q := fun j => decide (j = i) || reachB g j i) i g.length (fun j _ hj => by
      rw [Bool.or_eq_true, decide_eq_true_iff] at hj ⊢
      rcases hj with rfl | hj
      · exact .inr (reachB_iff.2 hr)
      · exact .inr (reachB_iff.2 ((reachB_iff.1 hj).trans hr))) hi (by simp) (by
      rw [Bool.or_eq_false_iff]
      constructor
      · rw [decide_eq_false_iff_not]
        rintro rfl
        have := reach_self hv i
        rw [reachB_iff.2 hr] at this
        cases this
      · cases hq : reachB g i u
        · rfl
        · have := reach_self hv i
          rw [reachB_iff.2 ((reachB_iff.1 hq).trans hr)] at this
          cases this)
    omega
  omega
def lsK (g : List T) (d : List Int) (k : Nat) : Int := psum (timeOf g) k (fun i => !d.contains (i : Int))
theorem lsK_zero (g : List T) (d : List Int) : lsK g d 0 = 0 := rfl
theorem lsK_succ (g : List T) (d : List Int) (k : Nat) : lsK g d (k + 1) = lsK g d k + (if d.contains (k : Int) then 0 else timeOf g k) := by
  unfold lsK
  rw [psum_succ]
  cases d.contains (k : Int) <;> rfl
theorem lsK_b {g : List T} (hF : fine g = true) (d : List Int) : ∀ k : Nat, k ≤ g.length → 0 ≤ lsK g d k ∧ lsK g d k ≤ 20 * k := by
  intro k
  induction k with
  | zero => intro _; rw [lsK_zero]; decide
  | succ k ih =>
    intro hk
    have h1 := ih (by omega)
    have h2 := fine_time hF (i := k) (by omega)
    rw [lsK_succ]
    split <;> omega
/-- at least this much is left -/
theorem left_least {g : List T} {d : List Int} (h : vdone g d = true) : leftC g d ≤ lsK g d g.length := by
  have hv := vdone_valid h
  have hF := valid_fine hv
  refine maxL_le (lsK_b hF d _ (Nat.le_refl _)).1 ?_
  intro y hy
  obtain ⟨x, hx, rfl⟩ := List.mem_map.1 hy
  obtain ⟨i, hi, rfl⟩ := ready_nat hx
  simp only [Int.toNat_natCast]
  refine Int.le_trans (tail_sum hv i hi) ?_
  refine psum_le (time_nonneg hF) _ ?_
  intro j _ hj
  have hnd := (mem_ready.1 hx).2.1
  rw [Bool.or_eq_true, decide_eq_true_iff] at hj
  rcases hj with rfl | hj
  · simpa using hnd
  · have hc : ¬ (j : Int) ∈ d := fun hjd => hnd (done_reach h (reachB_iff.1 hj) hjd)
    simpa using hc
theorem dnK_zero (g : List T) (d : List Int) : dnK g d 0 = 0 := rfl
theorem dnK_succ (g : List T) (d : List Int) (k : Nat) : dnK g d (k + 1) = dnK g d k + (if d.contains (k : Int) then timeOf g k else 0) := rs_succ _ _
theorem dnK_b {g : List T} (hF : fine g = true) (d : List Int) : ∀ k : Nat, k ≤ g.length → 0 ≤ dnK g d k ∧ dnK g d k ≤ rs k (timeOf g) ∧ (k : Int) ≤ rs k (timeOf g) ∧ rs k (timeOf g) ≤ 20 * k := by
  intro k
  induction k with
  | zero => intro _; rw [dnK_zero, rs_zero]; decide
  | succ k ih =>
    intro hk
    have h1 := ih (by omega)
    have h2 := fine_time hF (i := k) (by omega)
    rw [dnK_succ, rs_succ]
    split <;> omega
theorem asc_pick_eq {n : Nat} {d : List Int} (ha : asc d = true) (hb : ∀ x ∈ d, 0 ≤ x ∧ x < n) : d = pick n (fun i => d.contains (i : Int)) := by
  have mono : ∀ {l : List Int}, asc l = true → l.Pairwise (· < ·) := by
    intro l h
    rw [List.pairwise_iff_getElem]
    intro i j hi hj hij
    have key : ∀ m i (hi : i + m + 1 < l.length), l[i] < l[i + m + 1] := by
      intro m
      induction m with
      | zero => intro i hi; exact (asc_iff l).1 h i hi
      | succ m ih =>
        intro i hi
        have h5 := ih i (by omega)
        have h6 := (asc_iff l).1 h (i + m + 1) (by omega)
        have e9 : i + (m + 1) + 1 = i + m + 1 + 1 := by omega
        simp only [e9]
        omega
    have := key (j - i - 1) i (by omega)
    simp only [show i + (j - i - 1) + 1 = j from by omega] at this
    exact this
  have p1 := mono ha
  have p2 := mono (asc_pick (fun i => d.contains (i : Int)) n)
  refine List.Perm.eq_of_pairwise (le := fun a b => decide (a < b)) ?_ (by simpa using p1) (by simpa using p2) ?_
  · intro a b _ _ h1 h2
    simp only [decide_eq_true_eq] at h1 h2
    omega
  · rw [List.perm_ext_iff_of_nodup (p1.imp (fun h => by omega)) (pick_nodup _ _)]
    intro x
    constructor
    · intro hx
      have := hb x hx
      rw [mem_pick]
      exact ⟨x.toNat, by omega, by simpa [Int.toNat_of_nonneg this.1] using hx, by omega⟩
    · intro hx
      obtain ⟨j, _, hj, rfl⟩ := (mem_pick _ _ _).1 hx
      simpa using hj
theorem inG_pick_eq {g : List T} {d : List Int} (h : inG g d = true) : d = pick g.length (fun i => d.contains (i : Int)) := by
  have hb := inG_mem h
  unfold inG at h
  rw [Bool.and_eq_true] at h
  exact asc_pick_eq h.1 hb
theorem done_sum {g : List T} {d : List Int} (h : inG g d = true) : sumZ (d.map fun x => timeOf g x.toNat) = dnK g d g.length := by
  have e := pick_sum (timeOf g) (fun i => d.contains (i : Int)) g.length
  rw [← inG_pick_eq h] at e
  exact e
theorem rs_one (n a : Nat) (x : Int) : rs n (fun i => if i = a then x else 0) = if a < n then x else 0 := by
  induction n with
  | zero => rfl
  | succ n ih =>
    rw [rs_succ, ih]
    by_cases h : a < n
    · rw [if_pos h, if_neg (by omega), if_pos (by omega)]; omega
    · rw [if_neg h]
      by_cases h2 : n = a
      · rw [if_pos h2, if_pos (by omega)]; omega
      · rw [if_neg h2, if_neg (by omega)]; rfl
theorem dn_fin {g : List T} {d : List Int} {v : Nat} (hv : v < g.length) (hn : (v : Int) ∉ d) : dnK g (finC g d (v : Int)) g.length = dnK g d g.length + timeOf g v := by
  have e : dnK g (finC g d (v : Int)) g.length = rs g.length (fun i => (if d.contains (i : Int) then timeOf g i else 0) + (if i = v then timeOf g v else 0)) := by
    refine rs_congr ?_
    intro i hi
    by_cases h1 : i = v
    · subst h1
      have h2 : (finC g d (i : Int)).contains (i : Int) = true := by rw [contains_iff, mem_fin]; exact ⟨hi, .inl rfl⟩
      have h3 : d.contains (i : Int) = false := by simpa using hn
      rw [h2, h3]
      simp
    · have h2 : (finC g d (v : Int)).contains (i : Int) = d.contains (i : Int) := by
        rw [Bool.eq_iff_iff, contains_iff, contains_iff, mem_fin]
        constructor
        · rintro ⟨_, h | h⟩
          · omega
          · exact h
        · intro h; exact ⟨hi, .inr h⟩
      rw [h2, if_neg h1]
      omega
  rw [e, rs_add, rs_one, if_pos hv]
  rfl
theorem dn_nil (g : List T) : dnK g [] g.length = 0 := by
  have : dnK g [] g.length = rs g.length (fun _ => 0) := rs_congr fun i _ => by simp
  rw [this, rs_const]
  omega
theorem prog_b {g : List T} {d : List Int} (hF : fine g = true) : 0 ≤ progC g d ∧ progC g d ≤ 1000 := by
  unfold progC
  split
  · omega
  · next h0 =>
    have hb := dnK_b hF d g.length (Nat.le_refl _)
    unfold alT
    generalize dnK g d g.length = a at *
    generalize rs g.length (timeOf g) = b at *
    refine ⟨Int.ediv_nonneg (by omega) (by omega), ?_⟩
    have : a * 1000 / b < 1001 := Int.ediv_lt_of_lt_mul (by omega) (by omega)
    omega
theorem prog_pos {g : List T} {d : List Int} (h : ¬ progL g d < 0) : vdone g d = true := by
  cases hv : vdone g d
  · exact absurd (progL_no hv) (by omega)
  · rfl
theorem prog_full {g : List T} {d : List Int} (h : vdone g d = true) : decide (progC g d = 1000) = decide (d.length = g.length) := by
  have hv := vdone_valid h
  have hF := valid_fine hv
  have hin := (vdone_iff.1 h).2.1
  have hb := dnK_b hF d g.length (Nat.le_refl _)
  rw [Bool.eq_iff_iff, decide_eq_true_iff, decide_eq_true_iff]
  by_cases h0 : g.length = 0
  · have := inG_len hin
    unfold progC
    rw [if_pos h0]
    constructor
    · intro _; omega
    · intro _; rfl
  · have e : progC g d = dnK g d g.length * 1000 / alT g := by unfold progC; rw [if_neg h0]
    constructor
    · intro hp
      by_cases hn : readyC g d = []
      · exact ready_none h hn
      · exfalso
        obtain ⟨x, hx⟩ := List.exists_mem_of_ne_nil _ hn
        obtain ⟨i, hi, rfl⟩ := ready_nat hx
        have hf := dn_fin hi (mem_ready.1 hx).2.1
        have hb2 := dnK_b hF (finC g d (i : Int)) g.length (Nat.le_refl _)
        have ht := fine_time hF hi
        rw [e] at hp
        unfold alT at hp
        have h3 : dnK g d g.length * 1000 / rs g.length (timeOf g) < 1000 := Int.ediv_lt_of_lt_mul (by omega) (by omega)
        omega
    · intro hl
      have hall : ∀ i, i < g.length → d.contains (i : Int) = true := by
        intro i hi
        have hpl : (pick g.length (fun i => d.contains (i : Int))).length = g.length := by rw [← inG_pick_eq hin]; exact hl
        rw [contains_iff]
        by_cases hc : (i : Int) ∈ d
        · exact hc
        · exfalso
          have h1 := pick_one_more (q := fun j => d.contains (j : Int)) (v := i) (n := g.length) hi (by simpa using hc)
          have h2 := pick_len g.length (fun j => ((j : Int) == (i : Int)) || d.contains (j : Int))
          omega
      have e2 : dnK g d g.length = rs g.length (timeOf g) := rs_congr fun i hi => by rw [hall i hi]; rfl
      rw [e, e2]
      unfold alT
      exact Int.mul_ediv_cancel_left _ (by omega)
theorem prog_fin {g : List T} {d : List Int} {a : Int} (h : finOk g d a = true) : progC g d < progC g (finC g d a) := by
  obtain ⟨hd, ha⟩ := finOk_iff.1 h
  have hv := vdone_valid hd
  have hF := valid_fine hv
  have h8 := fine_len hF
  obtain ⟨i, hi, rfl⟩ := ready_nat ha
  have hf := dn_fin hi (mem_ready.1 ha).2.1
  have ht := fine_time hF hi
  have hb := dnK_b hF d g.length (Nat.le_refl _)
  unfold progC
  rw [if_neg (by omega), if_neg (by omega), hf]
  unfold alT
  generalize dnK g d g.length = p at *
  generalize rs g.length (timeOf g) = q at *
  generalize timeOf g i = t at *
  have h1 : (p * 1000 + 1 * q) / q ≤ (p + t) * 1000 / q := Int.ediv_le_ediv (by omega) (by omega)
  rw [Int.add_mul_ediv_right _ _ (by omega)] at h1
  omega
theorem prog_nil {g : List T} (h0 : ¬ g.length = 0) : progC g [] = 0 := by
  unfold progC
  rw [if_neg h0, dn_nil]
  simp
end Go.Proofs.Ytihgakbopkaemaa.Bs
