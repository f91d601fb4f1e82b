/-
  PLAIN MATHEMATICS of schedules: all work is done; nobody is faster than possible; nobody begins too early. No condition.
-/
import Derived.Test.YtihgakbopkaemaaK16
import Derived.Test.YtihgakbopkaemaaW56
import Derived.Test.YtihgakbopkaemaaMath39
namespace Go.Proofs.Ytihgakbopkaemaa.Bs
/-- how often a time lies in an interval -/
theorem window (c s T : Int) (hs : 0 ≤ s) (hT : 0 ≤ T) : ∀ E : Nat, rs E (fun t => if decide (s ≤ (t : Int)) && decide ((t : Int) < s + T) then c else 0) = c * (if (E : Int) ≤ s then 0 else if (E : Int) ≤ s + T then (E : Int) - s else T) := by
  intro E
  induction E with
  | zero => rw [rs_zero, if_pos (by omega), Int.mul_zero]
  | succ E ih =>
    rw [rs_succ, ih]
    by_cases h1 : ((E + 1 : Nat) : Int) ≤ s
    · rw [if_pos (by omega), if_pos h1]
      have : decide (s ≤ (E : Int)) = false := by simp; omega
      rw [this]
      simp
    · rw [if_neg h1]
      by_cases h2 : ((E + 1 : Nat) : Int) ≤ s + T
      · rw [if_pos h2]
        have a : decide (s ≤ (E : Int)) = true := by simp; omega
        have b : decide ((E : Int) < s + T) = true := by simp; omega
        rw [a, b]
        simp only [Bool.and_self, if_true]
        by_cases h3 : (E : Int) ≤ s
        · rw [if_pos h3, show ((E + 1 : Nat) : Int) - s = 1 from by omega]; omega
        · rw [if_neg h3, if_pos (by omega), show ((E + 1 : Nat) : Int) - s = ((E : Int) - s) + 1 from by omega, Int.mul_add]; omega
      · rw [if_neg h2]
        have b : decide ((E : Int) < s + T) = false := by simp; omega
        rw [b]
        simp only [Bool.and_false, Bool.false_eq_true, if_false, Int.add_zero]
        by_cases h3 : (E : Int) ≤ s
        · rw [if_pos h3, show T = 0 from by omega]
        · rw [if_neg h3]
          by_cases h4 : (E : Int) ≤ s + T
          · rw [if_pos h4, show (E : Int) - s = T from by omega]
          · rw [if_neg h4]
theorem area {g : List T} {S : List Int} {E : Nat} (hF : fine g = true) (h : clkV g S = true) (hE : ∀ i, i < g.length → giZ S i + timeOf g i ≤ E) (F : Nat → Int) : rs E (fun t => sumZ ((runAt g S (t : Int)).map fun x => F x.toNat)) = rs g.length (fun i => F i * timeOf g i) := by
  have e1 : rs E (fun t => sumZ ((runAt g S (t : Int)).map fun x => F x.toNat)) = rs E (fun t => rs g.length (fun i => if runAp g S (t : Int) i then F i else 0)) := rs_congr (fun t _ => pick_sum F (runAp g S (t : Int)) g.length)
  rw [e1, rs_swap]
  apply rs_congr
  intro i hi
  have a := clk_at h i
  have b := time_b hF i
  have e := hE i hi
  have hw := window (F i) (giZ S i) (timeOf g i) a.1 b.1 E
  have e2 : rs E (fun t => if runAp g S (t : Int) i then F i else 0) = rs E (fun t => if decide (giZ S i ≤ (t : Int)) && decide ((t : Int) < giZ S i + timeOf g i) then F i else 0) := rs_congr (fun t _ => rfl)
  rw [e2, hw]
  by_cases h1 : (E : Int) ≤ giZ S i
  · rw [if_pos h1, show timeOf g i = 0 from by omega]
  · rw [if_neg h1]
    by_cases h2 : (E : Int) ≤ giZ S i + timeOf g i
    · rw [if_pos h2, show (E : Int) - giZ S i = timeOf g i from by omega]
    · rw [if_neg h2]
theorem list_rs {α : Type} (f : α → Int) (d : α) : ∀ l : List α, sumZ (l.map f) = rs l.length (fun i => f (l.getD i d)) := by
  intro l
  induction l with
  | nil => rfl
  | cons x r ih =>
    have e : ∀ (n : Nat) (h : Nat → Int), rs (n + 1) h = h 0 + rs n (fun i => h (i + 1)) := by
      intro n
      induction n with
      | zero => intro h; rw [rs_succ, rs_zero, rs_zero]; omega
      | succ n ih2 => intro h; rw [rs_succ, ih2, rs_succ]; omega
    rw [List.map_cons, List.length_cons, e]
    show f x + sumZ (r.map f) = _
    rw [ih]
    rfl
theorem sumT_rs (g : List T) : sumT g = rs g.length (timeOf g) := by
  unfold sumT
  rw [list_rs T.time ⟨0, [], 0, 0⟩ g]
  apply rs_congr
  intro i hi
  rw [time_at hi, List.getD_eq_getElem?_getD, List.getElem?_eq_getElem hi]
  rfl
theorem len_sum (l : List Int) : (l.length : Int) = sumZ (l.map fun x => (fun _ : Nat => (1 : Int)) x.toNat) := by
  induction l with
  | nil => rfl
  | cons x r ih => simp only [List.map_cons, sumZ, List.length_cons] at *; omega
theorem run_time {g : List T} {S : List Int} {E : Nat} (hF : fine g = true) (h : clkV g S = true) (hE : ∀ i, i < g.length → giZ S i + timeOf g i ≤ E) : rs E (fun t => ((runAt g S (t : Int)).length : Int)) = sumT g := by
  have e : rs E (fun t => ((runAt g S (t : Int)).length : Int)) = rs E (fun t => sumZ ((runAt g S (t : Int)).map fun x => (fun _ : Nat => (1 : Int)) x.toNat)) := rs_congr (fun t _ => len_sum _)
  refine e.trans ((area hF h hE (fun _ => 1)).trans ?_)
  rw [sumT_rs]
  apply rs_congr
  intro i _
  omega
theorem ceil_le {a b E : Int} (hb : 0 < b) (h : a ≤ E * b) : (a + b - 1) / b ≤ E := by
  have : (a + b - 1) / b < E + 1 := by
    apply Int.ediv_lt_of_lt_mul hb
    rw [Int.add_mul]
    omega
  omega
theorem work_area {g : List T} {S : List Int} {E : Nat} (hF : fine g = true) (h : clkV g S = true) (hE : ∀ i, i < g.length → giZ S i + timeOf g i ≤ E) (p : Int) : rs E (fun t => usedC g (runAt g S (t : Int)) p) = workC g p := by
  have e : rs E (fun t => usedC g (runAt g S (t : Int)) p) = rs E (fun t => sumZ ((runAt g S (t : Int)).map fun x => (fun i : Nat => unitF g p (i : Int)) x.toNat)) := by
    apply rs_congr
    intro t _
    unfold usedC
    congr 1
  refine e.trans ((area hF h hE (fun i => unitF g p (i : Int))).trans ?_)
  unfold workC
  rw [list_rs (workF p) ⟨0, [], 0, 0⟩ g]
  apply rs_congr
  intro i hi
  rw [List.getD_eq_getElem?_getD, List.getElem?_eq_getElem hi]
  show unitF g p (i : Int) * timeOf g i = workF p g[i]
  unfold unitF workF
  rw [Int.toNat_natCast, pool_at hi, units_at hi, time_at hi]
  split
  · exact Int.mul_comm _ _
  · exact Int.zero_mul _
/-- what follows fits before the end -/
theorem tail_fits {g : List T} {m S : List Int} {wk : Int} (h : stV g m wk S = true) : ∀ i, i < g.length → giZ S i + gi (tailsC g) i ≤ endC g S := by
  obtain ⟨h1, h2, h3⟩ := stV_iff.1 h
  have hv := (canV_iff.1 h1).1
  have hF := valid_fine hv
  have ht := TailMid.isTail (tailsC_spec hF (valid_full hv)).toTailMid
  have key : ∀ n : Nat, ∀ i, i < g.length → 200 - giZ S i < n → giZ S i + gi (tailsC g) i ≤ endC g S := by
    intro n
    induction n with
    | zero => intro i hi hn; have := clk_at h2 i; omega
    | succ n ih =>
      intro i hi hn
      rw [ht i hi]
      have hti := fine_time' hF hi
      have he := end_ge (S := S) hi
      have hm : maxL ((usersOf g i).map (gi (tailsC g))) ≤ endC g S - giZ S i - timeOf g i := by
        refine maxL_le (by omega) ?_
        intro y hy
        obtain ⟨k, hk, rfl⟩ := List.mem_map.1 hy
        unfold usersOf at hk
        rw [List.mem_filter, List.mem_range] at hk
        have hn2 := needOk_iff.1 (stK_iff.1 h3 k hk.1).1 (i : Int) (by simpa using hk.2)
        rw [Int.toNat_natCast] at hn2
        rw [time_at hi] at hn2 ⊢
        have := ih k hk.1 (by omega)
        omega
      omega
  intro i hi
  have := clk_at h2 i
  exact key 201 i hi (by omega)
theorem long_le {g : List T} {m S : List Int} {wk : Int} (h : stV g m wk S = true) : longC g ≤ endC g S := by
  obtain ⟨h1, h2, h3⟩ := stV_iff.1 h
  have hv := (canV_iff.1 h1).1
  have hl := tails_len hv
  unfold longC
  refine maxL_le (end_nonneg g S) ?_
  intro x hx
  obtain ⟨i, hi, rfl⟩ := List.mem_iff_getElem.1 hx
  have a := tail_fits h i (by omega)
  have b := clk_at h2 i
  rw [show gi (tailsC g) i = (tailsC g)[i] from by unfold gi; rw [List.getD_eq_getElem?_getD, List.getElem?_eq_getElem hi]; rfl] at a
  omega
theorem end_nat (g : List T) (S : List Int) : ((endC g S).toNat : Int) = endC g S := by have := end_nonneg g S; omega
theorem least_le {g : List T} {m S : List Int} {wk : Int} (h : stV g m wk S = true) : leastL g m wk ≤ endC g S := by
  obtain ⟨h1, h2, h3⟩ := stV_iff.1 h
  obtain ⟨hv, hm, hw1, hw4⟩ := canV_iff.1 h1
  have hF := valid_fine hv
  have hE : ∀ i, i < g.length → giZ S i + timeOf g i ≤ ((endC g S).toNat : Int) := fun i hi => by rw [end_nat]; exact end_ge hi
  rw [leastL_yes h1]
  have hm3 : m.length = 3 := roomOk_len hm
  have hmb : ∀ k, k < 3 → 4 ≤ giZ m k ∧ giZ m k ≤ 8 := fun k hk => by
    rw [giZ_at (by omega)]
    unfold roomOk at hm
    rw [Bool.and_eq_true] at hm
    exact allInB_mem hm.2 (List.getElem_mem (show k < m.length by omega))
  have hz : leastK g m wk 0 ≤ endC g S := by
    show max (longC g) ((sumT g + wk - 1) / wk) ≤ endC g S
    have a := long_le h
    have b : (sumT g + wk - 1) / wk ≤ endC g S := by
      apply ceil_le (by omega)
      rw [← run_time hF h2 hE]
      have c := rs_le (f := fun t => ((runAt g S (t : Int)).length : Int)) (h := fun _ => wk) (endC g S).toNat (fun t _ => (run_fits h _).1)
      rw [rs_const, end_nat] at c
      exact c
    omega
  have hp : ∀ k : Nat, k < 3 → poolT g (k : Nat) (giZ m k) ≤ endC g S := by
    intro k hk
    have hb := hmb k hk
    rw [poolT_yes hv (by simp; omega) (by simpa using hb)]
    apply ceil_le (by omega)
    rw [← work_area hF h2 hE (k : Int)]
    have c := rs_le (f := fun t => usedC g (runAt g S (t : Int)) (k : Int)) (h := fun _ => giZ m k) (endC g S).toNat (fun t _ => by
      have hf := fitsC_iff.1 (run_fits h (t : Int)).2
      have hk3 : k = 0 ∨ k = 1 ∨ k = 2 := by omega
      rcases hk3 with rfl | rfl | rfl
      · exact hf.1
      · exact hf.2.1
      · exact hf.2.2)
    rw [rs_const, end_nat] at c
    exact c
  have p0 := hp 0 (by omega)
  have p1 := hp 1 (by omega)
  have p2 := hp 2 (by omega)
  show max (max (max (leastK g m wk 0) (poolT g ((0 : Nat) : Int) (giZ m 0))) (poolT g ((1 : Nat) : Int) (giZ m 1))) (poolT g ((2 : Nat) : Int) (giZ m 2)) ≤ endC g S
  omega
theorem head_le {g : List T} {m S : List Int} {wk : Int} (h : stV g m wk S = true) : ∀ i, i < g.length → gi (headsC g) i ≤ giZ S i := by
  obtain ⟨h1, h2, h3⟩ := stV_iff.1 h
  have hv := (canV_iff.1 h1).1
  have hF := valid_fine hv
  have hh := HeadMid.isHead (h := headsC g) (valid_full hv) (headsK_mid hF _ (Nat.le_refl _))
  have key : ∀ n : Nat, ∀ i, i < g.length → giZ S i < n → gi (headsC g) i ≤ giZ S i := by
    intro n
    induction n with
    | zero => intro i hi hn; have := clk_at h2 i; omega
    | succ n ih =>
      intro i hi hn
      rw [hh i hi]
      refine maxL_le (clk_at h2 i).1 ?_
      intro y hy
      obtain ⟨x, hx, rfl⟩ := List.mem_map.1 hy
      have hxl := (need_lt hF hi hx).1
      have hn2 := needOk_iff.1 (stK_iff.1 h3 i hi).1 x hx
      have ht := fine_time' hF hxl
      rw [time_at hxl] at hn2 ⊢
      have := ih x.toNat hxl (by omega)
      omega
  intro i hi
  have := clk_at h2 i
  exact key 201 i hi (by omega)
end Go.Proofs.Ytihgakbopkaemaa.Bs
