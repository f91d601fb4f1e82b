/-
  MERGED TEXTS: Math47 Math48.
-/
import Derived.Test.YtihgakbopkaemaaK16
import Derived.Test.YtihgakbopkaemaaK2
import Derived.Test.YtihgakbopkaemaaK37
namespace Go.Proofs.Ytihgakbopkaemaa.Bs
/-- all orders with r tasks more than a list, in their order -/
def ordsF (g : List T) : Nat → List Int → List (List Int)
  | 0, l => [l]
  | r + 1, l => (List.range g.length).flatMap fun i => if okNext g l i then ordsF g r (l ++ [(i : Int)]) else []
def ordsK (g : List T) (r : Nat) (l : List Int) (k : Nat) : List (List Int) := (List.range k).flatMap fun i => if okNext g l i then ordsF g r (l ++ [(i : Int)]) else []
theorem ordsK_zero (g : List T) (r : Nat) (l : List Int) : ordsK g r l 0 = [] := rfl
theorem ordsK_succ (g : List T) (r : Nat) (l : List Int) (k : Nat) : ordsK g r l (k + 1) = ordsK g r l k ++ (if okNext g l k then ordsF g r (l ++ [(k : Int)]) else []) := by
  unfold ordsK
  rw [List.range_succ, List.flatMap_append]
  simp
theorem ordsF_succ (g : List T) (r : Nat) (l : List Int) : ordsF g (r + 1) l = ordsK g r l g.length := rfl
theorem ords_len {g : List T} (h8 : g.length ≤ 8) : ∀ r l, (ordsF g r l).length ≤ 8 ^ r ∧ ∀ k, k ≤ g.length → (ordsK g r l k).length ≤ k * 8 ^ r := by
  intro r
  induction r with
  | zero =>
    intro l
    refine ⟨by simp [ordsF], ?_⟩
    intro k
    induction k with
    | zero => intro _; simp [ordsK_zero]
    | succ k ih =>
      intro hk
      have := ih (by omega)
      rw [ordsK_succ, List.length_append]
      have h2 : (if okNext g l k then ordsF g 0 (l ++ [(k : Int)]) else []).length ≤ 1 := by split <;> simp [ordsF]
      simp only [Nat.pow_zero, Nat.mul_one] at *
      omega
  | succ r ih =>
    have hF : ∀ l, (ordsF g (r + 1) l).length ≤ 8 ^ (r + 1) := by
      intro l
      rw [ordsF_succ]
      have h1 := (ih l).2 g.length (Nat.le_refl _)
      have h2 : g.length * 8 ^ r ≤ 8 * 8 ^ r := Nat.mul_le_mul_right _ h8
      rw [Nat.pow_succ]
      omega
    intro l
    refine ⟨hF l, ?_⟩
    intro k
    induction k with
    | zero => intro _; simp [ordsK_zero]
    | succ k ihk =>
      intro hk
      have h1 := ihk (by omega)
      rw [ordsK_succ, List.length_append, Nat.add_mul, Nat.one_mul]
      have h2 : (if okNext g l k then ordsF g (r + 1) (l ++ [(k : Int)]) else []).length ≤ 8 ^ (r + 1) := by
        split
        · exact hF _
        · simp
      omega
theorem ords_b {g : List T} (h8 : g.length ≤ 8) {r : Nat} (hr : r ≤ 8) (l : List Int) : (ordsF g r l).length ≤ 16777216 ∧ ∀ k, k ≤ g.length → (ordsK g r l k).length ≤ 134217728 := by
  have h1 := ords_len h8 r l
  have h2 : 8 ^ r ≤ 8 ^ 8 := Nat.pow_le_pow_right (by omega) hr
  have h3 : (8 : Nat) ^ 8 = 16777216 := by decide
  refine ⟨by omega, ?_⟩
  intro k hk
  have h4 := h1.2 k hk
  have h5 : k * 8 ^ r ≤ 8 * 16777216 := Nat.mul_le_mul (by omega) (by omega)
  omega
/-- what a list of an order holds -/
theorem ords_mem {g : List T} : ∀ (r : Nat) (l : List Int), (∀ x ∈ l, 0 ≤ x ∧ x < g.length) → ∀ o ∈ ordsF g r l, o.length = l.length + r ∧ ∀ x ∈ o, 0 ≤ x ∧ x < g.length := by
  intro r
  induction r with
  | zero =>
    intro l hl o ho
    simp only [ordsF, List.mem_singleton] at ho
    subst ho
    exact ⟨by omega, hl⟩
  | succ r ih =>
    intro l hl o ho
    rw [ordsF, List.mem_flatMap] at ho
    obtain ⟨i, hi, ho⟩ := ho
    rw [List.mem_range] at hi
    split at ho
    · obtain ⟨h1, h2⟩ := ih (l ++ [(i : Int)]) (fun x hx => by
        rw [List.mem_append, List.mem_singleton] at hx
        rcases hx with hx | rfl
        · exact hl x hx
        · omega) o ho
      rw [List.length_append, List.length_singleton] at h1
      exact ⟨by omega, h2⟩
    · exact absurd ho (by simp)
def cntC (g : List T) : Int := if valid g && decide (g.length ≤ 5) then ((ordsF g g.length []).length : Int) else -1
theorem cnt_no1 {g : List T} (h : valid g = false) : cntC g = -1 := by unfold cntC; rw [h]; rfl
theorem cnt_no2 {g : List T} (h : ¬ g.length ≤ 5) : cntC g = -1 := by unfold cntC; simp [h]
theorem cnt_yes {g : List T} (h : valid g = true) (h5 : g.length ≤ 5) : cntC g = ((ordsF g g.length []).length : Int) := by unfold cntC; rw [h]; simp [h5]
end Go.Proofs.Ytihgakbopkaemaa.Bs
namespace Go.Proofs.Ytihgakbopkaemaa.Bs
def fct : Nat → Nat
  | 0 => 1
  | k + 1 => fct k * (k + 1)
theorem fct_pos : ∀ k, 1 ≤ fct k := by
  intro k
  induction k with
  | zero => exact Nat.le_refl _
  | succ k ih => exact Nat.le_trans ih (Nat.le_mul_of_pos_right _ (by omega))
theorem pick_both (p : Nat → Bool) : ∀ n, (pick n p).length + (pick n (fun i => !p i)).length = n := by
  intro n
  induction n with
  | zero => rfl
  | succ n ih =>
    rw [pick_succ, pick_succ]
    cases h : p n <;> simp <;> omega
theorem pick_of {n : Nat} {l : List Int} (hn : l.Nodup) (hb : ∀ x ∈ l, 0 ≤ x ∧ x < n) : (pick n (fun i => l.contains (i : Int))).length = l.length := by
  apply List.Perm.length_eq
  rw [List.perm_ext_iff_of_nodup (pick_nodup _ _) hn]
  intro x
  rw [mem_pick]
  constructor
  · rintro ⟨j, _, h, rfl⟩; simpa using h
  · intro h
    have := hb x h
    exact ⟨x.toNat, by omega, by rw [show ((x.toNat : Nat) : Int) = x from by omega]; simpa using h, by omega⟩
theorem rest_len {n r : Nat} {l : List Int} (hn : l.Nodup) (hb : ∀ x ∈ l, 0 ≤ x ∧ x < n) (hr : l.length + r = n) : (pick n (fun i => !l.contains (i : Int))).length = r := by
  have h1 := pick_both (fun i => l.contains (i : Int)) n
  have h2 := pick_of hn hb
  omega
theorem snoc_ok {n k : Nat} {l : List Int} (hn : l.Nodup) (hb : ∀ x ∈ l, 0 ≤ x ∧ x < n) (hk : k < n) (h : l.contains (k : Int) = false) : (l ++ [(k : Int)]).Nodup ∧ ∀ x ∈ l ++ [(k : Int)], 0 ≤ x ∧ x < n := by
  have hm : (k : Int) ∉ l := by simpa using h
  refine ⟨List.nodup_append.2 ⟨hn, by simp, fun a ha b hb2 e => ?_⟩, fun x hx => ?_⟩
  · rw [List.mem_singleton] at hb2
    subst hb2
    subst e
    exact hm ha
  · rw [List.mem_append, List.mem_singleton] at hx
    rcases hx with hx | rfl
    · exact hb x hx
    · omega
theorem ok_not {g : List T} {l : List Int} {k : Nat} (h : okNext g l k = true) : l.contains (k : Int) = false := by
  unfold okNext at h
  rw [Bool.and_eq_true] at h
  simpa using h.1
theorem ords_le {g : List T} : ∀ r (l : List Int), l.Nodup → (∀ x ∈ l, 0 ≤ x ∧ x < g.length) → l.length + r = g.length → (ordsF g r l).length ≤ fct r := by
  intro r
  induction r with
  | zero => intro l _ _ _; simp [ordsF, fct]
  | succ r ih =>
    intro l hn hb hr
    have key : ∀ k, k ≤ g.length → (ordsK g r l k).length ≤ fct r * (pick k (fun i => !l.contains (i : Int))).length := by
      intro k
      induction k with
      | zero => intro _; simp [ordsK_zero, pick_zero]
      | succ k ihk =>
        intro hk
        have h1 := ihk (by omega)
        rw [ordsK_succ, List.length_append, pick_succ]
        cases hc : l.contains (k : Int)
        · simp only [Bool.not_false, if_true, List.length_append, List.length_singleton, Nat.mul_add, Nat.mul_one]
          have h2 : (if okNext g l k then ordsF g r (l ++ [(k : Int)]) else []).length ≤ fct r := by
            split
            · obtain ⟨a, b⟩ := snoc_ok hn hb (by omega) hc
              exact ih _ a b (by rw [List.length_append, List.length_singleton]; omega)
            · simp
          omega
        · have h2 : okNext g l k = false := by unfold okNext; rw [hc]; rfl
          simp only [h2, Bool.not_true, Bool.false_eq_true, if_false, List.length_nil]
          omega
    have h1 := key g.length (Nat.le_refl _)
    rw [rest_len hn hb hr] at h1
    rw [ordsF_succ]
    exact h1
theorem need_bare' (g : List T) (i : Nat) : need (g.map bare) i = [] := by
  unfold need
  rw [List.getElem?_map]
  cases g[i]? <;> rfl
theorem ok_bare (g : List T) (l : List Int) (k : Nat) : okNext (g.map bare) l k = !l.contains (k : Int) := by
  unfold okNext
  rw [need_bare']
  simp
theorem ords_bare {g : List T} : ∀ r (l : List Int), l.Nodup → (∀ x ∈ l, 0 ≤ x ∧ x < g.length) → l.length + r = g.length → (ordsF (g.map bare) r l).length = fct r := by
  intro r
  induction r with
  | zero => intro l _ _ _; simp [ordsF, fct]
  | succ r ih =>
    intro l hn hb hr
    have key : ∀ k, k ≤ g.length → (ordsK (g.map bare) r l k).length = fct r * (pick k (fun i => !l.contains (i : Int))).length := by
      intro k
      induction k with
      | zero => intro _; simp [ordsK_zero, pick_zero]
      | succ k ihk =>
        intro hk
        have h1 := ihk (by omega)
        rw [ordsK_succ, List.length_append, pick_succ, ok_bare]
        cases hc : l.contains (k : Int)
        · simp only [Bool.not_false, if_true, List.length_append, List.length_singleton, Nat.mul_add, Nat.mul_one]
          obtain ⟨a, b⟩ := snoc_ok hn hb (by omega) hc
          have h2 := ih _ a b (by rw [List.length_append, List.length_singleton]; omega)
          rw [h1]
          show _ + (ordsF (g.map bare) r (l ++ [(k : Int)])).length = _
          rw [h2]
        · simp only [Bool.not_true, Bool.false_eq_true, if_false, List.length_nil]
          omega
    have h1 := key g.length (Nat.le_refl _)
    rw [rest_len hn hb hr] at h1
    rw [ordsF_succ, List.length_map]
    exact h1
/-- one branch is a part of all -/
theorem ords_branch {g : List T} {r : Nat} {l : List Int} : ∀ n k, k < n → okNext g l k = true → (ordsF g r (l ++ [(k : Int)])).length ≤ (ordsK g r l n).length := by
  intro n
  induction n with
  | zero => intro k hk; omega
  | succ n ih =>
    intro k hk ho
    rw [ordsK_succ, List.length_append]
    by_cases e : k = n
    · subst e; rw [ho]; simp
    · have := ih k (by omega) ho; omega
theorem ords_two {g : List T} {r : Nat} {l : List Int} : ∀ n j k, j < n → k < n → j ≠ k → okNext g l j = true → okNext g l k = true → (ordsF g r (l ++ [(j : Int)])).length + (ordsF g r (l ++ [(k : Int)])).length ≤ (ordsK g r l n).length := by
  intro n
  induction n with
  | zero => intro j k hj; omega
  | succ n ih =>
    intro j k hj hk hne oj ok
    rw [ordsK_succ, List.length_append]
    by_cases e : k = n
    · subst e
      rw [ok]
      have := ords_branch (r := r) k j (by omega) oj
      simp only [if_true]
      omega
    · by_cases e2 : j = n
      · subst e2
        rw [oj]
        have := ords_branch (r := r) j k (by omega) ok
        simp only [if_true]
        omega
      · have := ih j k (by omega) (by omega) hne oj ok; omega
/-- the first task of the order that is not there yet can come next -/
theorem top_next {g : List T} (hv : valid g = true) {l : List Int} (hl : l.length < g.length) (_hn : l.Nodup) : ∃ k, k < g.length ∧ okNext g l k = true := by
  have hfull : (top g).length = g.length := valid_full hv
  obtain ⟨tn, tb⟩ := top_dist g
  have hbeh := top_behind g
  have hex : ∃ k, ∃ (h : k < (top g).length), (top g)[k] ∉ l ∧ ∀ j (hj : j < k), (top g)[j] ∈ l := by
    have : ∃ k, ∃ (h : k < (top g).length), (top g)[k] ∉ l := by
      rcases Classical.em (∃ k, ∃ (h : k < (top g).length), (top g)[k] ∉ l) with h | h
      · exact h
      · exfalso
        have hsub : ∀ x ∈ top g, x ∈ l := by
          intro x hx
          obtain ⟨k, hk, rfl⟩ := List.mem_iff_getElem.1 hx
          rcases Classical.em ((top g)[k] ∈ l) with h2 | h2
          · exact h2
          · exact absurd ⟨k, hk, h2⟩ h
        have := nodup_le tn hsub
        omega
    have key : ∀ n k, k < n → ∀ (h : k < (top g).length), (top g)[k] ∉ l → ∃ k, ∃ (h : k < (top g).length), (top g)[k] ∉ l ∧ ∀ j (hj : j < k), (top g)[j] ∈ l := by
      intro n
      induction n with
      | zero => intro k hk; omega
      | succ n ih =>
        intro k hk h hm
        rcases Classical.em (∀ j (hj : j < k), (top g)[j] ∈ l) with h2 | h2
        · exact ⟨k, h, hm, h2⟩
        · have : ∃ j, ∃ (hj : j < k), (top g)[j] ∉ l := by
            rcases Classical.em (∃ j, ∃ (hj : j < k), (top g)[j] ∉ l) with h3 | h3
            · exact h3
            · exfalso
              apply h2
              intro j hj
              rcases Classical.em ((top g)[j] ∈ l) with h4 | h4
              · exact h4
              · exact absurd ⟨j, hj, h4⟩ h3
          obtain ⟨j, hj, hm2⟩ := this
          exact ih j (by omega) (by omega) hm2
    obtain ⟨k, hk, hm⟩ := this
    exact key (k + 1) k (by omega) hk hm
  obtain ⟨k, hk, hm, hall⟩ := hex
  have hx := tb _ (List.getElem_mem hk)
  refine ⟨(top g)[k].toNat, by omega, ?_⟩
  unfold okNext
  rw [Bool.and_eq_true, List.all_eq_true]
  rw [show (((top g)[k].toNat : Nat) : Int) = (top g)[k] from by omega]
  refine ⟨by simpa using hm, ?_⟩
  intro y hy
  have h1 := hbeh k hk y hy
  obtain ⟨j, hj, e⟩ := List.mem_iff_getElem.1 h1
  rw [List.length_take] at hj
  rw [List.getElem_take] at e
  have := hall j (by omega)
  rw [e] at this
  simpa using this
theorem ords_pos {g : List T} (hv : valid g = true) : ∀ r (l : List Int), l.Nodup → (∀ x ∈ l, 0 ≤ x ∧ x < g.length) → l.length + r = g.length → 1 ≤ (ordsF g r l).length := by
  intro r
  induction r with
  | zero => intro l _ _ _; simp [ordsF]
  | succ r ih =>
    intro l hn hb hr
    obtain ⟨k, hk, ho⟩ := top_next hv (l := l) (by omega) hn
    obtain ⟨a, b⟩ := snoc_ok hn hb hk (ok_not ho)
    have h1 := ih _ a b (by rw [List.length_append, List.length_singleton]; omega)
    have h2 := ords_branch (r := r) g.length k hk ho
    rw [ordsF_succ]
    omega
theorem cnt_law {g : List T} {n : Int} (hn : n = cntC g) (h0 : ¬ n < 0) : valid g = true ∧ g.length ≤ 5 ∧ n = ((ordsF g g.length []).length : Int) ∧ 1 ≤ n ∧ n ≤ (fct g.length : Nat) ∧ cntC (g.map bare) = (fct g.length : Nat) := by
  by_cases h5 : g.length ≤ 5
  · cases hv : valid g
    · rw [cnt_no1 hv] at hn; omega
    · have e := cnt_yes hv h5
      have h1 := ords_pos hv g.length [] (by simp) (by simp) (by simp)
      have h2 := ords_le (g := g) g.length [] (by simp) (by simp) (by simp)
      have h3 := ords_bare (g := g) g.length [] (by simp) (by simp) (by simp)
      have e2 := cnt_yes (bare_valid hv) (by rw [List.length_map]; exact h5)
      rw [List.length_map] at e2
      exact ⟨rfl, h5, by rw [hn, e], by omega, by omega, by rw [e2, h3]⟩
  · rw [cnt_no2 h5] at hn; omega
/-- each task but the first one needs the one before -/
def chainB (g : List T) (L : List Int) (k : Nat) : Bool := (List.range k).all fun i => i == 0 || (need g (giZ L i).toNat).contains (giZ L (i - 1))
theorem chainB_succ (g : List T) (L : List Int) (k : Nat) : chainB g L (k + 1) = (chainB g L k && (k == 0 || (need g (giZ L k).toNat).contains (giZ L (k - 1)))) := by
  unfold chainB
  rw [List.range_succ, List.all_append]
  simp
theorem take_prefix {g : List T} (hv : valid g = true) {r k : Nat} (hk : k + r = g.length) : (ordsF g r ((top g).take k)).length ≤ (ordsF g g.length []).length := by
  have hfull : (top g).length = g.length := valid_full hv
  obtain ⟨tn, tb⟩ := top_dist g
  have hbeh := top_behind g
  induction k generalizing r with
  | zero => rw [List.take_zero, show r = g.length from by omega]; exact Nat.le_refl _
  | succ k ih =>
    have h1 := ih (r := r + 1) (by omega)
    have hkt : k < (top g).length := by omega
    have hx := tb _ (List.getElem_mem hkt)
    have ho : okNext g ((top g).take k) (top g)[k].toNat = true := by
      unfold okNext
      rw [Bool.and_eq_true, List.all_eq_true, show (((top g)[k].toNat : Nat) : Int) = (top g)[k] from by omega]
      refine ⟨?_, fun y hy => by simpa using hbeh k hkt y hy⟩
      have hm : (top g)[k] ∉ (top g).take k := by
        intro hm
        obtain ⟨i, hi, e⟩ := List.mem_iff_getElem.1 hm
        rw [List.length_take] at hi
        rw [List.getElem_take] at e
        exact (List.pairwise_iff_getElem.1 (List.nodup_iff_pairwise_ne.1 tn)) i k (by omega) hkt (by omega) e
      simpa using hm
    have h2 := ords_branch (r := r) g.length (top g)[k].toNat (by omega) ho
    rw [show (((top g)[k].toNat : Nat) : Int) = (top g)[k] from by omega, ← List.take_succ_eq_append_getElem hkt] at h2
    rw [ordsF_succ] at h1
    omega
theorem chain_one {g : List T} (hv : valid g = true) (hc : chainB g (top g) g.length = true) : ∀ r k, k + r = g.length → (ordsF g r ((top g).take k)).length ≤ 1 := by
  have hfull : (top g).length = g.length := valid_full hv
  obtain ⟨tn, tb⟩ := top_dist g
  intro r
  induction r with
  | zero => intro k _; simp [ordsF]
  | succ r ih =>
    intro k hk
    have hkt : k < (top g).length := by omega
    have hxk := tb _ (List.getElem_mem hkt)
    have honly : ∀ i, i < g.length → okNext g ((top g).take k) i = true → (i : Int) = (top g)[k] := by
      intro i hi ho
      have hmem : (i : Int) ∈ top g := (valid_full hv).mem hi
      obtain ⟨j, hj, e⟩ := List.mem_iff_getElem.1 hmem
      have hnot := ok_not ho
      have hjk : k ≤ j := by
        rcases Nat.lt_or_ge j k with h | h
        · exfalso
          have : (i : Int) ∈ (top g).take k := by rw [← e]; exact List.mem_iff_getElem.2 ⟨j, by rw [List.length_take]; omega, by rw [List.getElem_take]⟩
          simp at hnot
          exact hnot this
        · exact h
      by_cases hj2 : j = k
      · subst hj2; exact e.symm
      · exfalso
        unfold chainB at hc
        rw [List.all_eq_true] at hc
        have h1 := hc j (by simp; omega)
        rw [Bool.or_eq_true] at h1
        rcases h1 with h1 | h1
        · rw [beq_iff_eq] at h1; omega
        · rw [giZ_at hj, e, Int.toNat_natCast, giZ_at (show j - 1 < (top g).length by omega)] at h1
          unfold okNext at ho
          rw [Bool.and_eq_true, List.all_eq_true] at ho
          have h2 := ho.2 _ (by simpa using h1)
          have h3 : (top g)[j - 1] ∈ (top g).take k := by simpa using h2
          obtain ⟨i2, hi2, e2⟩ := List.mem_iff_getElem.1 h3
          rw [List.length_take] at hi2
          rw [List.getElem_take] at e2
          exact (List.pairwise_iff_getElem.1 (List.nodup_iff_pairwise_ne.1 tn)) i2 (j - 1) (by omega) (by omega) (by omega) e2
    have key : ∀ n, n ≤ g.length → (ordsK g r ((top g).take k) n).length ≤ (if (n : Int) ≤ (top g)[k] then 0 else 1) := by
      intro n
      induction n with
      | zero => intro _; simp [ordsK_zero]
      | succ n ihn =>
        intro hn
        have h1 := ihn (by omega)
        rw [ordsK_succ, List.length_append]
        cases ho : okNext g ((top g).take k) n
        · simp only [Bool.false_eq_true, if_false, List.length_nil, Nat.add_zero]
          split at h1 <;> split <;> omega
        · have e := honly n (by omega) ho
          rw [if_pos (by omega)] at h1
          have h2 := ih (k + 1) (by omega)
          rw [List.take_succ_eq_append_getElem hkt, ← e] at h2
          simp only [if_true]
          rw [if_neg (by omega)]
          omega
    rw [ordsF_succ]
    have := key g.length (Nat.le_refl _)
    split at this <;> omega
theorem chain_law {g : List T} (hv : valid g = true) : ((ordsF g g.length []).length = 1) ↔ chainB g (top g) g.length = true := by
  have hfull : (top g).length = g.length := valid_full hv
  obtain ⟨tn, tb⟩ := top_dist g
  have hbeh := top_behind g
  constructor
  · intro h
    rcases Classical.em (chainB g (top g) g.length = true) with h1 | h1
    · exact h1
    · exfalso
      have h2 : chainB g (top g) g.length = false := by simpa using h1
      unfold chainB at h2
      rw [List.all_eq_false] at h2
      obtain ⟨i, hi, hne⟩ := h2
      rw [List.mem_range] at hi
      have hne2 : (i == 0 || (need g (giZ (top g) i).toNat).contains (giZ (top g) (i - 1))) = false := by simpa using hne
      rw [Bool.or_eq_false_iff] at hne2
      have hi0 : i ≠ 0 := by have := hne2.1; rw [beq_eq_false_iff_ne] at this; exact this
      have hnn := hne2.2
      obtain ⟨q, rfl⟩ : ∃ q, i = q + 1 := ⟨i - 1, by omega⟩
      have hqt : q < (top g).length := by omega
      have hq1 : q + 1 < (top g).length := by omega
      rw [Nat.add_sub_cancel, giZ_at hqt, giZ_at hq1] at hnn
      have hx := tb _ (List.getElem_mem hqt)
      have hy := tb _ (List.getElem_mem hq1)
      have hneq : (top g)[q] ≠ (top g)[q + 1] := (List.pairwise_iff_getElem.1 (List.nodup_iff_pairwise_ne.1 tn)) q (q + 1) hqt hq1 (by omega)
      have hnotin : ∀ j (hj : j < (top g).length), q ≤ j → (top g)[j] ∉ (top g).take q := by
        intro j hj hqj hm
        obtain ⟨i2, hi2, e2⟩ := List.mem_iff_getElem.1 hm
        rw [List.length_take] at hi2
        rw [List.getElem_take] at e2
        exact (List.pairwise_iff_getElem.1 (List.nodup_iff_pairwise_ne.1 tn)) i2 j (by omega) hj (by omega) e2
      have o1 : okNext g ((top g).take q) (top g)[q].toNat = true := by
        unfold okNext
        rw [Bool.and_eq_true, List.all_eq_true, show (((top g)[q].toNat : Nat) : Int) = (top g)[q] from by omega]
        exact ⟨by simpa using hnotin q hqt (Nat.le_refl _), fun y hy => by simpa using hbeh q hqt y hy⟩
      have o2 : okNext g ((top g).take q) (top g)[q + 1].toNat = true := by
        unfold okNext
        rw [Bool.and_eq_true, List.all_eq_true, show (((top g)[q + 1].toNat : Nat) : Int) = (top g)[q + 1] from by omega]
        refine ⟨by simpa using hnotin (q + 1) hq1 (by omega), fun y hy => ?_⟩
        have h3 := hbeh (q + 1) hq1 y hy
        rw [List.take_succ_eq_append_getElem hqt, List.mem_append, List.mem_singleton] at h3
        rcases h3 with h3 | h3
        · simpa using h3
        · exfalso
          subst h3
          have : (need g (top g)[q + 1].toNat).contains (top g)[q] = true := by simpa using hy
          rw [hnn] at this
          cases this
      obtain ⟨r, hr⟩ : ∃ r, q + 1 + r = g.length := ⟨g.length - q - 1, by omega⟩
      have tqn : ((top g).take q).Nodup := tn.sublist (List.take_sublist _ _)
      have tqb : ∀ x ∈ (top g).take q, 0 ≤ x ∧ x < g.length := fun x hx => tb x (List.mem_of_mem_take hx)
      have tql : ((top g).take q).length = q := by rw [List.length_take]; omega
      have two := ords_two (r := r) (l := (top g).take q) g.length (top g)[q].toNat (top g)[q + 1].toNat (by omega) (by omega) (by omega) o1 o2
      obtain ⟨a1, b1⟩ := snoc_ok tqn tqb (by omega) (ok_not o1)
      obtain ⟨a2, b2⟩ := snoc_ok tqn tqb (by omega) (ok_not o2)
      have p1 := ords_pos hv r _ a1 b1 (by rw [List.length_append, List.length_singleton]; omega)
      have p2 := ords_pos hv r _ a2 b2 (by rw [List.length_append, List.length_singleton]; omega)
      have p3 := take_prefix hv (r := r + 1) (k := q) (by omega)
      rw [ordsF_succ] at p3
      omega
  · intro h
    have h1 := chain_one hv h g.length 0 (by omega)
    rw [List.take_zero] at h1
    have h2 := ords_pos hv g.length [] (by simp) (by simp) (by simp)
    omega
end Go.Proofs.Ytihgakbopkaemaa.Bs
