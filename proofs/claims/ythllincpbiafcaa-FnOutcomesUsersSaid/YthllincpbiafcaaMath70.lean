/-
  PLAIN MATHEMATICS of stale tasks: what is stale; marks that go forward; keys of tasks; what the laws say. No condition.
-/
import Derived.Test.YthllincpbiafcaaMath61
namespace Go.Proofs.Ythllincpbiafcaa.Bs
noncomputable def stB (g : List T) (F : List Int) (i : Nat) : Bool := F.contains (i : Int) || F.any fun x => reachB g i x.toNat
noncomputable def staleC (g : List T) (F : List Int) : List Int := pick g.length (stB g F)
def staOk (g : List T) (F : List Int) : Bool := valid g && inG g F
noncomputable def staleL (g : List T) (F : List Int) : List Int := if staOk g F then staleC g F else []
theorem staOk_iff {g : List T} {F : List Int} : staOk g F = true ↔ valid g = true ∧ inG g F = true := by unfold staOk; rw [Bool.and_eq_true]
theorem staleL_no {g : List T} {F : List Int} (h : staOk g F = false) : staleL g F = [] := by unfold staleL; rw [h]; rfl
theorem staleL_yes {g : List T} {F : List Int} (h : staOk g F = true) : staleL g F = staleC g F := by unfold staleL; rw [h]; rfl
theorem staleC_len (g : List T) (F : List Int) : (staleC g F).length ≤ g.length := pick_len _ _
theorem staleL_len (g : List T) (F : List Int) : (staleL g F).length ≤ g.length := by
  unfold staleL
  split
  · exact staleC_len g F
  · simp
theorem stB_iff {g : List T} {F : List Int} (hF : ∀ x ∈ F, 0 ≤ x) {i : Nat} : stB g F i = true ↔ ∃ j : Nat, (j : Int) ∈ F ∧ (j = i ∨ Reach g i j) := by
  unfold stB
  rw [Bool.or_eq_true, List.any_eq_true, contains_iff']
  constructor
  · rintro (h | ⟨x, hx, h⟩)
    · exact ⟨i, h, .inl rfl⟩
    · exact ⟨x.toNat, by have := hF x hx; rwa [show ((x.toNat : Nat) : Int) = x from by omega], .inr (reachB_iff.1 h)⟩
  · rintro ⟨j, hj, rfl | h⟩
    · exact .inl hj
    · exact .inr ⟨(j : Int), hj, by rw [Int.toNat_natCast]; exact reachB_iff.2 h⟩
theorem stB_step {g : List T} {F : List Int} (hf : fine g = true) (hF : ∀ x ∈ F, 0 ≤ x) (i : Nat) : stB g F i = (F.contains (i : Int) || (need g i).any fun x => stB g F x.toNat) := by
  rw [Bool.eq_iff_iff, stB_iff hF, Bool.or_eq_true, List.any_eq_true, contains_iff']
  constructor
  · rintro ⟨j, hj, rfl | h⟩
    · exact .inl hj
    · rcases Reach_iff.1 h with h1 | ⟨k, hk, h1⟩
      · exact .inr ⟨(j : Int), h1, (stB_iff hF).2 ⟨j, hj, .inl (by omega)⟩⟩
      · exact .inr ⟨(k : Int), hk, (stB_iff hF).2 ⟨j, hj, .inr (by rwa [Int.toNat_natCast])⟩⟩
  · rintro (h | ⟨x, hx, h⟩)
    · exact ⟨i, h, .inl rfl⟩
    · obtain ⟨j, hj, h⟩ := (stB_iff hF).1 h
      have hx0 := fine_need hf hx
      have e : ((x.toNat : Nat) : Int) = x := by omega
      refine ⟨j, hj, .inr ?_⟩
      rcases h with h | h
      · exact .one (by rwa [h, e])
      · exact .via (by rw [e]; exact hx) h
/-- marks that go forward -/
def markS (g : List T) (s : Nat) (x : Int) : Nat := if bits (need g x.toNat) &&& s = 0 then s else s ||| (1 <<< x.toNat)
def markK (g : List T) (F : List Int) (k : Nat) : Nat := ((top g).take k).foldl (markS g) (bits F)
theorem markK_zero (g : List T) (F : List Int) : markK g F 0 = bits F := rfl
theorem markK_succ (g : List T) (F : List Int) (k : Nat) (hk : k < (top g).length) : markK g F (k + 1) = markS g (markK g F k) (top g)[k] := by
  unfold markK
  rw [List.take_succ_eq_append_getElem hk, List.foldl_append]
  rfl
theorem and_zero_iff {a b : Nat} : a &&& b = 0 ↔ ∀ j, ¬ (a.testBit j = true ∧ b.testBit j = true) := by
  constructor
  · intro h j
    rw [← Bool.and_eq_true, ← Nat.testBit_and, h]
    simp
  · intro h
    apply Nat.eq_of_testBit_eq
    intro j
    rw [Nat.testBit_and, Nat.zero_testBit]
    have := h j
    rw [← Bool.and_eq_true] at this
    simpa using this
theorem markK_lt {g : List T} {F : List Int} (hf : fine g = true) (hF : ∀ x ∈ F, 0 ≤ x ∧ x < 8) : ∀ k, k ≤ (top g).length → markK g F k < 256 := by
  intro k
  induction k with
  | zero => intro _; exact bits_lt F hF
  | succ k ih =>
    intro hk
    rw [markK_succ g F k (by omega)]
    unfold markS
    have h1 := ih (by omega)
    split
    · exact h1
    · refine Nat.or_lt_two_pow (n := 8) h1 ?_
      rw [Nat.one_shiftLeft]
      have := top_range (g := g) (k := k) (by omega)
      have := fine_len hf
      exact Nat.pow_lt_pow_right (by omega) (by omega)
theorem markK_test {g : List T} {F : List Int} (hf : fine g = true) (hF : ∀ x ∈ F, 0 ≤ x) : ∀ k, k ≤ (top g).length → ∀ i, (markK g F k).testBit i = (F.contains (i : Int) || (((top g).take k).contains (i : Int) && stB g F i)) := by
  intro k
  induction k with
  | zero => intro _ i; rw [markK_zero, bits_test F hF]; simp
  | succ k ih =>
    intro hk i
    have h1 := ih (by omega)
    have hr := top_range (g := g) (k := k) (by omega)
    have hb := top_behind g k (by omega)
    rw [markK_succ g F k (by omega)]
    have hcond : bits (need g (top g)[k].toNat) &&& markK g F k = 0 ↔ ((need g (top g)[k].toNat).any fun x => stB g F x.toNat) = false := by
      rw [and_zero_iff, List.any_eq_false]
      have hn : ∀ x ∈ need g (top g)[k].toNat, 0 ≤ x := fun x hx => (fine_need hf hx).1
      have key : ∀ x ∈ need g (top g)[k].toNat, (markK g F k).testBit x.toNat = stB g F x.toNat := by
        intro x hx
        have e : ((x.toNat : Nat) : Int) = x := by have := hn x hx; omega
        rw [h1 x.toNat, e, contains_iff'.2 (hb x hx), Bool.true_and]
        cases hs : stB g F x.toNat
        · unfold stB at hs
          rw [Bool.or_eq_false_iff, e] at hs
          rw [hs.1]; rfl
        · simp
      constructor
      · intro h x hx h2
        refine h x.toNat ⟨?_, ?_⟩
        · rw [bits_test _ hn, contains_iff']
          rwa [show ((x.toNat : Nat) : Int) = x from by have := hn x hx; omega]
        · rw [key x hx]; exact h2
      · rintro h j ⟨h2, h3⟩
        rw [bits_test _ hn, contains_iff'] at h2
        refine h _ h2 ?_
        rw [← key _ h2, Int.toNat_natCast]
        exact h3
    have hst := stB_step hf hF (top g)[k].toNat
    have e : (((top g)[k].toNat : Nat) : Int) = (top g)[k] := by omega
    rw [e] at hst
    unfold markS
    rw [List.take_succ_eq_append_getElem (show k < (top g).length from by omega), Bool.eq_iff_iff]
    cases ha : (need g (top g)[k].toNat).any fun x => stB g F x.toNat
    · rw [if_pos (hcond.2 ha), h1 i]
      rw [ha, Bool.or_false] at hst
      simp only [Bool.or_eq_true, Bool.and_eq_true, contains_iff', List.mem_append, List.mem_singleton]
      constructor
      · rintro (h | ⟨h, h2⟩)
        · exact .inl h
        · exact .inr ⟨.inl h, h2⟩
      · rintro (h | ⟨h | h, h2⟩)
        · exact .inl h
        · exact .inr ⟨h, h2⟩
        · left
          have ei : (top g)[k].toNat = i := by omega
          rw [ei, h2] at hst
          rw [h]
          exact contains_iff'.1 hst.symm
    · rw [if_neg (by rw [hcond, ha]; simp), Nat.testBit_or, h1 i, Nat.one_shiftLeft, Nat.testBit_two_pow]
      rw [ha, Bool.or_true] at hst
      simp only [Bool.or_eq_true, Bool.and_eq_true, contains_iff', List.mem_append, List.mem_singleton, decide_eq_true_eq]
      constructor
      · rintro ((h | ⟨h, h2⟩) | h)
        · exact .inl h
        · exact .inr ⟨.inl h, h2⟩
        · exact .inr ⟨.inr (by omega), by rw [← h]; exact hst⟩
      · rintro (h | ⟨h | h, h2⟩)
        · exact .inl (.inl h)
        · exact .inl (.inr ⟨h, h2⟩)
        · exact .inr (by omega)
theorem mark_all {g : List T} {F : List Int} (hv : valid g = true) (hF : ∀ x ∈ F, 0 ≤ x) {i : Nat} (hi : i < g.length) : (markK g F (top g).length).testBit i = stB g F i := by
  obtain ⟨hf, hg⟩ := (valid_iff g).1 hv
  rw [markK_test hf hF _ (Nat.le_refl _), List.take_length, contains_iff'.2 (hg.mem hi), Bool.true_and]
  cases hs : stB g F i
  · unfold stB at hs
    rw [Bool.or_eq_false_iff] at hs
    rw [hs.1]; rfl
  · simp
theorem mark_pick {g : List T} {F : List Int} (hv : valid g = true) (hF : inG g F = true) : pick 8 (fun j => (markK g F (top g).length).testBit j) = staleC g F := by
  obtain ⟨hf, hg⟩ := (valid_iff g).1 hv
  have hF0 : ∀ x ∈ F, 0 ≤ x := fun x hx => (inG_mem hF x hx).1
  have h8 := fine_len hf
  refine strict_unique (fun x => x) _ _ (asc_pair (asc_pick _ _)) (asc_pair (asc_pick _ _)) ?_
  intro x
  unfold staleC
  rw [mem_pick, mem_pick]
  constructor
  · rintro ⟨j, hj, h, rfl⟩
    have hjg : j < g.length := by
      rw [markK_test hf hF0 _ (Nat.le_refl _), Bool.or_eq_true, Bool.and_eq_true, contains_iff', contains_iff', List.take_length] at h
      rcases h with h | ⟨h, _⟩
      · have := inG_mem hF _ h; omega
      · have := (top_dist g).2 _ h; omega
    exact ⟨j, hjg, by rw [← mark_all hv hF0 hjg]; exact h, rfl⟩
  · rintro ⟨j, hj, h, rfl⟩
    exact ⟨j, by omega, by rw [mark_all hv hF0 hj]; exact h, rfl⟩
/-- keys of tasks -/
def key0 (inp : List Int) (v : Nat) : Int := (131 * ((v : Int) + 1) + gi inp v) % 10007
def keyN (K : List Int) (n : Int) (l : List Int) : Int := l.foldl (fun n y => (131 * n + gi K y.toNat + 1) % 10007) n
def keyV (g : List T) (inp K : List Int) (v : Nat) : Int := keyN K (key0 inp v) (need g v)
def keyS (g : List T) (inp K : List Int) (x : Int) : List Int := K.set x.toNat (keyV g inp K x.toNat)
def keysK (g : List T) (inp : List Int) (k : Nat) : List Int := ((top g).take k).foldl (keyS g inp) (List.replicate g.length 0)
def keysC (g : List T) (inp : List Int) : List Int := keysK g inp (top g).length
def inpOk (g : List T) (inp : List Int) : Bool := valid g && decide (inp.length = g.length) && allInB inp 0 1000
def keysL (g : List T) (inp : List Int) : List Int := if inpOk g inp then keysC g inp else []
theorem inpOk_iff {g : List T} {inp : List Int} : inpOk g inp = true ↔ valid g = true ∧ inp.length = g.length ∧ allInB inp 0 1000 = true := by
  unfold inpOk
  simp only [Bool.and_eq_true, decide_eq_true_eq, and_assoc]
theorem keysL_no {g : List T} {inp : List Int} (h : inpOk g inp = false) : keysL g inp = [] := by unfold keysL; rw [h]; rfl
theorem keysL_yes {g : List T} {inp : List Int} (h : inpOk g inp = true) : keysL g inp = keysC g inp := by unfold keysL; rw [h]; rfl
theorem keysK_zero (g : List T) (inp : List Int) : keysK g inp 0 = List.replicate g.length 0 := rfl
theorem keysK_succ (g : List T) (inp : List Int) (k : Nat) (hk : k < (top g).length) : keysK g inp (k + 1) = keyS g inp (keysK g inp k) (top g)[k] := by
  unfold keysK
  rw [List.take_succ_eq_append_getElem hk, List.foldl_append]
  rfl
theorem keyN_nil (K : List Int) (n : Int) : keyN K n [] = n := rfl
theorem keyN_take (K : List Int) (n : Int) (l : List Int) (k : Nat) (hk : k < l.length) : keyN K n (l.take (k + 1)) = (131 * keyN K n (l.take k) + gi K l[k].toNat + 1) % 10007 := by
  unfold keyN
  rw [List.take_succ_eq_append_getElem hk, List.foldl_append]
  rfl
theorem keyN_b (K : List Int) {n : Int} (hn : 0 ≤ n ∧ n < 10007) : ∀ l : List Int, 0 ≤ keyN K n l ∧ keyN K n l < 10007 := by
  intro l
  induction l generalizing n with
  | nil => exact hn
  | cons x r ih => exact ih (n := (131 * n + gi K x.toNat + 1) % 10007) (by omega)
theorem key0_b (inp : List Int) (v : Nat) : 0 ≤ key0 inp v ∧ key0 inp v < 10007 := by unfold key0; omega
theorem keyV_b (g : List T) (inp K : List Int) (v : Nat) : 0 ≤ keyV g inp K v ∧ keyV g inp K v < 10007 := keyN_b K (key0_b inp v) _
theorem keysK_len (g : List T) (inp : List Int) : ∀ k, k ≤ (top g).length → (keysK g inp k).length = g.length ∧ ∀ i, 0 ≤ gi (keysK g inp k) i ∧ gi (keysK g inp k) i < 10007 := by
  intro k
  induction k with
  | zero => intro _; rw [keysK_zero]; exact ⟨by simp, fun i => by rw [gi_zero]; omega⟩
  | succ k ih =>
    intro hk
    obtain ⟨h1, h2⟩ := ih (by omega)
    rw [keysK_succ g inp k (by omega)]
    unfold keyS
    have hr := top_range (g := g) (k := k) (by omega)
    refine ⟨by simp [h1], ?_⟩
    intro i
    rw [gi_set _ _ _ _ (by rw [h1]; omega)]
    split
    · exact keyV_b _ _ _ _
    · exact h2 i
theorem keysC_len (g : List T) (inp : List Int) : (keysC g inp).length = g.length := (keysK_len g inp _ (Nat.le_refl _)).1
theorem keysC_b (g : List T) (inp : List Int) (i : Nat) : 0 ≤ gi (keysC g inp) i ∧ gi (keysC g inp) i < 10007 := (keysK_len g inp _ (Nat.le_refl _)).2 i
theorem keysL_len (g : List T) (inp : List Int) : (keysL g inp).length ≤ g.length := by
  unfold keysL
  split
  · rw [keysC_len]; exact Nat.le_refl _
  · simp
theorem keysK_keep {g : List T} (inp : List Int) {j : Nat} : ∀ k, j ≤ k → k ≤ (top g).length → ∀ x ∈ (top g).take j, gi (keysK g inp k) x.toNat = gi (keysK g inp j) x.toNat := by
  intro k
  induction k with
  | zero => intro hj _ x hx; obtain rfl : j = 0 := (by omega); rfl
  | succ k ih =>
    intro hj hk x hx
    by_cases e : j = k + 1
    · subst e; rfl
    · rw [← ih (by omega) (by omega) x hx, keysK_succ g inp k (by omega)]
      unfold keyS
      have hr := top_range (g := g) (k := k) (by omega)
      have hlen := (keysK_len g inp k (by omega)).1
      rw [gi_set _ _ _ _ (by rw [hlen]; omega)]
      rw [if_neg]
      intro he
      obtain ⟨q, hq, rfl⟩ := List.mem_iff_getElem.1 hx
      rw [List.length_take] at hq
      rw [List.getElem_take] at he
      have hr2 := top_range (g := g) (k := q) (by omega)
      have := top_inj (g := g) (i := q) (j := k) (by omega) (by omega) (by omega)
      omega
theorem keyN_congr {K K' : List Int} : ∀ {n : Int} {l : List Int}, (∀ x ∈ l, gi K x.toNat = gi K' x.toNat) → keyN K n l = keyN K' n l := by
  intro n l
  induction l generalizing n with
  | nil => intro _; rfl
  | cons x r ih =>
    intro h
    show keyN K ((131 * n + gi K x.toNat + 1) % 10007) r = keyN K' ((131 * n + gi K' x.toNat + 1) % 10007) r
    rw [h x (by simp)]
    exact ih (fun y hy => h y (by simp [hy]))
theorem keysC_at {g : List T} (hg : Full g) (inp : List Int) {i : Nat} (hi : i < g.length) : gi (keysC g inp) i = keyV g inp (keysC g inp) i := by
  obtain ⟨k, hk, e⟩ := hg.pos hi
  have hm : (top g)[k] ∈ (top g).take (k + 1) := (take_succ_mem hk _).2 (.inr rfl)
  have h1 := keysK_keep (g := g) inp (j := k + 1) (top g).length (by omega) (Nat.le_refl _) _ hm
  have hr := top_range (g := g) hk
  have hlen := (keysK_len g inp k (by omega)).1
  have e2 : (top g)[k].toNat = i := by omega
  rw [e2] at h1
  unfold keysC
  rw [h1, keysK_succ g inp k hk]
  unfold keyS
  rw [e2, gi_set _ _ _ _ (by rw [hlen]; omega), if_pos rfl]
  unfold keyV
  apply keyN_congr
  intro x hx
  have hb := top_behind g k hk x (by rw [e2]; exact hx)
  exact (keysK_keep (g := g) inp (j := k) (top g).length (by omega) (Nat.le_refl _) x hb).symm
/-- tasks without changes before them keep their keys -/
theorem keys_same {g : List T} (hv : valid g = true) {inp inp' : List Int} {k : Nat} (h : ∀ i, i ≠ k → gi inp i = gi inp' i) : ∀ i, i < g.length → stB g [(k : Int)] i = false → gi (keysC g inp) i = gi (keysC g inp') i := by
  obtain ⟨hf, hg⟩ := (valid_iff g).1 hv
  refine need_ind hg (fun i => stB g [(k : Int)] i = false → gi (keysC g inp) i = gi (keysC g inp') i) ?_
  intro i hi ih hs
  rw [stB_step hf (by intro x hx; simp at hx; omega), Bool.or_eq_false_iff, List.any_eq_false] at hs
  rw [keysC_at hg inp hi, keysC_at hg inp' hi]
  unfold keyV
  have e0 : key0 inp i = key0 inp' i := by
    unfold key0
    rw [h i]
    rintro rfl
    have := hs.1
    simp at this
  rw [e0]
  apply keyN_congr
  intro x hx
  exact ih x hx (by have := hs.2 x hx; simpa using this)
theorem keyN_inj {K : List Int} : ∀ {l : List Int} {n m : Int}, 0 ≤ n → n < 10007 → 0 ≤ m → m < 10007 → keyN K n l = keyN K m l → n = m := by
  intro l
  induction l with
  | nil => intro n m _ _ _ _ h; exact h
  | cons x r ih =>
    intro n m h1 h2 h3 h4 h
    have h5 := ih (n := (131 * n + gi K x.toNat + 1) % 10007) (m := (131 * m + gi K x.toNat + 1) % 10007) (by omega) (by omega) (by omega) (by omega) h
    generalize gi K x.toNat = c at h5
    have h6 : (131 * n + c + 1 - (131 * m + c + 1)) % 10007 = 0 := by omega
    have h7 : (131 * (n - m)) % 10007 = 0 := by rw [← h6]; congr 1; omega
    have h8 : (10007 : Int) ∣ 131 * (n - m) := Int.dvd_of_emod_eq_zero h7
    have h9 : (10007 : Int) ∣ (n - m) := by
      have h10 : n - m = 131 * (n - m) * 8632 - 10007 * (113 * (n - m)) := by omega
      rw [h10]
      exact Int.dvd_sub (Int.dvd_trans h8 (Int.dvd_mul_right _ _)) (Int.dvd_mul_right _ _)
    omega
theorem keys_other {g : List T} (hv : valid g = true) {inp inp' : List Int} {k : Nat} (h : ∀ i, i ≠ k → gi inp i = gi inp' i) (hk : k < g.length) (h1 : 0 ≤ gi inp k ∧ gi inp k ≤ 1000) (h2 : 0 ≤ gi inp' k ∧ gi inp' k ≤ 1000) (hne : gi inp k ≠ gi inp' k) : gi (keysC g inp) k ≠ gi (keysC g inp') k := by
  obtain ⟨hf, hg⟩ := (valid_iff g).1 hv
  have h8 := fine_len hf
  intro e
  rw [keysC_at hg inp hk, keysC_at hg inp' hk] at e
  unfold keyV at e
  rw [keyN_congr (K := keysC g inp) (K' := keysC g inp') (l := need g k)] at e
  · have := keyN_inj (key0_b inp k).1 (key0_b inp k).2 (key0_b inp' k).1 (key0_b inp' k).2 e
    unfold key0 at this
    omega
  · intro x hx
    have hxr := fine_need hf hx
    refine keys_same hv h x.toNat (by omega) ?_
    rw [Bool.eq_false_iff]
    intro hs
    obtain ⟨j, hj, hr⟩ := (stB_iff (by intro y hy; simp at hy; omega)).1 hs
    simp at hj
    have hjk : j = k := by omega
    subst hjk
    have hx1 : ((x.toNat : Nat) : Int) ∈ need g j := by rwa [show ((x.toNat : Nat) : Int) = x from by omega]
    rcases hr with hr | hr
    · rw [← hr] at hx1; exact (Reach.one hx1).irrefl hg
    · exact (Reach.via hx1 hr).irrefl hg
/-- keys that are not stored -/
def misP (K st : List Int) (i : Nat) : Bool := !st.contains (gi K i)
def missingC (g : List T) (inp st : List Int) : List Int := pick g.length (misP (keysC g inp) st)
def misOk (g : List T) (inp st : List Int) : Bool := inpOk g inp && decide (st.length ≤ 20)
def missingL (g : List T) (inp st : List Int) : List Int := if misOk g inp st then missingC g inp st else []
theorem misOk_iff {g : List T} {inp st : List Int} : misOk g inp st = true ↔ inpOk g inp = true ∧ st.length ≤ 20 := by unfold misOk; rw [Bool.and_eq_true, decide_eq_true_eq]
theorem missingL_no {g : List T} {inp st : List Int} (h : misOk g inp st = false) : missingL g inp st = [] := by unfold missingL; rw [h]; rfl
theorem missingL_yes {g : List T} {inp st : List Int} (h : misOk g inp st = true) : missingL g inp st = missingC g inp st := by unfold missingL; rw [h]; rfl
theorem missingL_len (g : List T) (inp st : List Int) : (missingL g inp st).length ≤ g.length := by
  unfold missingL
  split
  · exact pick_len _ _
  · simp
/-- the time of stale tasks -/
noncomputable def stalT (g : List T) (F : List Int) : Int := if staOk g F then sumZ ((staleC g F).map fun x => timeOf g x.toNat) else -1
theorem stalT_no {g : List T} {F : List Int} (h : staOk g F = false) : stalT g F = -1 := by unfold stalT; rw [h]; rfl
theorem stalT_yes {g : List T} {F : List Int} (h : staOk g F = true) : stalT g F = sumZ ((staleC g F).map fun x => timeOf g x.toNat) := by unfold stalT; rw [h]; rfl
end Go.Proofs.Ythllincpbiafcaa.Bs
