/-
  MERGED TEXTS: Math32 Math33.
-/
import Derived.Test.YtihgakbopkaemaaK2
import Derived.Test.YtihgakbopkaemaaK11
namespace Go.Proofs.Ytihgakbopkaemaa.Bs
theorem asc_take1 (d : List Int) : asc (d.take 1) = true := by
  rw [asc_iff]
  intro k h
  rw [List.length_take] at h
  omega
theorem asc_tail {d : List Int} (h : asc d = true) : asc d.tail = true := by
  rw [asc_iff] at h ⊢
  intro k hk
  rw [List.length_tail] at hk
  have := h (k + 1) (by omega)
  simpa using this
theorem inG_sub {g : List T} {d s : List Int} (h : inG g d = true) (ha : asc s = true) (hs : ∀ x ∈ s, x ∈ d) : inG g s = true := by
  refine inG_yes ha ?_
  unfold allInB
  rw [List.all_eq_true]
  intro x hx
  have := inG_mem h x (hs x hx)
  rw [decide_eq_true_eq]
  omega
theorem unitF_bd {g : List T} (hF : fine g = true) {x : Int} (hx : 0 ≤ x ∧ x < g.length) (p : Int) : 0 ≤ unitF g p x ∧ unitF g p x ≤ 4 := by
  obtain ⟨v, rfl⟩ : ∃ v : Nat, x = (v : Int) := ⟨x.toNat, by omega⟩
  have hv : v < g.length := by omega
  have hu := fine_task hF hv
  unfold unitF
  rw [Int.toNat_natCast, units_at hv]
  split <;> omega
theorem unitF_all {g : List T} (hF : fine g = true) {v : Nat} (hv : v < g.length) : unitF g 0 (v : Int) + unitF g 1 (v : Int) + unitF g 2 (v : Int) = g[v].units := by
  have hu := fine_task hF hv
  unfold unitF
  rw [Int.toNat_natCast, units_at hv, pool_at hv]
  have h3 : g[v].pool = 0 ∨ g[v].pool = 1 ∨ g[v].pool = 2 := by omega
  rcases h3 with h | h | h <;> rw [h] <;> simp
theorem usedC_bd {g : List T} (hF : fine g = true) (p : Int) : ∀ r : List Int, (∀ x ∈ r, 0 ≤ x ∧ x < g.length) → 0 ≤ usedC g r p ∧ usedC g r p ≤ 4 * r.length := by
  intro r
  induction r with
  | nil => intro _; simp [usedC, sumZ]
  | cons x r ih =>
    intro h
    have h1 := ih (fun y hy => h y (by simp [hy]))
    have h2 := unitF_bd hF (h x (by simp)) p
    have e : usedC g (x :: r) p = unitF g p x + usedC g r p := by simp [usedC, sumZ]
    rw [e, List.length_cons]
    omega
theorem usedL_of {g : List T} {r : List Int} (hv : valid g = true) (hi : inG g r = true) : usedL g r = [usedC g r 0, usedC g r 1, usedC g r 2] := by
  unfold usedL
  rw [hv, hi]
  rfl
theorem usedL_len (g : List T) (r : List Int) : (usedL g r).length ≤ 3 := by
  unfold usedL
  split <;> simp
theorem usedL_ok {g : List T} {r : List Int} (h0 : ¬ (usedL g r).length = 0) : valid g = true ∧ inG g r = true := by
  unfold usedL at h0
  split at h0
  · rename_i h; rw [Bool.and_eq_true] at h; exact h
  · exact absurd rfl h0
theorem used_law {g : List T} {d L A B : List Int} (hL : L = usedL g d) (hA : A = usedL g (d.take 1)) (hB : B = usedL g d.tail) (h0 : ¬ L.length = 0) (hd : 0 < d.length) :
    L.length = 3 ∧ A.length = 3 ∧ B.length = 3 ∧ (∀ p, p < 3 → giZ L p = giZ A p + giZ B p ∧ 0 ≤ giZ A p ∧ giZ A p ≤ 100 ∧ 0 ≤ giZ B p ∧ giZ B p ≤ 100) ∧ (∀ x ∈ A, 0 ≤ x ∧ x ≤ 100) ∧
    ∃ v : Nat, ∃ h : v < g.length, d[0] = (v : Int) ∧ sumZ A = g[v].units := by
  rw [hL] at h0
  obtain ⟨hv, hi⟩ := usedL_ok h0
  have hF := valid_fine hv
  have h8 := fine_len hF
  have hl := inG_len hi
  have hm := inG_mem hi
  obtain ⟨x, r, rfl⟩ : ∃ x r, d = x :: r := by cases d with | nil => simp at hd | cons x r => exact ⟨x, r, rfl⟩
  have i1 : inG g [x] = true := inG_sub hi (asc_take1 (x :: r)) (by simp)
  have ha : asc (x :: r) = true := by unfold inG at hi; rw [Bool.and_eq_true] at hi; exact hi.1
  have i2 : inG g r = true := inG_sub hi (asc_tail ha) (fun y hy => by simp [hy])
  have e1 : usedL g ((x :: r).take 1) = [usedC g [x] 0, usedC g [x] 1, usedC g [x] 2] := usedL_of hv i1
  have e2 : usedL g (x :: r).tail = [usedC g r 0, usedC g r 1, usedC g r 2] := usedL_of hv i2
  rw [usedL_of hv hi] at hL
  rw [e1] at hA
  rw [e2] at hB
  have hs : ∀ p, usedC g (x :: r) p = usedC g [x] p + usedC g r p := fun p => usedC_append g [x] r p
  have hx := hm x (by simp)
  have b1 : ∀ p, 0 ≤ usedC g [x] p ∧ usedC g [x] p ≤ 4 := fun p => by rw [usedC_one]; exact unitF_bd hF hx p
  have b2 : ∀ p, 0 ≤ usedC g r p ∧ usedC g r p ≤ 100 := fun p => by
    have := usedC_bd hF p r (fun y hy => hm y (by simp [hy]))
    rw [List.length_cons] at hl
    omega
  refine ⟨by rw [hL]; rfl, by rw [hA]; rfl, by rw [hB]; rfl, ?_, ?_, x.toNat, by omega, by show x = _; omega, ?_⟩
  · intro p hp
    have : p = 0 ∨ p = 1 ∨ p = 2 := by omega
    rcases this with rfl | rfl | rfl
    · have := b1 0; have := b2 0; have := hs 0; subst hL hA hB; simp only [giZ, List.getElem?_cons_zero]; omega
    · have := b1 1; have := b2 1; have := hs 1; subst hL hA hB; simp only [giZ, List.getElem?_cons_zero, List.getElem?_cons_succ]; omega
    · have := b1 2; have := b2 2; have := hs 2; subst hL hA hB; simp only [giZ, List.getElem?_cons_zero, List.getElem?_cons_succ]; omega
  · intro y hy
    subst hA
    have := b1 0; have := b1 1; have := b1 2
    simp only [List.mem_cons, List.not_mem_nil, or_false] at hy
    rcases hy with rfl | rfl | rfl <;> omega
  · have hv' : x.toNat < g.length := by omega
    have := unitF_all hF hv'
    rw [show ((x.toNat : Nat) : Int) = x from by omega] at this
    rw [hA, usedC_one, usedC_one, usedC_one]
    simp only [sumZ]
    omega
/-- all tasks together -/
def rgZ (n : Nat) : List Int := (List.range n).map (fun i : Nat => (i : Int))
theorem rgZ_len (n : Nat) : (rgZ n).length = n := by simp [rgZ]
theorem rgZ_succ (n : Nat) : rgZ (n + 1) = rgZ n ++ [(n : Int)] := by simp [rgZ, List.range_succ]
theorem used_all {g : List T} (hv : valid g = true) : ∃ a b c, usedL g (rgZ g.length) = [a, b, c] ∧ a + b + c = sumZ (g.map fun t => t.units) ∧ (0 ≤ a ∧ a ≤ 100) ∧ (0 ≤ b ∧ b ≤ 100) ∧ 0 ≤ c ∧ c ≤ 100 := by
  have hF := valid_fine hv
  have h8 := fine_len hF
  have hi : inG g (rgZ g.length) = true := by
    refine inG_yes ?_ ?_
    · rw [asc_iff]; intro k hk; simp [rgZ]; omega
    · unfold allInB; rw [List.all_eq_true]; intro x hx
      simp only [rgZ, List.mem_map, List.mem_range] at hx
      obtain ⟨i, h1, rfl⟩ := hx
      simp; omega
  have hb := fun p => usedC_bd hF p _ (inG_mem hi)
  have key : ∀ k, k ≤ g.length → usedC g (rgZ k) 0 + usedC g (rgZ k) 1 + usedC g (rgZ k) 2 = sumZ ((g.take k).map fun t => t.units) := by
    intro k
    induction k with
    | zero => intro _; simp [rgZ, usedC, sumZ]
    | succ k ih =>
      intro hk
      have h1 := ih (by omega)
      have hkl : k < g.length := by omega
      have h2 := unitF_all hF hkl
      rw [rgZ_succ]
      rw [usedC_append, usedC_append, usedC_append, usedC_one, usedC_one, usedC_one, List.take_succ_eq_append_getElem hkl, List.map_append, sumZ_append]
      simp only [List.map_cons, List.map_nil, sumZ]
      omega
  have hk := key g.length (Nat.le_refl _)
  rw [List.take_length] at hk
  refine ⟨_, _, _, usedL_of hv hi, hk, ?_, ?_, ?_⟩
  · have := hb 0; rw [rgZ_len] at this; omega
  · have := hb 1; rw [rgZ_len] at this; omega
  · have := hb 2; rw [rgZ_len] at this; omega
theorem used_none {g : List T} (hv : valid g = true) : usedL g [] = [0, 0, 0] := by
  rw [usedL_of hv (by unfold inG; simp [asc, allInB])]
  rfl
theorem units_take {g : List T} {k : Nat} (hk : k < g.length) : sumZ ((g.take (k + 1)).map fun t => t.units) = sumZ ((g.take k).map fun t => t.units) + g[k].units := by
  rw [List.take_succ_eq_append_getElem hk, List.map_append, sumZ_append]
  simp [sumZ]
end Go.Proofs.Ytihgakbopkaemaa.Bs
namespace Go.Proofs.Ytihgakbopkaemaa.Bs
theorem runOk_iff {g : List T} {m r : List Int} : runOk g m r = true ↔ valid g = true ∧ roomOk m = true ∧ inG g r = true ∧ fitsC g m r = true := by
  unfold runOk
  simp [and_assoc]
theorem admL_some {g : List T} {m r l L : List Int} {wk : Int} (hL : L = admL g m r l wk) (h0 : ¬ L.length = 0) : admV g m r l wk = true ∧ L = admC g m r wk l := by
  cases hv : admV g m r l wk
  · rw [hL, admL_no hv] at h0; exact absurd rfl h0
  · exact ⟨rfl, by rw [hL, admL_yes hv]⟩
theorem admL_len (g : List T) (m r l : List Int) (wk : Int) : (admL g m r l wk).length ≤ l.length := by
  unfold admL
  split
  · exact admK_len g m r wk l l.length (Nat.le_refl _)
  · simp
theorem fits_none {g : List T} {m : List Int} (hm : roomOk m = true) : fitsC g m [] = true := by
  unfold fitsC
  rw [List.all_eq_true]
  intro p hp
  have := room_ge hm (p := p) (by simpa using hp)
  simp [usedC, sumZ]
  omega
theorem fits_one {g : List T} {m : List Int} {x : Int} (hF : fine g = true) (hm : roomOk m = true) (hx : 0 ≤ x ∧ x < g.length) : fitsC g m [x] = true := by
  unfold fitsC
  rw [List.all_eq_true]
  intro p hp
  have h4 := room_ge hm (p := p) (by simpa using hp)
  have := unitF_bd hF hx (p : Int)
  rw [usedC_one, decide_eq_true_eq]
  omega
/-- the first of a list -/
theorem adm_first {g : List T} {m r l L F : List Int} {wk : Int} (hL : L = admL g m r l wk) (h0 : ¬ L.length = 0) (hl : 0 < l.length) (hF : F = admL g m [] l wk) :
    0 < F.length ∧ (F.length : Int) ≤ wk ∧ giZ F 0 = giZ l 0 := by
  obtain ⟨hv, _⟩ := admL_some hL h0
  obtain ⟨h1, h2, h3, h4⟩ := admV_iff.1 hv
  obtain ⟨a1, a2, a3, a4⟩ := runOk_iff.1 h1
  have hf := valid_fine a1
  have hi : idleB [] l l.length = true := by
    unfold idleB at h4 ⊢
    rw [List.all_eq_true] at h4 ⊢
    intro i hi
    have := h4 i hi
    rw [Bool.and_eq_true] at this ⊢
    exact ⟨by simp, this.2⟩
  have hv2 : admV g m [] l wk = true := admV_iff.2 ⟨runOk_iff.2 ⟨a1, a2, inG_yes rfl (by simp [allInB]), fits_none a2⟩, h2, h3, hi⟩
  rw [admL_yes hv2] at hF
  have hx := allInB_mem h3 (List.getElem_mem hl)
  have k1 : admK g m [] wk l 1 = [l[0]] := by
    have h := admK_yes (g := g) (m := m) (r := []) (wk := wk) hl (by
      rw [admK_zero]
      unfold admOk
      rw [Bool.and_eq_true, decide_eq_true_eq]
      exact ⟨by simp; omega, fits_one hf a2 (by omega)⟩)
    rw [admK_zero] at h
    exact h
  have key : ∀ j, 1 + j ≤ l.length → ∃ s, admK g m [] wk l (1 + j) = l[0] :: s := by
    intro j
    induction j with
    | zero => intro _; exact ⟨[], k1⟩
    | succ j ih =>
      intro hj
      obtain ⟨s, hs⟩ := ih (by omega)
      rw [show 1 + (j + 1) = (1 + j) + 1 from rfl, admK_succ (show 1 + j < l.length by omega), hs]
      unfold admS
      split
      · exact ⟨s ++ [l[1 + j]], rfl⟩
      · exact ⟨s, rfl⟩
  obtain ⟨s, hs⟩ := key (l.length - 1) (by omega)
  rw [show 1 + (l.length - 1) = l.length from by omega] at hs
  have hFs : F = l[0] :: s := by rw [hF]; exact hs
  refine ⟨by rw [hFs]; simp, ?_, ?_⟩
  · have := adm_count (g := g) (m := m) (r := []) (wk := wk) (l := l) l.length (Nat.le_refl _)
    rcases this with h | h
    · rw [h] at hs; cases hs
    · have e : F = admK g m [] wk l l.length := hF
      rw [e]
      simpa using h
  · rw [hFs, giZ_at hl]
    rfl
/-- one worker more -/
theorem adm_more {g : List T} {m r l L M : List Int} {wk : Int} (hL : L = admL g m r l wk) (hM : M = admL g m r l (wk + 1)) (h4 : ¬ wk = 4) (h1 : ¬ wk < 1) : L.length ≤ M.length ∧ M.take L.length = L := by
  cases hv : admV g m r l wk
  · rw [admL_no hv] at hL
    subst hL
    exact ⟨Nat.zero_le _, rfl⟩
  · obtain ⟨a1, a2, a3, a4⟩ := admV_iff.1 hv
    have hv2 : admV g m r l (wk + 1) = true := admV_iff.2 ⟨a1, by omega, a3, a4⟩
    rw [admL_yes hv] at hL
    rw [admL_yes hv2] at hM
    have key : ∀ k, k ≤ l.length → admK g m r wk l k = admK g m r (wk + 1) l k ∨ (¬ ((r.length : Int) + ((admK g m r wk l k).length : Int) < wk) ∧ ∃ s, admK g m r (wk + 1) l k = admK g m r wk l k ++ s) := by
      intro k
      induction k with
      | zero => intro _; exact .inl rfl
      | succ k ih =>
        intro hk
        have hlt : k < l.length := by omega
        rcases ih (by omega) with h | ⟨h, s, hs⟩
        · rw [admK_succ hlt, admK_succ hlt, ← h]
          generalize admK g m r wk l k = K at *
          by_cases hc : (r.length : Int) + (K.length : Int) < wk
          · left
            have e : admOk g m r wk K l[k] = admOk g m r (wk + 1) K l[k] := by
              unfold admOk
              rw [decide_eq_true hc, decide_eq_true (show (r.length : Int) + (K.length : Int) < wk + 1 by omega)]
            unfold admS
            rw [e]
          · have e : admOk g m r wk K l[k] = false := by
              unfold admOk
              rw [decide_eq_false hc]
              rfl
            right
            unfold admS
            rw [e]
            refine ⟨by simpa using hc, ?_⟩
            split
            · exact ⟨[l[k]], by simp⟩
            · exact ⟨[], by simp⟩
        · rw [admK_succ hlt, admK_succ hlt, hs]
          generalize admK g m r wk l k = K at *
          have e : admOk g m r wk K l[k] = false := by
            unfold admOk
            rw [decide_eq_false h]
            rfl
          right
          have e2 : admS g m r wk K l[k] = K := by unfold admS; rw [e]; rfl
          rw [e2]
          refine ⟨h, ?_⟩
          unfold admS
          split
          · exact ⟨s ++ [l[k]], by simp⟩
          · exact ⟨s, rfl⟩
    have hk := key l.length (Nat.le_refl _)
    have eL : L = admK g m r wk l l.length := hL
    have eM : M = admK g m r (wk + 1) l l.length := hM
    rw [← eL, ← eM] at hk
    rcases hk with h | ⟨_, s, hs⟩
    · rw [← h]
      exact ⟨Nat.le_refl _, List.take_length⟩
    · rw [hs]
      refine ⟨by simp, by simp⟩
/-- what runs, and what is admitted, together -/
def nowZ (r L : List Int) (n : Nat) : List Int := pick n fun j => r.contains (j : Int) || L.contains (j : Int)
theorem sumZ_perm {a b : List Int} (h : a.Perm b) : sumZ a = sumZ b := by
  induction h with
  | nil => rfl
  | cons x _ ih => simp only [sumZ, ih]
  | swap x y l => simp only [sumZ]; omega
  | trans _ _ h1 h2 => exact h1.trans h2
theorem now_perm {g : List T} {r L : List Int} (hr : r.Nodup) (hL : L.Nodup) (hd : ∀ x ∈ L, x ∉ r) (hrb : ∀ x ∈ r, 0 ≤ x ∧ x < g.length) (hLb : ∀ x ∈ L, 0 ≤ x ∧ x < g.length) : (nowZ r L g.length).Perm (r ++ L) := by
  unfold nowZ
  rw [List.perm_ext_iff_of_nodup (pick_nodup _ _) (List.nodup_append.2 ⟨hr, hL, fun a ha b hb e => hd b hb (e ▸ ha)⟩)]
  intro x
  rw [mem_pick, List.mem_append]
  constructor
  · rintro ⟨j, _, h, rfl⟩
    simpa using h
  · intro h
    have hb : 0 ≤ x ∧ x < g.length := h.elim (hrb x) (hLb x)
    refine ⟨x.toNat, by omega, ?_, by omega⟩
    rw [show ((x.toNat : Nat) : Int) = x from by omega]
    simpa using h
theorem adm_now {g : List T} {m r l L : List Int} {wk : Int} (hL : L = admL g m r l wk) (h0 : ¬ L.length = 0) :
    (∀ x ∈ L, x ∈ l) ∧ (nowZ r L g.length).length = r.length + L.length ∧ (r.length : Int) + (L.length : Int) ≤ wk ∧ runOk g m (nowZ r L g.length) = true := by
  obtain ⟨hv, hC⟩ := admL_some hL h0
  obtain ⟨h1, h2, h3, h4⟩ := admV_iff.1 hv
  obtain ⟨a1, a2, a3, a4⟩ := runOk_iff.1 h1
  have eL : L = admK g m r wk l l.length := hC
  have hm : ∀ x ∈ L, x ∈ l := fun x hx => by
    rw [eL] at hx
    have := adm_mem l.length (Nat.le_refl _) x hx
    rwa [List.take_length] at this
  have hra : asc r = true := by unfold inG at a3; rw [Bool.and_eq_true] at a3; exact a3.1
  have hid := idle_nodup (r := r) l.length (Nat.le_refl _) h4
  rw [List.take_length] at hid
  have hp := now_perm (g := g) (r := r) (L := L) (asc_nodup hra) (by rw [eL]; exact adm_nodup h4 _ (Nat.le_refl _)) (fun x hx => hid.2 x (hm x hx)) (inG_mem a3) (fun x hx => by have := allInB_mem h3 (hm x hx); omega)
  refine ⟨hm, by rw [hp.length_eq, List.length_append], ?_, ?_⟩
  · rcases adm_count (g := g) (m := m) (r := r) (wk := wk) (l := l) l.length (Nat.le_refl _) with h | h
    · rw [← eL] at h; rw [h] at h0; exact absurd rfl h0
    · rw [← eL] at h; exact h
  · refine runOk_iff.2 ⟨a1, a2, inG_pick g _, ?_⟩
    have hf := adm_fits (g := g) (m := m) (r := r) (wk := wk) (l := l) a4 l.length (Nat.le_refl _)
    rw [← eL, fitsC_iff] at hf
    have e : ∀ p, usedC g (nowZ r L g.length) p = usedC g (r ++ L) p := fun p => sumZ_perm (hp.map _)
    rw [fitsC_iff, e, e, e]
    exact hf
end Go.Proofs.Ytihgakbopkaemaa.Bs
