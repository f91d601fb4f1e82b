/-
  MERGED TEXTS: Math65 Math66 Math67 Math68 Math69.
-/
import Derived.Test.YtgpmnfnliifegaaK24
namespace Go.Proofs.Ytgpmnfnliifegaa.Bs
theorem ordsK_has {g : List T} {r : Nat} {l o : List Int} : ∀ (n k : Nat), k < n → okNext g l k = true → o ∈ ordsF g r (l ++ [(k : Int)]) → o ∈ ordsK g r l n := by
  intro n
  induction n with
  | zero => intro k hk; omega
  | succ n ih =>
    intro k hk h1 h2
    rw [ordsK_succ, List.mem_append]
    by_cases e : k = n
    · subst e
      rw [if_pos h1]
      exact .inr h2
    · exact .inl (ih k (by omega) h1 h2)
theorem ords_all {g : List T} {o : List Int} (h : ∀ i, i < o.length → tOk g o i = true) : ∀ (r : Nat) (l s : List Int), o = l ++ s → l.length + r = o.length → o ∈ ordsF g r l := by
  intro r
  induction r with
  | zero =>
    intro l s e hl
    have : s = [] := by
      have := congrArg List.length e
      rw [List.length_append] at this
      exact List.length_eq_zero_iff.1 (by omega)
    subst this
    rw [List.append_nil] at e
    subst e
    exact List.mem_singleton.2 rfl
  | succ r ih =>
    intro l s e hl
    cases s with
    | nil =>
      rw [List.append_nil] at e
      subst e
      omega
    | cons x s =>
      have h1 := h l.length (by omega)
      unfold tOk at h1
      rw [giZ_at (by omega), Bool.and_eq_true, decide_eq_true_eq] at h1
      have ex : o[l.length]'(by omega) = x := by
        subst e
        simp
      have et : o.take l.length = l := by
        subst e
        simp
      rw [ex, et] at h1
      obtain ⟨⟨h0, h2⟩, h3⟩ := h1
      obtain ⟨k, rfl⟩ := Int.eq_ofNat_of_zero_le h0
      rw [ordsF_succ]
      refine ordsK_has g.length k (by omega) h3 (ih (l ++ [(k : Int)]) s (by rw [e, List.append_assoc]; rfl) ?_)
      rw [List.length_append, List.length_singleton]
      omega
theorem ord_in {g : List T} {o : List Int} (h : isOrd g o = true) : o ∈ ordsF g g.length [] := by
  obtain ⟨h1, h2⟩ := ord_tOk h
  exact ords_all h2 g.length [] o rfl (by simp; omega)
theorem bstK_le {g : List T} {m : List Int} {wk : Int} {Ls : List (List Int)} : ∀ k j, j ≤ k → enO g m wk (bstK g m wk Ls k) ≤ enO g m wk (nth Ls j) := by
  intro k
  induction k with
  | zero =>
    intro j hj
    obtain rfl : j = 0 := by omega
    exact Int.le_refl _
  | succ k ih =>
    intro j hj
    by_cases e : enO g m wk (nth Ls (k + 1)) < enO g m wk (bstK g m wk Ls k)
    · rw [bstK_yes e]
      by_cases ej : j = k + 1
      · subst ej; exact Int.le_refl _
      · have := ih j (by omega); omega
    · rw [bstK_no e]
      by_cases ej : j = k + 1
      · subst ej; omega
      · exact ih j (by omega)
theorem best_le {g : List T} {m : List Int} {wk : Int} {o : List Int} (h : isOrd g o = true) : enO g m wk (bestC g m wk) ≤ enO g m wk o := by
  obtain ⟨j, hj, rfl⟩ := List.getElem_of_mem (ord_in h)
  rw [← nth_at hj]
  exact bstK_le _ j (by omega)
theorem time_law {g : List T} {m : List Int} {wk : Int} {l L : List Int} (h : L = osL g m wk l) (h0 : ¬ L.length = 0) : stV g m wk L = true ∧ timeL g m wk ≤ endC g L := by
  obtain ⟨hsea, hord, hL⟩ := osL_ok h h0
  refine ⟨(os_valid hsea hord hL).1, ?_⟩
  rw [timeL_yes hsea, hL]
  exact best_le hord
theorem best_law {g : List T} {m : List Int} {wk : Int} {L : List Int} (h : L = bestL g m wk) (h0 : ¬ L.length = 0) : L.length = g.length ∧ (osL g m wk L).length = g.length ∧ stV g m wk (osL g m wk L) = true ∧ endC g (osL g m wk L) = timeL g m wk := by
  cases hs : seaV g m wk
  · rw [bestL_no hs] at h; rw [h] at h0; exact absurd rfl h0
  · rw [bestL_yes hs] at h
    have hv := (canV_iff.1 (sea_can hs).1).1
    have ho := ords_ord (best_ord (m := m) (wk := wk) hv)
    rw [← h] at ho
    have ho2 := osL_yes (m := m) hs ho
    obtain ⟨a, _, _, b⟩ := os_valid hs ho ho2
    refine ⟨(isOrd_at ho).1, b, a, ?_⟩
    rw [timeL_yes hs, ← h, ho2]
    rfl
end Go.Proofs.Ytgpmnfnliifegaa.Bs
namespace Go.Proofs.Ytgpmnfnliifegaa.Bs
theorem dom_step {g : List T} {m : List Int} {wk wk' : Int} {P S l : List Int} (h : Pla g m wk' P l) (hS : stV g m wk S = true) (hww : wk ≤ wk') (hF : fine g = true) (hm : roomOk m = true) (hw : 1 ≤ wk') (hle : ∀ y ∈ l, giZ P y.toNat ≤ giZ S y.toNat) {a : Nat} (ha : a < g.length) (hna : (a : Int) ∉ l) (hn : ∀ y ∈ need g a, y ∈ l) (hs : ∀ y ∈ l, giZ S y.toNat ≤ giZ S a) : seekT g m wk' P a ≤ giZ S a := by
  obtain ⟨hl, h0, h1, h2, h3⟩ := h.lst hF hm hw ha hn
  have hsm := h.sm hF
  have hta := time_b hF a
  have ha1 := fine_time' hF ha
  obtain ⟨_, hck, hst⟩ := stV_iff.1 hS
  by_cases hc : seekT g m wk' P a ≤ giZ S a
  · exact hc
  exfalso
  have hno : needsOv g (giZ P) a ≤ giZ S a := by
    refine maxL_le (clk_at hck a).1 ?_
    intro y hy
    obtain ⟨x, hx, rfl⟩ := List.mem_map.1 hy
    have b1 := (needOk_iff.1 (stK_iff.1 hst a ha).1) x hx
    have b2 := hle x (hn x hx)
    show giZ P x.toNat + timeOf g x.toNat ≤ giZ S a
    omega
  have hf := hl.no (giZ S a) hno (by omega)
  have ht : fitW g m wk' P a (giZ S a) = true := by
    refine (fitW_iff hF).2 fun t t1 t2 => ?_
    have ht2 : t < 200 := by omega
    have hpa : giZ P a = 200 := h.un a ha hna
    have hanot : (a : Int) ∉ runAt g P t := by
      intro hx
      obtain ⟨j, _, q1, _, e⟩ := mem_runAt.1 hx
      have : j = a := by omega
      subst this
      omega
    have hsub : ∀ x ∈ runAt g P t ++ [(a : Int)], x ∈ runAt g S t := by
      intro x hx
      rw [List.mem_append, List.mem_singleton] at hx
      rcases hx with hx | rfl
      · obtain ⟨j, hj, q1, q2, rfl⟩ := mem_runAt.1 hx
        have hjl : (j : Int) ∈ l := by
          rcases Classical.em ((j : Int) ∈ l) with h | hno'
          · exact h
          · have := h.un j hj hno'; omega
        have b1 := hle _ hjl
        have b2 := hs _ hjl
        rw [Int.toNat_natCast] at b1 b2
        exact mem_runAt.2 ⟨j, hj, by omega, by omega, rfl⟩
      · exact mem_runAt.2 ⟨a, ha, t1, t2, rfl⟩
    have hnd1 : (runAt g P t ++ [(a : Int)]).Nodup := List.nodup_append.2 ⟨pick_nodup _ _, List.nodup_cons.2 ⟨by simp, List.nodup_nil⟩, fun x hx y hy e => by rw [List.mem_singleton] at hy; subst hy; subst e; exact hanot hx⟩
    have hnd2 : (runAt g S t).Nodup := pick_nodup _ _
    have hr := run_fits hS t
    have hlen := nodup_le hnd1 hsub
    exact (wOk_step hF ha (h.fit t ht2).2).2 ⟨by omega, fits_sub hF hnd1 hnd2 hsub hr.2⟩
  rw [ht] at hf
  cases hf
theorem dom_all {g : List T} {m : List Int} {wk wk' : Int} {S o : List Int} (hS : stV g m wk S = true) (hww : wk ≤ wk') (hF : fine g = true) (hm : roomOk m = true) (hw : 1 ≤ wk') (ho : isOrd g o = true) (hso : o.Pairwise fun x y => giZ S x.toNat ≤ giZ S y.toNat) : ∀ k, k ≤ o.length → ∀ x ∈ o.take k, giZ (osK g m wk' o k) x.toNat ≤ giZ S x.toNat := by
  intro k
  induction k with
  | zero => intro _ x hx; simp at hx
  | succ k ih =>
    intro hk x hx
    have hk' : k < o.length := by omega
    have hP := Pla.all (m := m) (wk := wk') hF hm hw ho k (by omega)
    obtain ⟨hr, hok⟩ := (isOrd_at ho).2 k hk'
    obtain ⟨a, ha⟩ : ∃ a : Nat, o[k] = (a : Int) := ⟨o[k].toNat, by omega⟩
    rw [ha] at hr hok
    rw [Int.toNat_natCast] at hok
    obtain ⟨hnm, hnd⟩ := need_of_ok hok
    have hag : a < g.length := by omega
    have hst := dom_step hP hS hww hF hm hw (ih (by omega)) hag hnm hnd (by
      intro y hy
      obtain ⟨i, hi, rfl⟩ := List.getElem_of_mem hy
      rw [List.length_take] at hi
      rw [List.getElem_take]
      have := List.pairwise_iff_getElem.1 hso i k (by omega) hk' (by omega)
      rw [ha, Int.toNat_natCast] at this
      exact this)
    rw [osK_succ hk', ha]
    unfold osStep
    rw [Int.toNat_natCast, giZ_set]
    rw [List.take_succ_eq_append_getElem hk', List.mem_append, List.mem_singleton, ha] at hx
    by_cases e : x.toNat = a
    · rw [if_pos ⟨e, by rw [hP.len]; exact hag⟩, e]
      exact hst
    · rw [if_neg (fun h => e h.1)]
      rcases hx with hx | rfl
      · exact ih (by omega) x hx
      · rw [Int.toNat_natCast] at e; exact absurd rfl e
theorem sorted_ex {g : List T} {m : List Int} {wk : Int} {S : List Int} (hS : stV g m wk S = true) : ∃ o, isOrd g o = true ∧ o.Pairwise fun x y => giZ S x.toNat ≤ giZ S y.toNat := by
  obtain ⟨hcan, hck, hst⟩ := stV_iff.1 hS
  have hF := valid_fine (canV_iff.1 hcan).1
  let q := (List.range g.length).mergeSort (fun a b => decide (giZ S a ≤ giZ S b))
  have hp : q.Perm (List.range g.length) := List.mergeSort_perm _ _
  have hs : q.Pairwise (fun a b => decide (giZ S a ≤ giZ S b) = true) := List.pairwise_mergeSort (fun a b c h1 h2 => by simp only [decide_eq_true_eq] at *; omega) (fun a b => by simp only [Bool.or_eq_true, decide_eq_true_eq]; omega) _
  have hnd : q.Nodup := hp.nodup_iff.2 List.nodup_range
  have hmem : ∀ x, x ∈ q ↔ x < g.length := fun x => by rw [hp.mem_iff, List.mem_range]
  have hlen : q.length = g.length := by rw [hp.length_eq, List.length_range]
  have hs2 : (q.map Int.ofNat).Pairwise fun x y => giZ S x.toNat ≤ giZ S y.toNat := by
    rw [List.pairwise_map]
    refine hs.imp ?_
    intro a b h
    simpa using h
  refine ⟨q.map Int.ofNat, isOrd_yes (by rw [List.length_map, hlen]) ?_, hs2⟩
  intro i hi
  have hiq : i < q.length := by simpa using hi
  have hig := (hmem q[i]).1 (List.getElem_mem hiq)
  have hgi : giZ (q.map Int.ofNat) i = (q[i] : Int) := by rw [giZ_at hi, List.getElem_map]; rfl
  unfold tOk
  rw [hgi, Bool.and_eq_true, decide_eq_true_eq, Int.toNat_natCast]
  refine ⟨by omega, ?_⟩
  unfold okNext
  rw [Bool.and_eq_true, List.all_eq_true]
  constructor
  · have : ((q[i] : Nat) : Int) ∉ (q.map Int.ofNat).take i := by
      intro hx
      obtain ⟨j, hj, e⟩ := List.getElem_of_mem hx
      rw [List.length_take, List.length_map] at hj
      rw [List.getElem_take, List.getElem_map] at e
      have hjq : j < q.length := by omega
      have e2 : q[j] = q[i] := Int.ofNat.inj e
      exact List.pairwise_iff_getElem.1 hnd j i hjq hiq (by omega) e2
    simpa using this
  · intro y hy
    have hyl := need_lt hF hig hy
    have hyt := fine_time' hF hyl.1
    have b1 := (needOk_iff.1 (stK_iff.1 hst q[i] hig).1) y hy
    rw [time_at hyl.1] at b1
    have hyq : y.toNat ∈ q := (hmem _).2 hyl.1
    obtain ⟨j, hj, e⟩ := List.getElem_of_mem hyq
    have hji : j < i := by
      rcases Nat.lt_trichotomy j i with h | h | h
      · exact h
      · subst h; rw [e] at b1; omega
      · have := List.pairwise_iff_getElem.1 hs i j hiq hj h
        rw [decide_eq_true_eq, e] at this
        omega
    have : y ∈ (q.map Int.ofNat).take i := by
      have hy2 : y = Int.ofNat q[j] := by rw [e]; show y = ((y.toNat : Nat) : Int); omega
      rw [hy2]
      refine List.mem_iff_getElem.2 ⟨j, by rw [List.length_take, List.length_map]; omega, ?_⟩
      rw [List.getElem_take, List.getElem_map]
    simpa using this
theorem best_dom {g : List T} {m : List Int} {wk wk' : Int} {S : List Int} (hS : stV g m wk S = true) (hww : wk ≤ wk') (hsea : seaV g m wk' = true) : timeL g m wk' ≤ endC g S := by
  obtain ⟨o, ho, hso⟩ := sorted_ex hS
  obtain ⟨hval, hroom, hw1, _⟩ := canV_iff.1 (sea_can hsea).1
  have hF := valid_fine hval
  have hd := dom_all hS hww hF hroom hw1 ho hso o.length (Nat.le_refl _)
  rw [List.take_length] at hd
  have hv := os_valid hsea ho rfl
  have hmem : ∀ i : Nat, i < g.length → (i : Int) ∈ o := by
    have hP := Pla.all (m := m) (wk := wk') hF hroom hw1 ho o.length (Nat.le_refl _)
    rw [List.take_length] at hP
    exact fun i hi => full_mem hP.nd hP.rg (isOrd_at ho).1 hi
  rw [timeL_yes hsea]
  refine Int.le_trans (best_le ho) ?_
  unfold enO
  show maxL ((List.range g.length).map (endF g (osK g m wk' o o.length))) ≤ maxL ((List.range g.length).map (endF g S))
  refine maxL_le (maxL_nonneg _) ?_
  intro y hy
  obtain ⟨i, hi, rfl⟩ := List.mem_map.1 hy
  have h1 := hd i (hmem i (List.mem_range.1 hi))
  rw [Int.toNat_natCast] at h1
  have h2 : endF g S i ≤ maxL ((List.range g.length).map (endF g S)) := le_maxL (List.mem_map.2 ⟨i, hi, rfl⟩)
  unfold endF at h2 ⊢
  omega
end Go.Proofs.Ytgpmnfnliifegaa.Bs
namespace Go.Proofs.Ytgpmnfnliifegaa.Bs
theorem time_sea {g : List T} {m : List Int} {wk V : Int} (h : V = timeL g m wk) (h0 : ¬ V < 0) : seaV g m wk = true ∧ V = enO g m wk (bestC g m wk) := by
  cases hs : seaV g m wk
  · rw [timeL_no hs] at h; omega
  · exact ⟨rfl, by rw [h, timeL_yes hs]⟩
theorem sea_with {g : List T} {m : List Int} {wk wk' : Int} (h : seaV g m wk = true) (h1 : 1 ≤ wk') (h4 : wk' ≤ 4) : seaV g m wk' = true := by
  obtain ⟨hc, h5⟩ := sea_can h
  obtain ⟨a, b, _⟩ := canV_iff.1 hc
  unfold seaV
  rw [canV_iff.2 ⟨a, b, h1, h4⟩]
  simpa using h5
theorem best_valid {g : List T} {m : List Int} {wk : Int} (h : seaV g m wk = true) : stV g m wk (osK g m wk (bestC g m wk) (bestC g m wk).length) = true ∧ 0 ≤ enO g m wk (bestC g m wk) ∧ enO g m wk (bestC g m wk) ≤ sumT g := by
  obtain ⟨a, b, c, _⟩ := os_valid h (ords_ord (best_ord (m := m) (wk := wk) (canV_iff.1 (sea_can h).1).1)) rfl
  exact ⟨a, b, c⟩
theorem time_one {g : List T} {m : List Int} {wk : Int} (h : seaV g m wk = true) : timeL g m 1 = sumT g := by
  have h1 := sea_with h (Int.le_refl 1) (by decide)
  obtain ⟨a, b, c⟩ := best_valid h1
  rw [timeL_yes h1]
  have hl := least_le a
  rw [leastL_yes (sea_can h1).1] at hl
  have hg := (leastK_ge g m 1).2.1
  rw [Int.ediv_one] at hg
  have e : endC g (osK g m 1 (bestC g m 1) (bestC g m 1).length) = enO g m 1 (bestC g m 1) := rfl
  omega
theorem time_more {g : List T} {m : List Int} {wk V : Int} (h : V = timeL g m wk) (h0 : ¬ V < 0) : fine g = true ∧ (1 ≤ wk ∧ wk ≤ 4) ∧ (wk ≠ 4 → timeL g m (wk + 1) ≤ V) ∧ timeL g m 1 = sumT g := by
  obtain ⟨hs, hV⟩ := time_sea h h0
  obtain ⟨hv, _, h1, h4⟩ := canV_iff.1 (sea_can hs).1
  refine ⟨valid_fine hv, ⟨h1, h4⟩, fun hne => ?_, time_one hs⟩
  have := best_dom (best_valid hs).1 (show wk ≤ wk + 1 by omega) (sea_with hs (by omega) (by omega))
  rw [hV]
  exact this
end Go.Proofs.Ytgpmnfnliifegaa.Bs
namespace Go.Proofs.Ytgpmnfnliifegaa.Bs
def oneT : T := ⟨3, [], 0, 1⟩
def oneE (n : Nat) : List T := List.replicate n oneT
theorem one_len (n : Nat) : (oneE n).length = n := List.length_replicate
theorem one_bare (n : Nat) : (oneE n).map bare = oneE n := by unfold oneE; rw [List.map_replicate]; rfl
theorem need_one {n i : Nat} (hi : i < n) : need (oneE n) i = [] := by
  rw [need_at (by rw [one_len]; exact hi)]
  simp [oneE, oneT]
theorem one_valid {n : Nat} (h : n ≤ 8) : valid (oneE n) = true := by
  have hF : fine (oneE n) = true := by
    unfold fine
    simp only [Bool.and_eq_true, decide_eq_true_eq, List.all_eq_true]
    refine ⟨?_, by rw [one_len]; exact h⟩
    intro x hx
    rw [List.eq_of_mem_replicate hx, validT_iff]
    refine ⟨by decide, by decide, by decide, by decide, by decide, by decide, rfl⟩
  have hall : ∀ i : Nat, i < n → (i : Int) ∈ top (oneE n) := by
    intro i hi
    rcases Classical.em ((i : Int) ∈ top (oneE n)) with h1 | h1
    · exact h1
    · exfalso
      obtain ⟨x, hx, _⟩ := (stuck_iff (g := oneE n) (i := i) (by rw [one_len]; exact hi)).1 h1
      rw [need_one hi] at hx
      simp at hx
  unfold valid
  rw [hF]
  have h1 := pigeon _ _ hall
  have h2 := (top_dist (oneE n)).le
  rw [one_len] at h2 ⊢
  simp
  omega
theorem en_one {g : List T} {m o : List Int} (h : seaV g m 1 = true) (ho : isOrd g o = true) : enO g m 1 o = sumT g := by
  obtain ⟨a, b, c, _⟩ := os_valid h ho rfl
  have hl := least_le a
  rw [leastL_yes (sea_can h).1] at hl
  have hg := (leastK_ge g m 1).2.1
  rw [Int.ediv_one] at hg
  have e : endC g (osK g m 1 o o.length) = enO g m 1 o := rfl
  omega
theorem bst_const {g : List T} {m : List Int} {wk c : Int} {Ls : List (List Int)} (h : ∀ o ∈ Ls, enO g m wk o = c) : ∀ k, k < Ls.length → bstK g m wk Ls k = nth Ls 0 := by
  intro k
  induction k with
  | zero => intro _; rfl
  | succ k ih =>
    intro hk
    have h1 := h _ (bstK_mem (g := g) (m := m) (wk := wk) k (by omega : k < Ls.length))
    have h2 : enO g m wk (nth Ls (k + 1)) = c := by rw [nth_at hk]; exact h _ (List.getElem_mem hk)
    rw [bstK_no (by omega)]
    exact ih (by omega)
def idZ (n : Nat) : List Int := (List.range n).map Int.ofNat
theorem idZ_len (n : Nat) : (idZ n).length = n := by unfold idZ; simp
theorem idZ_succ (n : Nat) : idZ (n + 1) = idZ n ++ [(n : Int)] := by unfold idZ; rw [List.range_succ, List.map_append]; rfl
theorem idZ_mem {n : Nat} {i : Nat} : (i : Int) ∈ idZ n ↔ i < n := by
  unfold idZ
  rw [List.mem_map]
  constructor
  · rintro ⟨j, hj, e⟩
    have : j = i := Int.ofNat.inj e
    subst this
    exact List.mem_range.1 hj
  · intro h
    exact ⟨i, List.mem_range.2 h, rfl⟩
theorem idZ_at {n : Nat} {i : Nat} (hi : i < (idZ n).length) : (idZ n)[i] = (i : Int) := by
  simp [idZ]
theorem next_one {n k i : Nat} (hi : i < n) : okNext (oneE n) (idZ k) i = !decide (i < k) := by
  unfold okNext
  rw [need_one hi]
  by_cases h : i < k
  · have : (idZ k).contains (i : Int) = true := by simpa using idZ_mem.2 h
    rw [this]; simp [h]
  · have : (idZ k).contains (i : Int) = false := by rw [← Bool.not_eq_true]; simpa using fun h' => h (idZ_mem.1 h')
    rw [this]; simp [h]
theorem head_one {n : Nat} : ∀ (r k : Nat), k + r = n → (ordsF (oneE n) r (idZ k)).head? = some (idZ n) := by
  intro r
  induction r with
  | zero =>
    intro k hk
    obtain rfl : k = n := by omega
    rfl
  | succ r ih =>
    intro k hk
    rw [ordsF_succ]
    have h0 : ∀ j, j ≤ k → ordsK (oneE n) r (idZ k) j = [] := by
      intro j
      induction j with
      | zero => intro _; rfl
      | succ j ihj =>
        intro hj
        rw [ordsK_succ, ihj (by omega), next_one (by omega), if_neg (by simp; omega)]
        rfl
    have h1 : (ordsK (oneE n) r (idZ k) (k + 1)).head? = some (idZ n) := by
      rw [ordsK_succ, h0 k (Nat.le_refl _), next_one (by omega), if_pos (by simp), List.nil_append, ← idZ_succ]
      exact ih (k + 1) (by omega)
    have h2 : ∀ d, k + 1 + d ≤ n → (ordsK (oneE n) r (idZ k) (k + 1 + d)).head? = some (idZ n) := by
      intro d
      induction d with
      | zero => intro _; exact h1
      | succ d ihd =>
        intro hd
        rw [show k + 1 + (d + 1) = (k + 1 + d) + 1 by omega, ordsK_succ, List.head?_append, ihd (by omega)]
        rfl
    have := h2 (n - (k + 1)) (by omega)
    rw [show k + 1 + (n - (k + 1)) = n by omega] at this
    rw [one_len]
    exact this
theorem best_one {g : List T} {m L : List Int} {wk : Int} (hL : L = bestL g m wk) (h0 : ¬ L.length = 0) : L.length = g.length ∧ g.length ≤ 5 ∧ bestL (oneE g.length) m 1 = idZ g.length := by
  refine ⟨(best_law hL h0).1, ?_⟩
  cases hs : seaV g m wk
  · rw [bestL_no hs] at hL; rw [hL] at h0; exact absurd rfl h0
  obtain ⟨hc, h5⟩ := sea_can hs
  refine ⟨h5, ?_⟩
  have hv := one_valid (n := g.length) (by omega)
  have hse : seaV (oneE g.length) m 1 = true := by
    unfold seaV
    rw [canV_iff.2 ⟨hv, (canV_iff.1 hc).2.1, Int.le_refl 1, by decide⟩, one_len]
    simpa using h5
  rw [bestL_yes hse]
  have hh := head_one (n := g.length) g.length 0 (by omega)
  have hall : ∀ o ∈ ordsF (oneE g.length) (oneE g.length).length [], enO (oneE g.length) m 1 o = sumT (oneE g.length) := fun o ho => en_one hse (ords_ord ho)
  unfold bestC
  rw [one_len] at hall ⊢
  have hne : 0 < (ordsF (oneE g.length) g.length []).length := by
    rcases Nat.eq_zero_or_pos (ordsF (oneE g.length) g.length []).length with h | h
    · have := List.length_eq_zero_iff.1 h
      have hh' : (ordsF (oneE g.length) g.length []).head? = some (idZ g.length) := hh
      rw [this] at hh'
      cases hh'
    · exact h
  rw [bst_const hall _ (by omega)]
  unfold nth
  have hh' : (ordsF (oneE g.length) g.length []).head? = some (idZ g.length) := hh
  rw [List.head?_eq_getElem?] at hh'
  rw [hh']
  rfl
end Go.Proofs.Ytgpmnfnliifegaa.Bs
namespace Go.Proofs.Ytgpmnfnliifegaa.Bs
theorem take_get {g : List T} {n i : Nat} (hi : i < n) : (g.take n)[i]? = g[i]? := by rw [List.getElem?_take, if_pos hi]
theorem need_take {g : List T} {n i : Nat} (hi : i < n) : need (g.take n) i = need g i := by unfold need; rw [take_get hi]
theorem time_take {g : List T} {n i : Nat} (hi : i < n) : timeOf (g.take n) i = timeOf g i := by unfold timeOf; rw [take_get hi]
theorem pool_tk {g : List T} {n i : Nat} (hi : i < n) : poolOf (g.take n) i = poolOf g i := by unfold poolOf; rw [take_get hi]
theorem units_tk {g : List T} {n i : Nat} (hi : i < n) : unitsOf (g.take n) i = unitsOf g i := by unfold unitsOf; rw [take_get hi]
theorem used_take {g : List T} {n : Nat} {R : List Int} (h : ∀ x ∈ R, x.toNat < n) (p : Int) : usedC (g.take n) R p = usedC g R p := by
  unfold usedC
  congr 1
  apply List.map_congr_left
  intro x hx
  unfold unitF
  rw [pool_tk (h x hx), units_tk (h x hx)]
theorem fits_take {g : List T} {m : List Int} {n : Nat} {R : List Int} (h : ∀ x ∈ R, x.toNat < n) : fitsC (g.take n) m R = fitsC g m R := by
  rw [Bool.eq_iff_iff, fitsC_iff, fitsC_iff, used_take h, used_take h, used_take h]
theorem giZ_take {S : List Int} {n i : Nat} (hi : i < n) : giZ (S.take n) i = giZ S i := by unfold giZ; rw [List.getElem?_take, if_pos hi]
theorem giZ_snoc {S : List Int} {x : Int} {i : Nat} (hi : i < S.length) : giZ (S ++ [x]) i = giZ S i := by unfold giZ; rw [List.getElem?_append_left hi]
theorem giZ_last {S : List Int} {x : Int} {n : Nat} (hn : S.length = n) : giZ (S ++ [x]) n = x := by subst hn; rw [giZ_at (by simp)]; simp
theorem need_self {g : List T} (hv : valid g = true) {i : Nat} (hi : i < g.length) : (i : Int) ∉ need g i := by
  intro h
  obtain ⟨k, hk, e⟩ := List.getElem_of_mem ((top_dist g).full (valid_full hv) i hi)
  have := notUser hk
  rw [e, Int.toNat_natCast] at this
  exact this h
theorem less_down {g : List T} {m S : List Int} {wk : Int} {n : Nat} (hn : g.length = n + 1) (hv : valid (g.take n) = true) (h : stV g m wk S = true) : stV (g.take n) m wk (S.take n) = true ∧ endC (g.take n) (S.take n) ≤ endC g S := by
  obtain ⟨hcan, hck, hst⟩ := stV_iff.1 h
  obtain ⟨hval, hroom, hw1, hw4⟩ := canV_iff.1 hcan
  have hF := valid_fine hval
  have hF' := valid_fine hv
  have hl : (g.take n).length = n := by rw [List.length_take]; omega
  have hSl := clk_len hck
  constructor
  · refine stV_iff.2 ⟨canV_iff.2 ⟨hv, hroom, hw1, hw4⟩, clkV_iff.2 ⟨by rw [List.length_take, hl]; omega, fun i hi => ?_⟩, stK_iff.2 fun i hi => ?_⟩
    · rw [List.length_take] at hi
      rw [giZ_take (by omega)]
      exact clk_at hck i
    · rw [hl] at hi
      obtain ⟨a, b⟩ := stK_iff.1 hst i (by omega)
      constructor
      · refine needOk_iff.2 fun x hx => ?_
        have hx' := need_lt hF' (by omega) hx
        rw [hl] at hx'
        rw [need_take hi] at hx
        rw [giZ_take hx'.1, time_take hx'.1, giZ_take hi]
        exact needOk_iff.1 a x hx
      · rw [giZ_take hi]
        have hr := run_fits h (giZ S i)
        have hsub : ∀ x ∈ runAt (g.take n) (S.take n) (giZ S i), x.toNat < n ∧ x ∈ runAt g S (giZ S i) := by
          intro x hx
          obtain ⟨j, hj, q1, q2, rfl⟩ := mem_runAt.1 hx
          rw [hl] at hj
          rw [giZ_take hj] at q1 q2
          rw [time_take hj] at q2
          exact ⟨by simpa using hj, mem_runAt.2 ⟨j, by omega, q1, q2, rfl⟩⟩
        have hnd1 : (runAt (g.take n) (S.take n) (giZ S i)).Nodup := pick_nodup _ _
        have hnd2 : (runAt g S (giZ S i)).Nodup := pick_nodup _ _
        have hlen := nodup_le hnd1 (fun x hx => (hsub x hx).2)
        unfold fitN
        rw [Bool.and_eq_true, decide_eq_true_eq, fits_take (fun x hx => (hsub x hx).1)]
        exact ⟨by omega, fits_sub hF hnd1 hnd2 (fun x hx => (hsub x hx).2) hr.2⟩
  · refine maxL_le (maxL_nonneg _) ?_
    intro y hy
    obtain ⟨i, hi, rfl⟩ := List.mem_map.1 hy
    rw [List.mem_range, hl] at hi
    unfold endF
    rw [giZ_take hi, time_take hi]
    exact le_maxL (List.mem_map.2 ⟨i, List.mem_range.2 (by omega), rfl⟩)
theorem less_up {g : List T} {m S : List Int} {wk : Int} {n : Nat} (hn : g.length = n + 1) (hval : valid g = true) (h : stV (g.take n) m wk S = true) (hE : endC (g.take n) S ≤ 200) : stV g m wk (S ++ [endC (g.take n) S]) = true ∧ endC g (S ++ [endC (g.take n) S]) ≤ endC (g.take n) S + timeOf g n := by
  obtain ⟨hcan, hck, hst⟩ := stV_iff.1 h
  obtain ⟨hv, hroom, hw1, hw4⟩ := canV_iff.1 hcan
  have hF := valid_fine hval
  have hF' := valid_fine hv
  have hl : (g.take n).length = n := by rw [List.length_take]; omega
  have hSl := clk_len hck
  rw [hl] at hSl
  have hE0 : 0 ≤ endC (g.take n) S := maxL_nonneg _
  have hend : ∀ i, i < n → giZ S i + timeOf g i ≤ endC (g.take n) S := by
    intro i hi
    have : endF (g.take n) S i ≤ endC (g.take n) S := le_maxL (List.mem_map.2 ⟨i, List.mem_range.2 (by omega), rfl⟩)
    unfold endF at this
    rw [time_take hi] at this
    exact this
  generalize endC (g.take n) S = E at *
  have ht1 : ∀ i, i < g.length → 1 ≤ timeOf g i := fun i hi => by rw [time_at hi]; exact (fine_time' hF hi).1
  have hg0 : ∀ i, i < n → giZ (S ++ [E]) i = giZ S i := fun i hi => giZ_snoc (by omega)
  have hgn : giZ (S ++ [E]) n = E := giZ_last hSl
  have hnd : ∀ t, (runAt g (S ++ [E]) t).Nodup := fun t => pick_nodup _ _
  constructor
  · refine stV_iff.2 ⟨canV_iff.2 ⟨hval, hroom, hw1, hw4⟩, clkV_iff.2 ⟨by rw [List.length_append, List.length_singleton]; omega, fun i hi => ?_⟩, stK_iff.2 fun i hi => ?_⟩
    · rw [List.length_append, List.length_singleton] at hi
      by_cases e : i = n
      · subst e; rw [hgn]; omega
      · rw [hg0 i (by omega)]; exact clk_at hck i
    · by_cases e : i = n
      · subst e
        rw [hgn]
        constructor
        · refine needOk_iff.2 fun x hx => ?_
          have hx' := need_lt hF hi hx
          have hxn : x.toNat ≠ i := by
            intro e
            have hxi : x = (i : Int) := by omega
            rw [hxi] at hx
            exact need_self hval hi hx
          rw [hg0 x.toNat (by omega), hgn]
          exact hend x.toNat (by omega)
        · have hsub : ∀ x ∈ runAt g (S ++ [E]) E, x ∈ [(i : Int)] := by
            intro x hx
            obtain ⟨j, hj, q1, q2, rfl⟩ := mem_runAt.1 hx
            by_cases ej : j = i
            · rw [ej]; exact List.mem_singleton.2 rfl
            · rw [hg0 j (by omega)] at q2
              have := hend j (by omega)
              omega
          have hs1 : ([(i : Int)] : List Int).Nodup := List.nodup_cons.2 ⟨by simp, List.nodup_nil⟩
          have hlen := nodup_le (hnd E) hsub
          have hnil : runAt g ([] : List Int) (-1) = [] := by
            apply List.eq_nil_iff_forall_not_mem.2
            intro x hx
            obtain ⟨j, hj, q1, q2, rfl⟩ := mem_runAt.1 hx
            unfold giZ at q1
            simp at q1
          have hw := (wOk_step (a := i) hF hi (by rw [hnil]; exact fits_nil hroom)).1 (wOk_nil hF hroom hw1 hi hnil)
          rw [hnil] at hw
          unfold fitN
          rw [Bool.and_eq_true, decide_eq_true_eq]
          rw [List.length_singleton] at hlen
          exact ⟨by omega, fits_sub hF (hnd E) hs1 hsub hw.2⟩
      · have hin : i < n := by omega
        obtain ⟨a, b⟩ := stK_iff.1 hst i (by omega)
        constructor
        · refine needOk_iff.2 fun x hx => ?_
          have hx2 : x ∈ need (g.take n) i := by rw [need_take hin]; exact hx
          have hx' := need_lt hF' (by omega) hx2
          rw [hl] at hx'
          have := needOk_iff.1 a x hx2
          rw [time_take hx'.1] at this
          rw [hg0 x.toNat hx'.1, hg0 i hin]
          exact this
        · rw [hg0 i hin]
          have hr := run_fits h (giZ S i)
          have hi1 := hend i hin
          have hi2 := ht1 i hi
          have hsub : ∀ x ∈ runAt g (S ++ [E]) (giZ S i), x.toNat < n ∧ x ∈ runAt (g.take n) S (giZ S i) := by
            intro x hx
            obtain ⟨j, hj, q1, q2, rfl⟩ := mem_runAt.1 hx
            by_cases ej : j = n
            · subst ej; rw [hgn] at q1; omega
            · have hjn : j < n := by omega
              rw [hg0 j hjn] at q1 q2
              exact ⟨by simpa using hjn, mem_runAt.2 ⟨j, by omega, q1, by rw [time_take hjn]; exact q2, rfl⟩⟩
          have hnd2 : (runAt (g.take n) S (giZ S i)).Nodup := pick_nodup _ _
          have hlen := nodup_le (hnd (giZ S i)) (fun x hx => (hsub x hx).2)
          have hf := fits_sub hF' (hnd (giZ S i)) hnd2 (fun x hx => (hsub x hx).2) hr.2
          rw [fits_take (fun x hx => (hsub x hx).1)] at hf
          unfold fitN
          rw [Bool.and_eq_true, decide_eq_true_eq]
          exact ⟨by omega, hf⟩
  · have hn1 := ht1 n (by omega)
    refine maxL_le (by omega) ?_
    intro y hy
    obtain ⟨i, hi, rfl⟩ := List.mem_map.1 hy
    rw [List.mem_range] at hi
    unfold endF
    by_cases e : i = n
    · subst e; rw [hgn]; exact Int.le_refl _
    · rw [hg0 i (by omega)]
      have := hend i (by omega)
      omega
theorem time_less {g : List T} {m : List Int} {wk V : Int} {n : Nat} (h : V = timeL g m wk) (h0 : ¬ V < 0) (hn : g.length = n + 1) (hv : valid (g.take n) = true) : 0 ≤ timeL (g.take n) m wk ∧ timeL (g.take n) m wk ≤ V ∧ V ≤ timeL (g.take n) m wk + timeOf g n := by
  obtain ⟨hs, hV⟩ := time_sea h h0
  obtain ⟨hc, h5⟩ := sea_can hs
  obtain ⟨hval, hroom, hw1, hw4⟩ := canV_iff.1 hc
  have hl : (g.take n).length = n := by rw [List.length_take]; omega
  have hs' : seaV (g.take n) m wk = true := by
    unfold seaV
    rw [canV_iff.2 ⟨hv, hroom, hw1, hw4⟩, hl]
    simp
    omega
  have b1 := best_valid hs
  have b2 := best_valid hs'
  have hst := sumT_b2 (valid_fine hv)
  obtain ⟨d1, d2⟩ := less_down hn hv b1.1
  have e1 := best_dom d1 (Int.le_refl wk) hs'
  have et : timeL (g.take n) m wk = endC (g.take n) (osK (g.take n) m wk (bestC (g.take n) m wk) (bestC (g.take n) m wk).length) := timeL_yes hs'
  have eb : enO (g.take n) m wk (bestC (g.take n) m wk) = endC (g.take n) (osK (g.take n) m wk (bestC (g.take n) m wk) (bestC (g.take n) m wk).length) := rfl
  obtain ⟨u1, u2⟩ := less_up hn hval b2.1 (by omega)
  have e2 := best_dom u1 (Int.le_refl wk) hs
  have eV : V = endC g (osK g m wk (bestC g m wk) (bestC g m wk).length) := hV
  refine ⟨by omega, by omega, by omega⟩
theorem time_b160 {g : List T} {m : List Int} {wk V : Int} (h : V = timeL g m wk) (h0 : ¬ V < 0) : V ≤ 160 ∧ valid g = true := by
  obtain ⟨hs, hV⟩ := time_sea h h0
  have hv := (canV_iff.1 (sea_can hs).1).1
  have b1 := best_valid hs
  have b2 := sumT_b2 (valid_fine hv)
  exact ⟨by omega, hv⟩
end Go.Proofs.Ytgpmnfnliifegaa.Bs
