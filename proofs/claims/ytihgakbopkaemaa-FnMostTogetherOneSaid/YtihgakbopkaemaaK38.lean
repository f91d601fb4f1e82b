/-
  MERGED TEXTS: Math49 Math50 Math51 Math52.
-/
import Derived.Test.YtihgakbopkaemaaK16
import Derived.Test.YtihgakbopkaemaaK20
import Derived.Test.YtihgakbopkaemaaMath44
namespace Go.Proofs.Ytihgakbopkaemaa.Bs
def wOk (g : List T) (m : List Int) (wk : Int) (S : List Int) (a : Nat) (t : Int) : Bool := decide (((runAt g S t).length : Int) < wk) && decide (usedC g (runAt g S t) (poolOf g a) + unitsOf g a ≤ giZ m (poolOf g a).toNat)
def fitW (g : List T) (m : List Int) (wk : Int) (S : List Int) (a : Nat) (now : Int) : Bool := (List.range (timeOf g a).toNat).all fun d => wOk g m wk S a (now + d)
def seek (g : List T) (m : List Int) (wk : Int) (S : List Int) (a : Nat) : Nat → Int → Int
  | 0, n => n
  | f + 1, n => if fitW g m wk S a n then n else seek g m wk S a f (n + 1)
def seekT (g : List T) (m : List Int) (wk : Int) (S : List Int) (a : Nat) : Int := seek g m wk S a 200 (needsOv g (giZ S) a)
def osStep (g : List T) (m : List Int) (wk : Int) (S : List Int) (x : Int) : List Int := S.set x.toNat (seekT g m wk S x.toNat)
def osK (g : List T) (m : List Int) (wk : Int) (l : List Int) (k : Nat) : List Int := (l.take k).foldl (osStep g m wk) (List.replicate g.length 200)
def isOrd (g : List T) (l : List Int) : Bool := decide (l.length = g.length) && (List.range l.length).all fun i => decide (0 ≤ giZ l i ∧ giZ l i ≤ (g.length : Int) - 1) && okNext g (l.take i) (giZ l i).toNat
def seaV (g : List T) (m : List Int) (wk : Int) : Bool := canV g m wk && decide (g.length ≤ 5)
def osL (g : List T) (m : List Int) (wk : Int) (l : List Int) : List Int := if seaV g m wk && isOrd g l then osK g m wk l l.length else []
theorem osK_succ {g : List T} {m : List Int} {wk : Int} {l : List Int} {k : Nat} (hk : k < l.length) : osK g m wk l (k + 1) = osStep g m wk (osK g m wk l k) l[k] := by
  unfold osK
  rw [List.take_succ_eq_append_getElem hk, List.foldl_append]
  rfl
/-- the least time from which on a task can run -/
structure Lst (g : List T) (m : List Int) (wk : Int) (S : List Int) (a : Nat) (R : Int) : Prop where
  ge : needsOv g (giZ S) a ≤ R
  fit : fitW g m wk S a R = true
  no : ∀ j, needsOv g (giZ S) a ≤ j → j < R → fitW g m wk S a j = false
theorem Lst.unique {g : List T} {m : List Int} {wk : Int} {S : List Int} {a : Nat} {R R' : Int} (h : Lst g m wk S a R) (h' : Lst g m wk S a R') : R = R' := by
  rcases Int.lt_trichotomy R R' with e | e | e
  · have := h'.no R h.ge e; rw [h.fit] at this; cases this
  · exact e
  · have := h.no R' h'.ge e; rw [h'.fit] at this; cases this
theorem seek_lst {g : List T} {m : List Int} {wk : Int} {S : List Int} {a : Nat} {B : Int} (hB : fitW g m wk S a B = true) : ∀ (f : Nat) (n : Int), needsOv g (giZ S) a ≤ n → n ≤ B → B ≤ n + f → (∀ j, needsOv g (giZ S) a ≤ j → j < n → fitW g m wk S a j = false) → Lst g m wk S a (seek g m wk S a f n) ∧ seek g m wk S a f n ≤ B := by
  intro f
  induction f with
  | zero =>
    intro n h1 h2 h3 h4
    have : n = B := by omega
    subst this
    exact ⟨⟨h1, hB, h4⟩, Int.le_refl _⟩
  | succ f ih =>
    intro n h1 h2 h3 h4
    unfold seek
    by_cases hf : fitW g m wk S a n = true
    · rw [if_pos hf]
      exact ⟨⟨h1, hf, h4⟩, h2⟩
    · have hf2 : fitW g m wk S a n = false := by simpa using hf
      rw [if_neg hf]
      have hne : n ≠ B := by rintro rfl; exact hf hB
      refine ih (n + 1) (by omega) (by omega) (by omega) ?_
      intro j hj hlt
      by_cases e : j = n
      · subst e; exact hf2
      · exact h4 j hj (by omega)
def smT (g : List T) (l : List Int) : Int := sumZ (l.map fun x => timeOf g x.toNat)
theorem smT_snoc (g : List T) (l : List Int) (x : Int) : smT g (l ++ [x]) = smT g l + timeOf g x.toNat := by
  unfold smT
  rw [List.map_append, sumZ_append]
  simp [sumZ]
theorem smT_b {g : List T} (hF : fine g = true) : ∀ l : List Int, 0 ≤ smT g l ∧ smT g l ≤ 20 * l.length := by
  intro l
  induction l with
  | nil => simp [smT, sumZ]
  | cons x r ih =>
    have := time_b hF x.toNat
    unfold smT at *
    simp only [List.map_cons, sumZ, List.length_cons]
    omega
/-- what has been placed -/
structure Pla (g : List T) (m : List Int) (wk : Int) (S l : List Int) : Prop where
  len : S.length = g.length
  nd : l.Nodup
  rg : ∀ x ∈ l, 0 ≤ x ∧ x < g.length
  un : ∀ i, i < g.length → (i : Int) ∉ l → giZ S i = 200
  pl : ∀ i, i < g.length → (i : Int) ∈ l → 0 ≤ giZ S i ∧ giZ S i + timeOf g i ≤ smT g l
  fit : ∀ t : Int, t < 200 → ((runAt g S t).length : Int) ≤ wk ∧ fitsC g m (runAt g S t) = true
  nb : ∀ x ∈ l, ∀ y ∈ need g x.toNat, y ∈ l ∧ giZ S y.toNat + timeOf g y.toNat ≤ giZ S x.toNat
theorem Pla.sm {g : List T} {m : List Int} {wk : Int} {S l : List Int} (h : Pla g m wk S l) (hF : fine g = true) : 0 ≤ smT g l ∧ smT g l ≤ 160 := by
  have h1 := smT_b hF l
  have h8 := fine_len hF
  have h2 : l.length ≤ g.length := by
    have := pick_of h.nd h.rg
    have := pick_len g.length (fun i => l.contains (i : Int))
    omega
  omega
theorem Pla.b {g : List T} {m : List Int} {wk : Int} {S l : List Int} (h : Pla g m wk S l) (hF : fine g = true) (i : Nat) : 0 ≤ giZ S i ∧ giZ S i ≤ 200 := by
  have hs := h.sm hF
  by_cases hi : i < g.length
  · rcases Classical.em ((i : Int) ∈ l) with e | e
    · have := h.pl i hi e
      have := time_b hF i
      omega
    · have := h.un i hi e; omega
  · have : giZ S i = 0 := by unfold giZ; rw [List.getElem?_eq_none (by rw [h.len]; omega)]
    omega
theorem Pla.mem_run {g : List T} {m : List Int} {wk : Int} {S l : List Int} (h : Pla g m wk S l) {t : Int} (ht : t < 200) {x : Int} (hx : x ∈ runAt g S t) : x ∈ l := by
  obtain ⟨j, hj, h1, _, rfl⟩ := mem_runAt.1 hx
  rcases Classical.em ((j : Int) ∈ l) with e | e
  · exact e
  · have := h.un j hj e; omega
theorem Pla.empty {g : List T} {m : List Int} {wk : Int} {S l : List Int} (h : Pla g m wk S l) {t : Int} (h1 : smT g l ≤ t) (h2 : t < 200) : runAt g S t = [] := by
  rw [List.eq_nil_iff_forall_not_mem]
  intro x hx
  have hm := h.mem_run h2 hx
  obtain ⟨j, hj, _, h4, rfl⟩ := mem_runAt.1 hx
  have := h.pl j hj hm
  omega
theorem room_at3 {m : List Int} (hm : roomOk m = true) {k : Nat} (hk : k < 3) : 4 ≤ giZ m k ∧ giZ m k ≤ 8 := by
  have hm3 : m.length = 3 := roomOk_len hm
  rw [giZ_at (by omega)]
  unfold roomOk at hm
  rw [Bool.and_eq_true] at hm
  exact allInB_mem hm.2 (List.getElem_mem (show k < m.length by omega))
theorem wOk_nil {g : List T} {m : List Int} {wk : Int} {S : List Int} {a : Nat} {t : Int} (hF : fine g = true) (hm : roomOk m = true) (hw : 1 ≤ wk) (ha : a < g.length) (h : runAt g S t = []) : wOk g m wk S a t = true := by
  unfold wOk
  rw [h, pool_at ha, units_at ha]
  have hf := fine_task hF ha
  have hr := room_at3 hm (k := (g[a].pool).toNat) (by omega)
  rw [Bool.and_eq_true, decide_eq_true_eq, decide_eq_true_eq]
  exact ⟨by simp; omega, by simp [usedC, sumZ]; omega⟩
theorem fitW_iff {g : List T} {m : List Int} {wk : Int} {S : List Int} {a : Nat} {now : Int} (hF : fine g = true) : fitW g m wk S a now = true ↔ ∀ t : Int, now ≤ t → t < now + timeOf g a → wOk g m wk S a t = true := by
  have ht := time_b hF a
  unfold fitW
  simp only [List.all_eq_true, List.mem_range]
  constructor
  · intro h t h1 h2
    have := h (t - now).toNat (by omega)
    rw [show now + (((t - now).toNat : Nat) : Int) = t from by omega] at this
    exact this
  · intro h d hd
    exact h _ (by omega) (by omega)
theorem Pla.lst {g : List T} {m : List Int} {wk : Int} {S l : List Int} (h : Pla g m wk S l) (hF : fine g = true) (hm : roomOk m = true) (hw : 1 ≤ wk) {a : Nat} (ha : a < g.length) (hn : ∀ y ∈ need g a, y ∈ l) : Lst g m wk S a (seekT g m wk S a) ∧ 0 ≤ seekT g m wk S a ∧ seekT g m wk S a ≤ smT g l ∧ 0 ≤ needsOv g (giZ S) a ∧ needsOv g (giZ S) a ≤ smT g l := by
  have hs := h.sm hF
  have ht := time_b hF a
  have h0 : 0 ≤ needsOv g (giZ S) a := maxL_nonneg _
  have h1 : needsOv g (giZ S) a ≤ smT g l := by
    refine maxL_le hs.1 ?_
    intro y hy
    obtain ⟨x, hx, rfl⟩ := List.mem_map.1 hy
    have hxl := need_lt hF ha hx
    have := h.pl x.toNat hxl.1 (by rw [show ((x.toNat : Nat) : Int) = x from by omega]; exact hn x hx)
    exact this.2
  have hB : fitW g m wk S a (smT g l) = true := (fitW_iff hF).2 (fun t a1 a2 => wOk_nil hF hm hw ha (h.empty a1 (by omega)))
  have hq := seek_lst hB 200 (needsOv g (giZ S) a) (Int.le_refl _) h1 (by omega) (fun j h1 h2 => by omega)
  have hge : needsOv g (giZ S) a ≤ seekT g m wk S a := hq.1.ge
  exact ⟨hq.1, by omega, hq.2, h0, h1⟩
theorem run_set {g : List T} {S : List Int} {a : Nat} {R t : Int} (ha : a < g.length) (hl : S.length = g.length) (hu : giZ S a = 200) (ht : t < 200) : ((R ≤ t ∧ t < R + timeOf g a) → (runAt g (S.set a R) t).Perm (runAt g S t ++ [(a : Int)])) ∧ (¬ (R ≤ t ∧ t < R + timeOf g a) → runAt g (S.set a R) t = runAt g S t) := by
  have hnot : (a : Int) ∉ runAt g S t := by
    intro h
    obtain ⟨j, _, h1, _, e⟩ := mem_runAt.1 h
    have : j = a := by omega
    subst this
    omega
  constructor
  · rintro ⟨h1, h2⟩
    have n1 : (runAt g (S.set a R) t).Nodup := pick_nodup _ _
    have n2 : (runAt g S t ++ [(a : Int)]).Nodup := List.nodup_append.2 ⟨pick_nodup _ _, List.nodup_cons.2 ⟨by simp, List.nodup_nil⟩, fun x hx y hy e => by rw [List.mem_singleton] at hy; subst hy; subst e; exact hnot hx⟩
    rw [List.perm_ext_iff_of_nodup n1 n2]
    intro x
    rw [List.mem_append, List.mem_singleton]
    constructor
    · intro hx
      obtain ⟨j, hj, a1, a2, rfl⟩ := mem_runAt.1 hx
      by_cases e : j = a
      · right; rw [e]
      · left
        rw [giZ_set, if_neg (by omega)] at a1 a2
        exact mem_runAt.2 ⟨j, hj, a1, a2, rfl⟩
    · rintro (hx | rfl)
      · obtain ⟨j, hj, a1, a2, rfl⟩ := mem_runAt.1 hx
        have e : j ≠ a := by rintro rfl; exact hnot hx
        exact mem_runAt.2 ⟨j, hj, by rw [giZ_set, if_neg (by omega)]; exact a1, by rw [giZ_set, if_neg (by omega)]; exact a2, rfl⟩
      · exact mem_runAt.2 ⟨a, ha, by rw [giZ_set, if_pos ⟨rfl, by omega⟩]; exact h1, by rw [giZ_set, if_pos ⟨rfl, by omega⟩]; exact h2, rfl⟩
  · intro h
    unfold runAt
    apply pick_congr
    intro i hi
    unfold runAp
    rw [giZ_set]
    by_cases e : i = a
    · subst e
      rw [if_pos ⟨rfl, by omega⟩, hu]
      have h1 : decide ((200 : Int) ≤ t) = false := by simp; omega
      rw [h1, Bool.false_and, ← Bool.not_eq_true, Bool.and_eq_true, decide_eq_true_eq, decide_eq_true_eq]
      exact h
    · rw [if_neg (by omega)]
theorem used_perm {g : List T} {a b : List Int} (h : a.Perm b) (p : Int) : usedC g a p = usedC g b p := sumZ_perm (h.map _)
theorem fits_perm {g : List T} {m a b : List Int} (h : a.Perm b) : fitsC g m a = fitsC g m b := by
  rw [Bool.eq_iff_iff, fitsC_iff, fitsC_iff, used_perm h, used_perm h, used_perm h]
theorem wOk_step {g : List T} {m : List Int} {wk : Int} {S : List Int} {a : Nat} {t : Int} (hF : fine g = true) (ha : a < g.length) (h : fitsC g m (runAt g S t) = true) : wOk g m wk S a t = true ↔ ((runAt g S t ++ [(a : Int)]).length : Int) ≤ wk ∧ fitsC g m (runAt g S t ++ [(a : Int)]) = true := by
  unfold wOk
  rw [fits_step hF ha h, pool_at ha, units_at ha, Bool.and_eq_true, decide_eq_true_eq, decide_eq_true_eq, List.length_append, List.length_singleton]
  constructor
  · rintro ⟨h1, h2⟩; exact ⟨by omega, h2⟩
  · rintro ⟨h1, h2⟩; exact ⟨by omega, h2⟩
/-- a task more, at a time from which on it can run -/
theorem Pla.more {g : List T} {m : List Int} {wk : Int} {S l : List Int} (h : Pla g m wk S l) (hF : fine g = true) {a : Nat} (ha : a < g.length) (hna : (a : Int) ∉ l) {R : Int} (hfw : fitW g m wk S a R = true) : ∀ t : Int, t < 200 → ((runAt g (S.set a R) t).length : Int) ≤ wk ∧ fitsC g m (runAt g (S.set a R) t) = true := by
  intro t ht
  obtain ⟨h1, h2⟩ := run_set (R := R) ha h.len (h.un a ha hna) ht
  by_cases hw : R ≤ t ∧ t < R + timeOf g a
  · have hp := h1 hw
    rw [hp.length_eq, fits_perm hp]
    exact (wOk_step hF ha (h.fit t ht).2).1 ((fitW_iff hF).1 hfw t hw.1 hw.2)
  · rw [h2 hw]
    exact h.fit t ht
theorem Pla.step {g : List T} {m : List Int} {wk : Int} {S l : List Int} (h : Pla g m wk S l) (hF : fine g = true) (hm : roomOk m = true) (hw : 1 ≤ wk) {a : Nat} (ha : a < g.length) (hna : (a : Int) ∉ l) (hn : ∀ y ∈ need g a, y ∈ l) : Pla g m wk (S.set a (seekT g m wk S a)) (l ++ [(a : Int)]) := by
  obtain ⟨hl, hr0, hr1, _, _⟩ := h.lst hF hm hw ha hn
  have hta := time_b hF a
  have hsm := smT_snoc g l (a : Int)
  rw [Int.toNat_natCast] at hsm
  obtain ⟨nd2, rg2⟩ : (l ++ [(a : Int)]).Nodup ∧ ∀ x ∈ l ++ [(a : Int)], 0 ≤ x ∧ x < g.length := snoc_ok h.nd h.rg ha (by simpa using hna)
  have hsa : ∀ i, i ≠ a → giZ (S.set a (seekT g m wk S a)) i = giZ S i := fun i hi => by rw [giZ_set, if_neg (by omega)]
  have hsx : giZ (S.set a (seekT g m wk S a)) a = seekT g m wk S a := by rw [giZ_set, if_pos ⟨rfl, by rw [h.len]; exact ha⟩]
  refine ⟨by rw [List.length_set]; exact h.len, nd2, rg2, ?_, ?_, h.more hF ha hna hl.fit, ?_⟩
  · intro i hi hni
    rw [List.mem_append, List.mem_singleton] at hni
    have hne : i ≠ a := by rintro rfl; exact hni (.inr rfl)
    rw [hsa i hne]
    exact h.un i hi (fun e => hni (.inl e))
  · intro i hi hmem
    by_cases e : i = a
    · subst e
      rw [hsx, hsm]
      omega
    · rw [hsa i e, hsm]
      rw [List.mem_append, List.mem_singleton] at hmem
      have := h.pl i hi (hmem.resolve_right (by omega))
      omega
  · intro x hx y hy
    rw [List.mem_append, List.mem_singleton] at hx
    rcases hx with hx | rfl
    · obtain ⟨h1, h2⟩ := h.nb x hx y hy
      have hxr := h.rg x hx
      have hyr := h.rg y h1
      have hxa : x.toNat ≠ a := by rintro rfl; exact hna (by rw [show ((x.toNat : Nat) : Int) = x from by omega]; exact hx)
      have hya : y.toNat ≠ a := by rintro rfl; exact hna (by rw [show ((y.toNat : Nat) : Int) = y from by omega]; exact h1)
      rw [hsa _ hxa, hsa _ hya]
      exact ⟨by rw [List.mem_append]; exact .inl h1, h2⟩
    · rw [Int.toNat_natCast] at hy ⊢
      have hyl := hn y hy
      have hyr := h.rg y hyl
      have hya : y.toNat ≠ a := by rintro rfl; exact hna (by rw [show ((y.toNat : Nat) : Int) = y from by omega]; exact hyl)
      rw [hsx, hsa _ hya]
      refine ⟨by rw [List.mem_append]; exact .inl hyl, ?_⟩
      have := le_maxL (List.mem_map_of_mem (f := ovF g (giZ S)) hy)
      have h3 : ovF g (giZ S) y ≤ needsOv g (giZ S) a := this
      have h4 := hl.ge
      have h5 : ovF g (giZ S) y = giZ S y.toNat + timeOf g y.toNat := rfl
      omega
theorem Pla.start {g : List T} {m : List Int} {wk : Int} (hm : roomOk m = true) (hw : 1 ≤ wk) : Pla g m wk (List.replicate g.length 200) [] := by
  have hz : ∀ i, i < g.length → giZ (List.replicate g.length 200) i = 200 := fun i hi => by rw [giZ_at (by simpa using hi)]; simp
  refine ⟨by simp, by simp, by simp, fun i hi _ => hz i hi, fun i _ h => by simp at h, ?_, fun x hx => by simp at hx⟩
  intro t ht
  have he : runAt g (List.replicate g.length 200) t = [] := by
    rw [List.eq_nil_iff_forall_not_mem]
    intro x hx
    obtain ⟨j, hj, h1, _, _⟩ := mem_runAt.1 hx
    rw [hz j hj] at h1
    omega
  rw [he]
  exact ⟨by simp; omega, fits_nil hm⟩
theorem isOrd_at {g : List T} {l : List Int} (h : isOrd g l = true) : l.length = g.length ∧ ∀ i (hi : i < l.length), (0 ≤ l[i] ∧ l[i] < g.length) ∧ okNext g (l.take i) l[i].toNat = true := by
  unfold isOrd at h
  rw [Bool.and_eq_true, decide_eq_true_eq, List.all_eq_true] at h
  refine ⟨h.1, fun i hi => ?_⟩
  have := h.2 i (by simpa using hi)
  rw [giZ_at hi, Bool.and_eq_true, decide_eq_true_eq] at this
  exact ⟨by omega, this.2⟩
theorem Pla.all {g : List T} {m : List Int} {wk : Int} {l : List Int} (hF : fine g = true) (hm : roomOk m = true) (hw : 1 ≤ wk) (ho : isOrd g l = true) : ∀ k, k ≤ l.length → Pla g m wk (osK g m wk l k) (l.take k) := by
  obtain ⟨hl, hat⟩ := isOrd_at ho
  intro k
  induction k with
  | zero => intro _; exact Pla.start hm hw
  | succ k ih =>
    intro hk
    have hkl : k < l.length := by omega
    obtain ⟨hx, hok⟩ := hat k hkl
    rw [osK_succ hkl, List.take_succ_eq_append_getElem hkl]
    have hnot := ok_not hok
    rw [show ((l[k].toNat : Nat) : Int) = l[k] from by omega] at hnot
    have := (ih (by omega)).step hF hm hw (a := l[k].toNat) (by omega) (by rw [show ((l[k].toNat : Nat) : Int) = l[k] from by omega]; simpa using hnot) (fun y hy => by
      unfold okNext at hok
      rw [Bool.and_eq_true, List.all_eq_true] at hok
      simpa using hok.2 y hy)
    rw [show ((l[k].toNat : Nat) : Int) = l[k] from by omega] at this
    exact this
/-- the next end of a placed task -/
def Nx (g : List T) (S l : List Int) (time nx : Int) : Prop := (nx = time ∧ ∀ i : Nat, (i : Int) ∈ l → giZ S i + timeOf g i ≤ time) ∨ (time < nx ∧ ∀ i : Nat, (i : Int) ∈ l → time < giZ S i + timeOf g i → nx ≤ giZ S i + timeOf g i)
theorem Pla.jump {g : List T} {m : List Int} {wk : Int} {S l : List Int} (h : Pla g m wk S l) (hF : fine g = true) (hm : roomOk m = true) (hw : 1 ≤ wk) {a : Nat} (ha : a < g.length) {time nx : Int} (ht : time ≤ 160) (hno : fitW g m wk S a time = false) (hx : Nx g S l time nx) : time < nx ∧ ∀ j, time ≤ j → j < nx → j ≤ 160 → fitW g m wk S a j = false := by
  have hta := time_b hF a
  have hta1 : 1 ≤ timeOf g a := by rw [time_at ha]; exact (fine_time' hF ha).1
  rcases hx with ⟨rfl, hall⟩ | ⟨hlt, hall⟩
  · exfalso
    have : fitW g m wk S a nx = true := (fitW_iff hF).2 (fun t a1 a2 => wOk_nil hF hm hw ha (by
      rw [List.eq_nil_iff_forall_not_mem]
      intro x hx
      have hml := h.mem_run (by omega) hx
      obtain ⟨j, hj, _, h4, rfl⟩ := mem_runAt.1 hx
      have := hall j hml
      omega))
    rw [hno] at this
    cases this
  · refine ⟨hlt, ?_⟩
    intro j h1 h2 h160
    rcases Bool.eq_false_or_eq_true (fitW g m wk S a j) with e | e
    · exfalso
      have hj := (fitW_iff hF).1 e
      have : fitW g m wk S a time = true := (fitW_iff hF).2 (fun t a1 a2 => by
        rcases Int.lt_or_le t j with c | c
        · have hjj := hj j (Int.le_refl _) (by omega)
          have hsub : ∀ x ∈ runAt g S t, x ∈ runAt g S j := by
            intro x hx
            have hml := h.mem_run (by omega) hx
            obtain ⟨i, hi, b1, b2, rfl⟩ := mem_runAt.1 hx
            have := hall i hml (by omega)
            exact mem_runAt.2 ⟨i, hi, by omega, by omega, rfl⟩
          unfold wOk at hjj ⊢
          rw [Bool.and_eq_true, decide_eq_true_eq, decide_eq_true_eq] at hjj ⊢
          have hl2 : (runAt g S t).length ≤ (runAt g S j).length := nodup_le (pick_nodup _ _) hsub
          have hu := used_sub hF (pick_nodup (runAp g S t) g.length) (pick_nodup (runAp g S j) g.length) hsub (poolOf g a)
          have hu2 : usedC g (runAt g S t) (poolOf g a) ≤ usedC g (runAt g S j) (poolOf g a) := hu
          exact ⟨by omega, by omega⟩
        · exact hj t c (by omega))
      rw [hno] at this
      cases this
    · exact e
/-- what the program's test says -/
theorem Pla.runB {g : List T} {m : List Int} {wk : Int} {S l : List Int} (h : Pla g m wk S l) {f : Nat → Int} (hf : ∀ i : Nat, (i : Int) ∈ l → f i = giZ S i) {t : Int} (ht : t < 200) : runB g f (bits l) t = runAt g S t := by
  unfold Bs.runB runAt
  apply pick_congr
  intro i hi
  unfold runBp runAp
  rw [bits_test l (fun x hx => (h.rg x hx).1)]
  cases hc : l.contains (i : Int)
  · have hni : (i : Int) ∉ l := by simpa using hc
    rw [h.un i hi hni]
    have : decide ((200 : Int) ≤ t) = false := by simp; omega
    rw [this]
    rfl
  · have hmi : (i : Int) ∈ l := by simpa using hc
    rw [hf i hmi, Bool.true_and]
theorem run_latest2 {g : List T} {S : List Int} {now : Int} (hne : runAt g S now ≠ []) : ∃ i : Nat, i < g.length ∧ (i : Int) ∈ runAt g S now ∧ (∀ x ∈ runAt g S now, x ∈ runAt g S (giZ S i)) := by
  have key : ∀ l : List Int, (∀ x ∈ l, x ∈ runAt g S now) → l ≠ [] → ∃ i : Nat, (i : Int) ∈ runAt g S now ∧ ∀ x ∈ l, giZ S x.toNat ≤ giZ S i := by
    intro l
    induction l with
    | nil => intro _ h; exact absurd rfl h
    | cons x r ih =>
      intro hx _
      obtain ⟨j, hj, _, _, rfl⟩ := mem_runAt.1 (hx x (List.mem_cons_self ..))
      by_cases hr : r = []
      · subst hr
        refine ⟨j, hx _ (List.mem_cons_self ..), ?_⟩
        intro y hy
        rw [List.mem_singleton] at hy
        subst hy
        rw [Int.toNat_natCast]
        omega
      · obtain ⟨i, h1, h2⟩ := ih (fun y hy => hx y (List.mem_cons_of_mem _ hy)) hr
        by_cases hc : giZ S j ≤ giZ S i
        · refine ⟨i, h1, ?_⟩
          intro y hy
          rw [List.mem_cons] at hy
          rcases hy with rfl | hy
          · rw [Int.toNat_natCast]; exact hc
          · exact h2 y hy
        · refine ⟨j, hx _ (List.mem_cons_self ..), ?_⟩
          intro y hy
          rw [List.mem_cons] at hy
          rcases hy with rfl | hy
          · rw [Int.toNat_natCast]; omega
          · have := h2 y hy; omega
  obtain ⟨i, h1, h2⟩ := key _ (fun _ h => h) hne
  obtain ⟨i', hi, a, b, e⟩ := mem_runAt.1 h1
  have e : i = i' := by omega
  subst e
  refine ⟨i, hi, h1, ?_⟩
  intro x hx
  obtain ⟨j, hj, c, d, rfl⟩ := mem_runAt.1 hx
  have h3 := h2 _ hx
  rw [Int.toNat_natCast] at h3
  exact mem_runAt.2 ⟨j, hj, h3, by omega, rfl⟩
theorem Pla.test {g : List T} {m : List Int} {wk : Int} {S l : List Int} (h : Pla g m wk S l) (hF : fine g = true) {f : Nat → Int} (hf : ∀ i : Nat, (i : Int) ∈ l → f i = giZ S i) {a : Nat} (ha : a < g.length) (hna : (a : Int) ∉ l) {time : Int} (h0 : 0 ≤ time) (h160 : time ≤ 160) : fitB g m wk (upd f a time) (bits l ||| 1 <<< a) = fitW g m wk S a time := by
  have hta := time_b hF a
  have hta1 : 1 ≤ timeOf g a := by rw [time_at ha]; exact (fine_time' hF ha).1
  have hsm := h.sm hF
  have hSl : (S.set a time).length = g.length := by rw [List.length_set]; exact h.len
  have hga : giZ (S.set a time) a = time := by rw [giZ_set, if_pos ⟨rfl, by rw [h.len]; exact ha⟩]
  have hgn : ∀ i, i ≠ a → giZ (S.set a time) i = giZ S i := fun i hi => by rw [giZ_set, if_neg (by omega)]
  have hrun : ∀ t : Int, t < 200 → Bs.runB g (upd f a time) (bits l ||| 1 <<< a) t = runAt g (S.set a time) t := by
    intro t ht
    unfold Bs.runB runAt
    apply pick_congr
    intro i hi
    unfold runBp runAp
    rw [Nat.testBit_or, bits_test l (fun x hx => (h.rg x hx).1), Nat.one_shiftLeft, Nat.testBit_two_pow]
    by_cases e : i = a
    · subst e
      rw [hga, upd_at]
      simp
    · rw [hgn i e, upd_ne _ _ e]
      have e2 : decide (a = i) = false := by simp; omega
      rw [e2, Bool.or_false]
      cases hc : l.contains (i : Int)
      · have hni : (i : Int) ∉ l := by simpa using hc
        rw [h.un i hi hni]
        have : decide ((200 : Int) ≤ t) = false := by simp; omega
        rw [this]
        rfl
      · have hmi : (i : Int) ∈ l := by simpa using hc
        rw [hf i hmi, Bool.true_and]
  have hst : ∀ i, i < g.length → (bits l ||| 1 <<< a).testBit i = true → upd f a time i = giZ (S.set a time) i ∧ giZ (S.set a time) i < 200 := by
    intro i hi hb
    by_cases e : i = a
    · subst e
      rw [hga, upd_at]
      exact ⟨rfl, by omega⟩
    · rw [Nat.testBit_or, bits_test l (fun x hx => (h.rg x hx).1), Nat.one_shiftLeft, Nat.testBit_two_pow, show decide (a = i) = false from by simp; omega, Bool.or_false] at hb
      have hmi : (i : Int) ∈ l := by simpa using hb
      rw [hgn i e, upd_ne _ _ e, hf i hmi]
      have h1 := h.pl i hi hmi
      have h2 := time_b hF i
      exact ⟨rfl, by omega⟩
  rw [Bool.eq_iff_iff]
  constructor
  · intro hfb
    unfold fitB at hfb
    rw [List.all_eq_true] at hfb
    refine (fitW_iff hF).2 ?_
    intro t h1 h2
    have ht : t < 200 := by omega
    obtain ⟨hp, _⟩ := run_set (R := time) ha h.len (h.un a ha hna) ht
    have hp := hp ⟨h1, h2⟩
    have hne : runAt g (S.set a time) t ≠ [] := by
      intro e
      rw [e] at hp
      have := hp.length_eq
      simp at this
    obtain ⟨i, hi, hir, hsub⟩ := run_latest2 hne
    have hbit : (bits l ||| 1 <<< a).testBit i = true := by
      rw [← hrun t ht] at hir
      have := (mem_pick_nat _ _ _).1 hir
      unfold runBp at this
      rw [Bool.and_eq_true] at this
      exact this.2.1
    have hfi := hfb i (by simpa using hi)
    rw [hbit] at hfi
    obtain ⟨e1, e2⟩ := hst i hi hbit
    rw [e1, hrun _ e2] at hfi
    unfold fitN at hfi
    rw [Bool.not_true, Bool.false_or, Bool.and_eq_true, decide_eq_true_eq] at hfi
    have hl2 : (runAt g (S.set a time) t).length ≤ (runAt g (S.set a time) (giZ (S.set a time) i)).length := nodup_le (pick_nodup _ _) hsub
    have hfs := fits_sub (m := m) hF (pick_nodup (runAp g (S.set a time) t) g.length) (pick_nodup (runAp g (S.set a time) (giZ (S.set a time) i)) g.length) hsub hfi.2
    have hfs2 : fitsC g m (runAt g (S.set a time) t) = true := hfs
    refine (wOk_step hF ha (h.fit t ht).2).2 ⟨?_, ?_⟩
    · rw [← hp.length_eq]; omega
    · rw [← fits_perm hp]; exact hfs2
  · intro hfw
    have hmore := h.more hF ha hna hfw
    unfold fitB
    rw [List.all_eq_true]
    intro i hi
    have hi : i < g.length := by simpa using hi
    cases hbit : (bits l ||| 1 <<< a).testBit i
    · rfl
    · obtain ⟨e1, e2⟩ := hst i hi hbit
      rw [Bool.not_true, Bool.false_or, e1, hrun _ e2]
      unfold fitN
      rw [Bool.and_eq_true, decide_eq_true_eq]
      exact hmore _ e2
end Go.Proofs.Ytihgakbopkaemaa.Bs
namespace Go.Proofs.Ytihgakbopkaemaa.Bs
def tOk (g : List T) (l : List Int) (i : Nat) : Bool := decide (0 ≤ giZ l i ∧ giZ l i ≤ (g.length : Int) - 1) && okNext g (l.take i) (giZ l i).toNat
theorem isOrd_len {g : List T} {l : List Int} (h : l.length ≠ g.length) : isOrd g l = false := by unfold isOrd; simp [h]
theorem isOrd_no {g : List T} {l : List Int} {k : Nat} (hk : k < l.length) (h : tOk g l k = false) : isOrd g l = false := by
  unfold isOrd
  rw [Bool.and_eq_false_iff]
  refine .inr ?_
  rw [List.all_eq_false]
  exact ⟨k, by simpa using hk, by rw [show (decide (0 ≤ giZ l k ∧ giZ l k ≤ (g.length : Int) - 1) && okNext g (l.take k) (giZ l k).toNat) = tOk g l k from rfl, h]; simp⟩
theorem isOrd_yes {g : List T} {l : List Int} (hl : l.length = g.length) (h : ∀ i, i < l.length → tOk g l i = true) : isOrd g l = true := by
  unfold isOrd
  rw [Bool.and_eq_true, decide_eq_true_eq, List.all_eq_true]
  exact ⟨hl, fun i hi => h i (by simpa using hi)⟩
theorem tOk_in {g : List T} {l : List Int} {k : Nat} (hg : g.length ≤ 8) (hk : k ≤ l.length) (h : ∀ i, i < k → tOk g l i = true) : ∀ x ∈ l.take k, 0 ≤ x ∧ x < 8 := by
  intro x hx
  rw [List.mem_iff_getElem] at hx
  obtain ⟨i, hi, rfl⟩ := hx
  rw [List.length_take] at hi
  rw [List.getElem_take]
  have := h i (by omega)
  unfold tOk at this
  rw [giZ_at (by omega), Bool.and_eq_true, decide_eq_true_eq] at this
  omega
theorem osL_no1 {g : List T} {m : List Int} {wk : Int} {l : List Int} (h : seaV g m wk = false) : osL g m wk l = [] := by unfold osL; rw [h]; rfl
theorem osL_no2 {g : List T} {m : List Int} {wk : Int} {l : List Int} (h : isOrd g l = false) : osL g m wk l = [] := by unfold osL; rw [h]; simp
theorem osL_yes {g : List T} {m : List Int} {wk : Int} {l : List Int} (h : seaV g m wk = true) (h2 : isOrd g l = true) : osL g m wk l = osK g m wk l l.length := by unfold osL; rw [h, h2]; rfl
theorem full_mem {n : Nat} {l : List Int} (hn : l.Nodup) (hb : ∀ x ∈ l, 0 ≤ x ∧ x < n) (hl : l.length = n) {i : Nat} (hi : i < n) : (i : Int) ∈ l := by
  rcases Classical.em ((i : Int) ∈ l) with e | e
  · exact e
  · exfalso
    obtain ⟨nd2, rg2⟩ := snoc_ok hn hb hi (by simpa using e)
    have h1 := pick_of nd2 rg2
    have h2 := pick_len n (fun j => (l ++ [(i : Int)]).contains (j : Int))
    rw [List.length_append] at h1
    simp only [List.length_singleton] at h1
    omega
def listK (f : Nat → Int) (n k : Nat) : List Int := (List.range k).map f ++ List.replicate (n - k) 0
theorem listK_len {f : Nat → Int} {n k : Nat} (h : k ≤ n) : (listK f n k).length = n := by unfold listK; simp; omega
theorem listK_zero (f : Nat → Int) (n : Nat) : listK f n 0 = List.replicate n 0 := by simp [listK]
theorem listK_all (f : Nat → Int) (n : Nat) : listK f n n = (List.range n).map f := by simp [listK]
theorem listK_at {f : Nat → Int} {n k i : Nat} (hi : i < (listK f n k).length) : (listK f n k)[i] = if i < k then f i else 0 := by
  simp only [listK]
  by_cases e : i < k
  · rw [if_pos e, List.getElem_append_left (by simpa using e)]
    simp
  · rw [if_neg e, List.getElem_append_right (by simp; omega)]
    simp
theorem listK_succ {f : Nat → Int} {n k : Nat} (h : k < n) : (listK f n k).set k (f k) = listK f n (k + 1) := by
  apply List.ext_getElem
  · rw [List.length_set, listK_len (by omega), listK_len (by omega)]
  · intro i h1 h2
    rw [List.getElem_set, listK_at, listK_at]
    by_cases e : k = i
    · subst e
      rw [if_pos rfl, if_pos (by omega)]
    · rw [if_neg e]
      by_cases e2 : i < k
      · rw [if_pos e2, if_pos (by omega)]
      · rw [if_neg e2, if_neg (by omega)]
theorem list_eq {f : Nat → Int} {S : List Int} (h : ∀ i, i < S.length → f i = giZ S i) : (List.range S.length).map f = S := by
  apply List.ext_getElem
  · simp
  · intro i h1 h2
    rw [List.getElem_map, List.getElem_range, h i h2, giZ_at h2]
theorem osK_len (g : List T) (m : List Int) (wk : Int) (l : List Int) : ∀ k, (osK g m wk l k).length = g.length := by
  have h : ∀ (L S : List Int), S.length = g.length → (L.foldl (osStep g m wk) S).length = g.length := by
    intro L
    induction L with
    | nil => intro S h; exact h
    | cons x L ih =>
      intro S h
      rw [List.foldl_cons]
      exact ih _ (by unfold osStep; rw [List.length_set]; exact h)
  intro k
  exact h _ _ (by simp)
theorem osL_len (g : List T) (m : List Int) (wk : Int) (l : List Int) : (osL g m wk l).length ≤ 5 := by
  unfold osL
  split
  · rename_i h
    unfold seaV at h
    simp only [Bool.and_eq_true, decide_eq_true_eq] at h
    rw [osK_len]
    exact h.1.2
  · simp
end Go.Proofs.Ytihgakbopkaemaa.Bs
namespace Go.Proofs.Ytihgakbopkaemaa.Bs
theorem osL_ok {g : List T} {m : List Int} {wk : Int} {l L : List Int} (h : L = osL g m wk l) (h0 : ¬ L.length = 0) : seaV g m wk = true ∧ isOrd g l = true ∧ L = osK g m wk l l.length := by
  unfold osL at h
  by_cases hc : (seaV g m wk && isOrd g l) = true
  · rw [if_pos hc] at h
    rw [Bool.and_eq_true] at hc
    exact ⟨hc.1, hc.2, h⟩
  · rw [if_neg hc] at h
    rw [h] at h0
    exact absurd rfl h0
theorem sea_can {g : List T} {m : List Int} {wk : Int} (h : seaV g m wk = true) : canV g m wk = true ∧ g.length ≤ 5 := by
  unfold seaV at h
  simpa using h
theorem ord_perm {g : List T} {l : List Int} (hn : l.Nodup) (hb : ∀ x ∈ l, 0 ≤ x ∧ x < g.length) (hl : l.length = g.length) : l.Perm (rgZ g.length) := by
  have hn2 : (rgZ g.length).Nodup := by
    unfold rgZ
    rw [List.nodup_iff_pairwise_ne, List.pairwise_map]
    refine List.Pairwise.imp ?_ List.pairwise_lt_range
    intro a b hab
    omega
  rw [List.perm_ext_iff_of_nodup hn hn2]
  intro x
  unfold rgZ
  rw [List.mem_map]
  constructor
  · intro hx
    have := hb x hx
    exact ⟨x.toNat, by rw [List.mem_range]; omega, by omega⟩
  · rintro ⟨i, hi, rfl⟩
    exact full_mem hn hb hl (by simpa using hi)
theorem smT_all {g : List T} {l : List Int} (hn : l.Nodup) (hb : ∀ x ∈ l, 0 ≤ x ∧ x < g.length) (hl : l.length = g.length) : smT g l = sumT g := by
  unfold smT sumT
  rw [sumZ_perm ((ord_perm hn hb hl).map _)]
  congr 1
  apply List.ext_getElem
  · simp [rgZ]
  · intro i h1 h2
    have hi : i < g.length := by simpa using h2
    simp only [rgZ, List.map_map, List.getElem_map, List.getElem_range, Function.comp]
    rw [Int.toNat_natCast]
    unfold timeOf
    rw [List.getElem?_eq_getElem hi]
theorem os_valid {g : List T} {m : List Int} {wk : Int} {l S : List Int} (h : seaV g m wk = true) (ho : isOrd g l = true) (hS : S = osK g m wk l l.length) : stV g m wk S = true ∧ 0 ≤ endC g S ∧ endC g S ≤ sumT g ∧ S.length = g.length := by
  obtain ⟨hcan, h5⟩ := sea_can h
  obtain ⟨hval, hroom, hw1, hw4⟩ := canV_iff.1 hcan
  have hF := valid_fine hval
  obtain ⟨hlen, _⟩ := isOrd_at ho
  have hP := Pla.all (m := m) (wk := wk) hF hroom hw1 ho l.length (Nat.le_refl _)
  rw [List.take_length, ← hS] at hP
  have hsm := hP.sm hF
  have hall := smT_all hP.nd hP.rg hlen
  have hm : ∀ i : Nat, i < g.length → (i : Int) ∈ l := fun i hi => full_mem hP.nd hP.rg hlen hi
  refine ⟨stV_iff.2 ⟨hcan, ?_, stK_iff.2 fun i hi => ⟨?_, ?_⟩⟩, ?_, ?_, hP.len⟩
  · unfold clkV
    rw [Bool.and_eq_true, decide_eq_true_eq]
    refine ⟨hP.len, allInB_of fun x hx => ?_⟩
    obtain ⟨i, hi, rfl⟩ := List.mem_iff_getElem.1 hx
    rw [← giZ_at hi]
    exact hP.b hF i
  · unfold needOkB
    rw [List.all_eq_true]
    intro y hy
    have := hP.nb (i : Int) (hm i hi) y (by rw [Int.toNat_natCast]; exact hy)
    rw [Int.toNat_natCast] at this
    rw [decide_eq_true_eq]
    exact this.2
  · have := hP.pl i hi (hm i hi)
    have ht := time_b hF i
    have hf := hP.fit (giZ S i) (by omega)
    unfold fitN
    rw [Bool.and_eq_true, decide_eq_true_eq]
    exact hf
  · exact maxL_nonneg _
  · refine maxL_le (by omega) ?_
    intro x hx
    rw [List.mem_map] at hx
    obtain ⟨i, hi, rfl⟩ := hx
    rw [List.mem_range] at hi
    have := hP.pl i hi (hm i hi)
    unfold endF
    omega
theorem top_isOrd {g : List T} (hv : valid g = true) : isOrd g (top g) = true := by
  obtain ⟨hl, hk⟩ := top_law hv (top g) rfl
  refine isOrd_yes hl fun i hi => ?_
  obtain ⟨h1, h2, h3, h4⟩ := hk i hi
  unfold tOk
  rw [giZ_at hi, Bool.and_eq_true, decide_eq_true_eq]
  refine ⟨by omega, ?_⟩
  unfold okNext
  rw [show (((top g)[i].toNat : Nat) : Int) = (top g)[i] from by omega, Bool.and_eq_true, List.all_eq_true]
  exact ⟨by simpa using h3, fun x hx => by simpa using h4 x hx⟩
end Go.Proofs.Ytihgakbopkaemaa.Bs
namespace Go.Proofs.Ytihgakbopkaemaa.Bs
theorem Pla.ends {g : List T} {m : List Int} {wk : Int} {S l : List Int} (h : Pla g m wk S l) (hF : fine g = true) (hm : roomOk m = true) (hw : 1 ≤ wk) {a : Nat} (ha : a < g.length) (hn : ∀ y ∈ need g a, y ∈ l) : seekT g m wk S a = 0 ∨ ∃ j : Nat, (j : Int) ∈ l ∧ giZ S j + timeOf g j = seekT g m wk S a := by
  obtain ⟨hl, hr0, hr1, ht0, ht1⟩ := h.lst hF hm hw ha hn
  have hsm := h.sm hF
  have hta := time_b hF a
  have hta1 : 1 ≤ timeOf g a := by rw [time_at ha]; exact (fine_time' hF ha).1
  by_cases e : needsOv g (giZ S) a = seekT g m wk S a
  · rcases maxL_mem ((need g a).map (ovF g (giZ S))) with h0 | h0
    · left
      rw [← e]
      exact h0
    · right
      rw [List.mem_map] at h0
      obtain ⟨y, hy, hye⟩ := h0
      have hyl := hn y hy
      have hyr := h.rg y hyl
      refine ⟨y.toNat, by rw [show ((y.toNat : Nat) : Int) = y from by omega]; exact hyl, ?_⟩
      rw [← e]
      exact hye
  · right
    rcases Classical.em (∃ j : Nat, (j : Int) ∈ l ∧ giZ S j + timeOf g j = seekT g m wk S a) with hj | hj
    · exact hj
    · exfalso
      have hge := hl.ge
      have hno := hl.no (seekT g m wk S a - 1) (by omega) (by omega)
      have hfit := (fitW_iff hF).1 hl.fit
      generalize seekT g m wk S a = R at *
      have : fitW g m wk S a (R - 1) = true := (fitW_iff hF).2 (fun t a1 a2 => by
        by_cases et : R ≤ t
        · exact hfit t et (by omega)
        · have htR : t = R - 1 := by omega
          have hw0 := hfit R (Int.le_refl _) (by omega)
          have hsub : ∀ x ∈ runAt g S (R - 1), x ∈ runAt g S R := by
            intro x hx
            have hxl := h.mem_run (by omega) hx
            obtain ⟨j, hjl, h1, h2, rfl⟩ := mem_runAt.1 hx
            refine mem_runAt.2 ⟨j, hjl, by omega, ?_, rfl⟩
            rcases Int.lt_or_le R (giZ S j + timeOf g j) with e1 | e1
            · exact e1
            · exact absurd ⟨j, hxl, by omega⟩ hj
          have hnd1 : (runAt g S (R - 1)).Nodup := pick_nodup _ _
          have hnd2 : (runAt g S R).Nodup := pick_nodup _ _
          have hlen := nodup_le hnd1 hsub
          have hus := used_sub hF hnd1 hnd2 hsub (poolOf g a)
          rw [htR]
          unfold wOk at hw0 ⊢
          rw [Bool.and_eq_true, decide_eq_true_eq, decide_eq_true_eq] at hw0 ⊢
          omega)
      rw [hno] at this
      cases this
/-- does a task begin at 0, or when one of the first k is over? -/
def someI (g : List T) (S : List Int) (i k : Nat) : Bool := (giZ S i == 0) || (List.range k).any fun j => giZ S j + timeOf g j == giZ S i
theorem someI_zero (g : List T) (S : List Int) (i : Nat) : someI g S i 0 = (giZ S i == 0) := by unfold someI; simp
theorem someI_succ (g : List T) (S : List Int) (i k : Nat) : someI g S i (k + 1) = (someI g S i k || (giZ S k + timeOf g k == giZ S i)) := by
  unfold someI
  rw [List.range_succ, List.any_append]
  simp [Bool.or_assoc]
theorem os_first {g : List T} {m : List Int} {wk : Int} {l S : List Int} (h : seaV g m wk = true) (ho : isOrd g l = true) (hS : S = osK g m wk l l.length) : (∀ i, i < g.length → someI g S i g.length = true) ∧ ∀ (h0 : 0 < l.length), giZ S l[0].toNat = 0 := by
  obtain ⟨hcan, h5⟩ := sea_can h
  obtain ⟨hval, hroom, hw1, hw4⟩ := canV_iff.1 hcan
  have hF := valid_fine hval
  obtain ⟨hlen, hat⟩ := isOrd_at ho
  have hA := Pla.all (m := m) (wk := wk) hF hroom hw1 ho
  have hstep : ∀ k (hk : k < l.length), (0 ≤ l[k] ∧ l[k] < g.length) ∧ l[k] ∉ l.take k ∧ (∀ y ∈ need g l[k].toNat, y ∈ l.take k) ∧ osK g m wk l (k + 1) = (osK g m wk l k).set l[k].toNat (seekT g m wk (osK g m wk l k) l[k].toNat) := by
    intro k hk
    obtain ⟨hx, hok⟩ := hat k hk
    have hnot := ok_not hok
    rw [show ((l[k].toNat : Nat) : Int) = l[k] from by omega] at hnot
    unfold okNext at hok
    rw [Bool.and_eq_true, List.all_eq_true] at hok
    exact ⟨hx, by simpa using hnot, fun y hy => by simpa using hok.2 y hy, osK_succ hk⟩
  have h1 : ∀ k, k ≤ l.length → ∀ i : Nat, (i : Int) ∈ l.take k → giZ (osK g m wk l k) i = 0 ∨ ∃ j : Nat, (j : Int) ∈ l.take k ∧ giZ (osK g m wk l k) j + timeOf g j = giZ (osK g m wk l k) i := by
    intro k
    induction k with
    | zero => intro _ i hi; simp at hi
    | succ k ih =>
      intro hk i hi
      have hkl : k < l.length := by omega
      obtain ⟨hx, hnm, hneed, hos⟩ := hstep k hkl
      have hp := hA k (by omega)
      have hsl := hp.len
      rw [List.take_succ_eq_append_getElem hkl, List.mem_append, List.mem_singleton] at hi
      have hold : ∀ j : Nat, (j : Int) ∈ l.take k → giZ (osK g m wk l (k + 1)) j = giZ (osK g m wk l k) j := by
        intro j hj
        rw [hos, giZ_set, if_neg]
        rintro ⟨rfl, _⟩
        rw [show ((l[k].toNat : Nat) : Int) = l[k] from by omega] at hj
        exact hnm hj
      have hin : ∀ j : Nat, (j : Int) ∈ l.take k → (j : Int) ∈ l.take (k + 1) := fun j hj => by
        rw [List.take_succ_eq_append_getElem hkl, List.mem_append]
        exact .inl hj
      rcases hi with hi | hi
      · rw [hold i hi]
        rcases ih (by omega) i hi with e | ⟨j, hj, e⟩
        · exact .inl e
        · exact .inr ⟨j, hin j hj, by rw [hold j hj]; exact e⟩
      · have hia : i = l[k].toNat := by omega
        have hnew : giZ (osK g m wk l (k + 1)) i = seekT g m wk (osK g m wk l k) l[k].toNat := by
          rw [hos, giZ_set, if_pos ⟨hia, by rw [hsl]; omega⟩]
        rw [hnew]
        rcases hp.ends hF hroom hw1 (a := l[k].toNat) (by omega) hneed with e | ⟨j, hj, e⟩
        · exact .inl e
        · exact .inr ⟨j, hin j hj, by rw [hold j hj]; exact e⟩
  have h2 : ∀ k, k < l.length → ∀ (h0 : 0 < l.length), giZ (osK g m wk l (k + 1)) l[0].toNat = 0 := by
    intro k
    induction k with
    | zero =>
      intro hk h0
      obtain ⟨hx, hnm, hneed, hos⟩ := hstep 0 hk
      have hp := hA 0 (by omega)
      have hsl := hp.len
      rw [hos, giZ_set, if_pos ⟨rfl, by rw [hsl]; omega⟩]
      obtain ⟨_, hr0, hr1, _, _⟩ := hp.lst hF hroom hw1 (a := l[0].toNat) (by omega) hneed
      have : smT g (l.take 0) = 0 := rfl
      omega
    | succ k ih =>
      intro hk h0
      obtain ⟨hx, hnm, hneed, hos⟩ := hstep (k + 1) hk
      have h00 := (hat 0 h0).1
      rw [hos, giZ_set, if_neg, ih (by omega) h0]
      rintro ⟨e, _⟩
      apply hnm
      have hel : l[0] = l[k + 1] := by omega
      rw [← hel, List.mem_iff_getElem]
      exact ⟨0, by rw [List.length_take]; omega, by rw [List.getElem_take]⟩
  have hP := hA l.length (Nat.le_refl _)
  rw [List.take_length] at hP
  subst hS
  refine ⟨fun i hi => ?_, fun h0 => ?_⟩
  · have hm := full_mem hP.nd hP.rg hlen hi
    have := h1 l.length (Nat.le_refl _) i (by rw [List.take_length]; exact hm)
    unfold someI
    rw [Bool.or_eq_true, List.any_eq_true]
    rcases this with e | ⟨j, hj, e⟩
    · exact .inl (by simp [e])
    · rw [List.take_length] at hj
      have := hP.rg _ hj
      exact .inr ⟨j, by rw [List.mem_range]; omega, by simp [e]⟩
  · have := h2 (l.length - 1) (by omega) h0
    rw [show l.length - 1 + 1 = l.length from by omega] at this
    exact this
end Go.Proofs.Ytihgakbopkaemaa.Bs
