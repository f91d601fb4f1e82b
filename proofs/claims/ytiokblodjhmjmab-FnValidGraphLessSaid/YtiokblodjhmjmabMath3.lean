/-
  PLAIN MATHEMATICS: heads and tails, step by step. No program, no condition.
-/
import Derived.Test.YtiokblodjhmjmabMath2
namespace Go.Proofs.Ytiokblodjhmjmab.Bs
theorem list_gi {l l' : List Int} (h : l.length = l'.length) (hg : ∀ i, i < l.length → gi l i = gi l' i) : l = l' := by
  refine List.ext_getElem h ?_
  intro i h1 h2
  have := hg i h1
  unfold gi at this
  rw [List.getD_eq_getElem?_getD, List.getD_eq_getElem?_getD, List.getElem?_eq_getElem h1, List.getElem?_eq_getElem h2] at this
  exact this
theorem set_same (l : List Int) (a : Nat) (v : Int) (ha : a < l.length) (h : gi l a = v) : l.set a v = l := by
  refine list_gi (by simp) ?_
  intro i hi
  rw [gi_set l a i v ha]
  split
  · rename_i e; subst e; exact h.symm
  · rfl
theorem set_set_ (l : List Int) (a : Nat) (u v : Int) : (l.set a u).set a v = l.set a v := by simp

def headStep (g : List T) (h : List Int) (x : Int) : List Int := h.set x.toNat (headAt g h x.toNat (need g x.toNat).length)
def headsK (g : List T) (k : Nat) : List Int := ((top g).take k).foldl (headStep g) (List.replicate g.length 0)
theorem headsK_zero (g : List T) : headsK g 0 = List.replicate g.length 0 := rfl
theorem headsK_succ (g : List T) (k : Nat) (hk : k < (top g).length) : headsK g (k + 1) = headStep g (headsK g k) (top g)[k] := by
  unfold headsK
  rw [List.take_succ_eq_append_getElem hk, List.foldl_append]
  rfl
theorem headsK_mid {g : List T} (hf : fine g = true) : ∀ k, k ≤ (top g).length → HeadMid g k (headsK g k) := by
  intro k
  induction k with
  | zero => intro _; exact HeadMid.start g
  | succ k ih =>
    intro hk
    rw [headsK_succ g k (by omega)]
    exact (ih (by omega)).step hf (by omega)
def headsC (g : List T) : List Int := headsK g (top g).length
theorem headAt_zero (g : List T) (h : List Int) (a : Nat) : headAt g h a 0 = 0 := rfl
theorem headAt_succ (g : List T) (h : List Int) (a p : Nat) (hp : p < (need g a).length) : headAt g h a (p + 1) = max (headAt g h a p) (gi h (need g a)[p].toNat + timeOf g (need g a)[p].toNat) := by
  unfold headAt
  rw [List.take_succ_eq_append_getElem hp, List.map_append]
  exact maxL_snoc _ _
theorem headAt_nonneg (g : List T) (h : List Int) (a p : Nat) : 0 ≤ headAt g h a p := maxL_nonneg _
theorem headAt_le {g : List T} {h : List Int} {k : Nat} (hf : fine g = true) (hm : HeadMid g k h) (a p : Nat) : headAt g h a p ≤ 20 * k + 20 := by
  refine maxL_le (by omega) ?_
  intro y hy
  rw [List.mem_map] at hy
  obtain ⟨x, hx, rfl⟩ := hy
  have h1 := fine_need hf (List.mem_of_mem_take hx)
  have h2 := hm.hi x.toNat (by omega)
  have h3 := fine_time hf (i := x.toNat) (by omega)
  omega

def tailStep (g : List T) (t : List Int) (x : Int) : List Int := t.set x.toNat (most g t x.toNat g.length + timeOf g x.toNat)
/-- the model's tails when the places from k on are done -/
def tailsK (g : List T) (k : Nat) : List Int := ((top g).drop k).foldr (fun x t => tailStep g t x) (List.replicate g.length 0)
theorem tailsK_full (g : List T) : tailsK g (top g).length = List.replicate g.length 0 := by unfold tailsK; rw [List.drop_length]; rfl
theorem tailsK_pred (g : List T) (k : Nat) (hk : k < (top g).length) : tailsK g k = tailStep g (tailsK g (k + 1)) (top g)[k] := by
  unfold tailsK
  rw [List.drop_eq_getElem_cons hk]
  rfl
theorem tailsK_spec {g : List T} (hf : fine g = true) (hg : Full g) : ∀ j k, k + j = (top g).length → TailSpec g k (tailsK g k) := by
  intro j
  induction j with
  | zero =>
    intro k hk
    have : k = (top g).length := by omega
    subst this
    rw [tailsK_full]
    exact TailSpec.start hg
  | succ j ih =>
    intro k hk
    rw [tailsK_pred g k (by omega)]
    exact (ih (k + 1) (by omega)).step hf hg (by omega)
def tailsC (g : List T) : List Int := tailsK g 0
theorem tailsC_spec {g : List T} (hf : fine g = true) (hg : Full g) : TailSpec g 0 (tailsC g) := tailsK_spec hf hg (top g).length 0 (by omega)
theorem tails_eq {g : List T} (hf : fine g = true) (hg : Full g) {t : List Int} (h : TailImpl g 0 t) : t = tailsC g := by
  have h' := tailsC_spec hf hg
  refine list_gi (h.len.trans h'.len.symm) ?_
  intro i hi
  rw [h.len] at hi
  exact tail_unique hg h.toTailMid.isTail h'.toTailMid.isTail i hi
/-- the program's round of pushing, p needs done -/
def PushIn (g : List T) (t : List Int) (a p : Nat) (t' : List Int) : Prop :=
  t'.length = t.length ∧ ∀ i, i < g.length → gi t' i = if (i : Int) ∈ (need g a).take p then max (gi t i) (gi t a + timeOf g a) else if i = a then gi t a + timeOf g a else gi t i
theorem PushIn.start {g : List T} {t : List Int} {a : Nat} (ha : a < t.length) : PushIn g t a 0 (t.set a (gi t a + timeOf g a)) := by
  refine ⟨by simp, ?_⟩
  intro i _
  rw [gi_set t a i _ ha]
  simp
theorem PushIn.step {g : List T} {t t' : List Int} {a p : Nat} (hf : fine g = true) (hl : t.length = g.length) (h : PushIn g t a p t') (hp : p < (need g a).length) (hna : (a : Int) ∉ need g a) (ha : a < g.length) (hnd : (need g a).Nodup) :
    PushIn g t a (p + 1) (if gi t' (need g a)[p].toNat < gi t' a then t'.set (need g a)[p].toNat (gi t' a) else t') := by
  have hr := fine_need hf (List.getElem_mem hp)
  have hxa : (need g a)[p].toNat ≠ a := by
    intro e
    apply hna
    rw [show (a : Int) = (need g a)[p] from by omega]
    exact List.getElem_mem hp
  have hga : gi t' a = gi t a + timeOf g a := by
    rw [h.2 a ha, if_neg (fun hm => hna (List.mem_of_mem_take hm)), if_pos rfl]
  have hxt : (((need g a)[p].toNat : Nat) : Int) ∉ (need g a).take p := by
    rw [show (((need g a)[p].toNat : Nat) : Int) = (need g a)[p] from by omega]
    intro hm
    obtain ⟨q, hq, e⟩ := List.mem_iff_getElem.1 hm
    rw [List.length_take] at hq
    rw [List.getElem_take] at e
    rw [List.nodup_iff_pairwise_ne, List.pairwise_iff_getElem] at hnd
    exact hnd q p (by omega) hp (by omega) e
  have hgx : gi t' (need g a)[p].toNat = gi t (need g a)[p].toNat := by
    rw [h.2 _ (by omega), if_neg hxt, if_neg hxa]
  refine ⟨by split <;> simp [h.1], ?_⟩
  intro i hi
  have htk : (i : Int) ∈ (need g a).take (p + 1) ↔ (i : Int) ∈ (need g a).take p ∨ i = (need g a)[p].toNat := by
    rw [take_succ_mem hp]
    constructor
    · rintro (h1 | h1)
      · exact .inl h1
      · exact .inr (by omega)
    · rintro (h1 | h1)
      · exact .inl h1
      · exact .inr (by omega)
  by_cases e : i = (need g a)[p].toNat
  · rw [if_pos (htk.2 (.inr e))]
    subst e
    rw [hgx, hga]
    split
    · rw [gi_set _ _ _ _ (by rw [h.1]; omega), if_pos rfl]; omega
    · rw [hgx]; omega
  · have hs : gi (if gi t' (need g a)[p].toNat < gi t' a then t'.set (need g a)[p].toNat (gi t' a) else t') i = gi t' i := by
      split
      · rw [gi_set _ _ _ _ (by rw [h.1]; omega), if_neg e]
      · rfl
    rw [hs, h.2 i hi]
    by_cases e2 : (i : Int) ∈ (need g a).take p
    · rw [if_pos e2, if_pos (htk.2 (.inl e2))]
    · have h5 : (i : Int) ∉ (need g a).take (p + 1) := fun h3 => by
        rcases htk.1 h3 with h4 | h4
        · exact e2 h4
        · exact e h4
      simp only [if_neg e2, if_neg h5]
theorem PushIn.done {g : List T} {t t' : List Int} {a : Nat} (h : PushIn g t a (need g a).length t') : pushed g t a (need g a).length t' := h
theorem asc_nodup {l : List Int} (h : asc l = true) : l.Nodup := by
  rw [List.nodup_iff_pairwise_ne, List.pairwise_iff_getElem]
  rw [asc_iff] at h
  have key : ∀ d i (h1 : i + d + 1 < l.length), l[i] < l[i + d + 1] := by
    intro d
    induction d with
    | zero => intro i h1; exact h i h1
    | succ d ih =>
      intro i h1
      have a := ih i (by omega)
      have b := h (i + d + 1) (by omega)
      show l[i] < l[i + d + 1 + 1]
      exact Int.lt_trans a b
  intro i j h1 h2 hij
  have := key (j - i - 1) i (by omega)
  have e : i + (j - i - 1) + 1 = j := by omega
  simp only [e] at this
  omega
theorem fine_nodup {g : List T} (h : fine g = true) {i : Nat} (hi : i < g.length) : (need g i).Nodup := by
  rw [need_eq hi]
  simp only [fine, Bool.and_eq_true, List.all_eq_true] at h
  have h1 := h.1 g[i] (List.getElem_mem hi)
  simp only [validT, Bool.and_eq_true] at h1
  exact asc_nodup h1.2
end Go.Proofs.Ytiokblodjhmjmab.Bs
