/-
  PLAIN MATHEMATICS: plans are orders. No condition.
-/
import Derived.Test.YtgpmnfnliifegaaK32
import Derived.Test.YtgpmnfnliifegaaK25
namespace Go.Proofs.Ytgpmnfnliifegaa.Bs
theorem sorted_is {g : List T} {m : List Int} {wk : Int} {S o : List Int} (hS : stV g m wk S = true) (hn : o.Nodup) (hm : ∀ x : Int, x ∈ o ↔ 0 ≤ x ∧ x < g.length) (hs : o.Pairwise fun x y => giZ S x.toNat ≤ giZ S y.toNat) : isOrd g o = true := by
  obtain ⟨hcan, hck, hst⟩ := stV_iff.1 hS
  have hF := valid_fine (canV_iff.1 hcan).1
  have hd : Dist g.length o := ⟨hn, fun x hx => (hm x).1 hx⟩
  have hle := hd.le
  have hge : g.length ≤ o.length := by
    have h1 : ((List.range g.length).map fun i => ((i : Nat) : Int)).Nodup := nodup_map_range' _
    have := nodup_le h1 (l' := o) (fun x hx => by
      rw [List.mem_map] at hx
      obtain ⟨i, hi, rfl⟩ := hx
      rw [List.mem_range] at hi
      exact (hm _).2 ⟨by omega, by omega⟩)
    simpa using this
  refine isOrd_yes (by omega) ?_
  intro i hi
  have hx := (hm o[i]).1 (List.getElem_mem hi)
  unfold tOk
  rw [giZ_at hi, Bool.and_eq_true, decide_eq_true_eq]
  refine ⟨by omega, ?_⟩
  unfold okNext
  rw [Bool.and_eq_true, List.all_eq_true]
  have hcast : ((o[i].toNat : Nat) : Int) = o[i] := by omega
  constructor
  · rw [hcast]
    have : o[i] ∉ o.take i := by
      intro hx
      obtain ⟨j, hj, e⟩ := List.getElem_of_mem hx
      rw [List.length_take] at hj
      rw [List.getElem_take] at e
      exact (List.pairwise_iff_getElem.1 (List.nodup_iff_pairwise_ne.1 hn)) j i (by omega) hi (by omega) e
    simpa using this
  · intro y hy
    have hyl := need_lt hF (show o[i].toNat < g.length by omega) hy
    have hyt := fine_time hF hyl.1
    have b1 := (needOk_iff.1 (stK_iff.1 hst o[i].toNat (by omega)).1) y hy
    have hyo : y ∈ o := (hm y).2 ⟨hyl.2, by omega⟩
    obtain ⟨j, hj, e⟩ := List.getElem_of_mem hyo
    have hji : j < i := by
      rcases Nat.lt_trichotomy j i with h | h | h
      · exact h
      · subst h; rw [e] at b1; omega
      · have := List.pairwise_iff_getElem.1 hs i j hi hj h
        rw [e] at this
        omega
    have : y ∈ o.take i := by
      refine List.mem_iff_getElem.2 ⟨j, by rw [List.length_take]; omega, ?_⟩
      rw [List.getElem_take]
      exact e
    simpa using this
where
  nodup_map_range' (n : Nat) : ((List.range n).map fun i => ((i : Nat) : Int)).Nodup := by
    have := pick_nodup (fun _ => true) n
    unfold pick at this
    rw [List.filter_eq_self.2 (fun _ _ => rfl)] at this
    exact this
/-- the tasks by their beginnings, then by their numbers, up to a time -/
def byT (S : List Int) (t : Nat) (n : Nat) : List Int := pick n fun i => giZ S i == (t : Int)
def ordT (S : List Int) : Nat → List Int
  | 0 => []
  | t + 1 => ordT S t ++ byT S t S.length
theorem byT_succ (S : List Int) (t k : Nat) : byT S t (k + 1) = if giZ S k == (t : Int) then byT S t k ++ [(k : Int)] else byT S t k := pick_succ _ _
theorem mem_byT {S : List Int} {t n : Nat} {x : Int} : x ∈ byT S t n ↔ ∃ j : Nat, j < n ∧ giZ S j = (t : Int) ∧ x = j := by
  unfold byT
  rw [mem_pick]
  simp
theorem mem_ordT {S : List Int} (h0 : ∀ i, 0 ≤ giZ S i) {x : Int} : ∀ t : Nat, x ∈ ordT S t ↔ ∃ j : Nat, j < S.length ∧ giZ S j < (t : Int) ∧ x = j := by
  intro t
  induction t with
  | zero =>
    constructor
    · intro h; cases h
    · rintro ⟨j, _, h, _⟩; have := h0 j; omega
  | succ t ih =>
    show x ∈ ordT S t ++ byT S t S.length ↔ _
    rw [List.mem_append, ih, mem_byT]
    constructor
    · rintro (⟨j, a, b, c⟩ | ⟨j, a, b, c⟩)
      · exact ⟨j, a, by omega, c⟩
      · exact ⟨j, a, by omega, c⟩
    · rintro ⟨j, a, b, c⟩
      by_cases e : giZ S j = (t : Int)
      · exact .inr ⟨j, a, e, c⟩
      · exact .inl ⟨j, a, by omega, c⟩
theorem ordT_ok {S : List Int} (h0 : ∀ i, 0 ≤ giZ S i) : ∀ t : Nat, (ordT S t).Nodup ∧ (ordT S t).Pairwise fun x y => giZ S x.toNat ≤ giZ S y.toNat := by
  intro t
  induction t with
  | zero => exact ⟨List.nodup_nil, List.Pairwise.nil⟩
  | succ t ih =>
    show (ordT S t ++ byT S t S.length).Nodup ∧ (ordT S t ++ byT S t S.length).Pairwise _
    constructor
    · rw [List.nodup_append]
      refine ⟨ih.1, pick_nodup _ _, ?_⟩
      intro a ha b hb e
      subst e
      obtain ⟨j, _, h1, rfl⟩ := (mem_ordT h0 t).1 ha
      obtain ⟨k, _, h2, e⟩ := mem_byT.1 hb
      have : j = k := by omega
      subst this
      omega
    · rw [List.pairwise_append]
      refine ⟨ih.2, ?_, ?_⟩
      · rw [List.pairwise_iff_getElem]
        intro i j hi hj _
        obtain ⟨a, _, h1, e1⟩ := mem_byT.1 (List.getElem_mem hi)
        obtain ⟨b, _, h2, e2⟩ := mem_byT.1 (List.getElem_mem hj)
        rw [e1, e2, Int.toNat_natCast, Int.toNat_natCast]
        omega
      · intro a ha b hb
        obtain ⟨j, _, h1, rfl⟩ := (mem_ordT h0 t).1 ha
        obtain ⟨k, _, h2, rfl⟩ := mem_byT.1 hb
        rw [Int.toNat_natCast, Int.toNat_natCast]
        omega
theorem ordT_len {S : List Int} (h0 : ∀ i, 0 ≤ giZ S i) (t : Nat) : (ordT S t).length ≤ S.length := by
  have hd : Dist S.length (ordT S t) := ⟨(ordT_ok h0 t).1, fun x hx => by obtain ⟨j, a, _, rfl⟩ := (mem_ordT h0 t).1 hx; omega⟩
  exact hd.le
theorem byT_len {S : List Int} (h0 : ∀ i, 0 ≤ giZ S i) (t k : Nat) (hk : k ≤ S.length) : (ordT S t ++ byT S t k).length ≤ S.length := by
  have hd : Dist S.length (ordT S t ++ byT S t k) := by
    constructor
    · rw [List.nodup_append]
      refine ⟨(ordT_ok h0 t).1, pick_nodup _ _, ?_⟩
      intro a ha b hb e
      subst e
      obtain ⟨j, _, h1, rfl⟩ := (mem_ordT h0 t).1 ha
      obtain ⟨k, _, h2, e⟩ := mem_byT.1 hb
      have : j = k := by omega
      subst this
      omega
    · intro x hx
      rw [List.mem_append] at hx
      rcases hx with hx | hx
      · obtain ⟨j, a, _, rfl⟩ := (mem_ordT h0 t).1 hx; omega
      · obtain ⟨j, a, _, rfl⟩ := mem_byT.1 hx; omega
  exact hd.le
theorem plan_order {g : List T} {m q L : List Int} {wk : Int} (hL : L = osL g m wk q) (h0 : ¬ L.length = 0) : ∃ P, P = planL g m wk ∧ P.length = g.length ∧ (∀ i, 0 ≤ giZ P i ∧ giZ P i ≤ 200) ∧ (osL g m wk (ordT P 201)).length = g.length ∧ ∀ i, i < g.length → giZ (osL g m wk (ordT P 201)) i ≤ giZ P i := by
  obtain ⟨hsea, hord, hLe⟩ := osL_ok hL h0
  have hcan := (sea_can hsea).1
  obtain ⟨hv, hm, hw1, _⟩ := canV_iff.1 hcan
  have hF := valid_fine hv
  have hst := planL_valid hcan
  have hck := (stV_iff.1 hst).2.1
  have hl := clk_len hck
  have h00 : ∀ i, 0 ≤ giZ (planL g m wk) i := fun i => (clk_at hck i).1
  obtain ⟨o1, o2⟩ := ordT_ok h00 201
  have hmem : ∀ x : Int, x ∈ ordT (planL g m wk) 201 ↔ 0 ≤ x ∧ x < g.length := by
    intro x
    rw [mem_ordT h00]
    constructor
    · rintro ⟨j, a, _, rfl⟩; omega
    · intro hx
      refine ⟨x.toNat, by omega, ?_, by omega⟩
      have := (clk_at hck x.toNat).2
      omega
  have hio := sorted_is hst o1 hmem o2
  have hlen := (isOrd_at hio).1
  have hdom := dom_all hst (Int.le_refl wk) hF hm hw1 hio o2 _ (Nat.le_refl _)
  rw [List.take_length] at hdom
  have hos : osL g m wk (ordT (planL g m wk) 201) = osK g m wk (ordT (planL g m wk) 201) (ordT (planL g m wk) 201).length := osL_yes hsea hio
  refine ⟨planL g m wk, rfl, hl, fun i => clk_at hck i, ?_, ?_⟩
  · rw [hos]
    exact (Pla.all (m := m) (wk := wk) hF hm hw1 hio _ (Nat.le_refl _)).len
  · intro i hi
    rw [hos]
    have := hdom (i : Int) ((hmem _).2 ⟨by omega, by omega⟩)
    rwa [Int.toNat_natCast] at this
end Go.Proofs.Ytgpmnfnliifegaa.Bs
