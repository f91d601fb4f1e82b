/-
  PLAIN MATHEMATICS of useless needs. No condition.
-/
import Derived.Test.YtoaakidapgbhhaaMath131
import Derived.Test.YtoaakidapgbhhaaK2
namespace Go.Proofs.Ytoaakidapgbhhaa.Bs
theorem mem_needs2 {g : List T} {z j : Nat} : (j : Int) ∈ needs2 g z ↔ j < g.length ∧ Reach g z j := by
  unfold needs2
  rw [mem_pick_nat, reachB_iff]
noncomputable def uslB (g : List T) (i : Nat) (x : Int) : Bool := (need g i).any fun y => (needs2 g y.toNat).contains x
noncomputable def uslL (g : List T) (i : Nat) : List Int := (need g i).filter (uslB g i)
noncomputable def keepL (g : List T) (i : Nat) : List Int := (need g i).filter fun x => !uslB g i x
noncomputable def pairK (g : List T) (k : Nat) : List (List Int) := (List.range k).flatMap fun i => (uslL g i).map fun x => [(i : Int), x]
noncomputable def pairL (g : List T) : List (List Int) := if valid g then pairK g g.length else []
theorem pairK_succ (g : List T) (k : Nat) : pairK g (k + 1) = pairK g k ++ (uslL g k).map fun x => [(k : Int), x] := by
  unfold pairK
  rw [List.range_succ, List.flatMap_append]
  simp
theorem pairL_no {g : List T} (h : valid g = false) : pairL g = [] := by unfold pairL; rw [h]; rfl
theorem pairL_yes {g : List T} (h : valid g = true) : pairL g = pairK g g.length := by unfold pairL; rw [h]; rfl
noncomputable def wuT (g : List T) (i : Nat) (t : T) : T := { t with needs := keepL g i }
noncomputable def wuG (g : List T) : List T := g.mapIdx (wuT g)
noncomputable def wuL (g : List T) : List T := if valid g then wuG g else []
theorem wuL_no {g : List T} (h : valid g = false) : wuL g = [] := by unfold wuL; rw [h]; rfl
theorem wuL_yes {g : List T} (h : valid g = true) : wuL g = wuG g := by unfold wuL; rw [h]; rfl
theorem wuG_len (g : List T) : (wuG g).length = g.length := by unfold wuG; rw [List.length_mapIdx]
theorem wuG_at {g : List T} {i : Nat} (hi : i < (wuG g).length) (hi' : i < g.length) : (wuG g)[i] = wuT g i g[i] := by simp only [wuG, List.getElem_mapIdx]
theorem wuG_take {g : List T} {k : Nat} (hk : k < g.length) : (wuG g).take (k + 1) = (wuG g).take k ++ [wuT g k g[k]] := by
  rw [List.take_succ_eq_append_getElem (by rw [wuG_len]; exact hk), wuG_at _ hk]
theorem need_wu (g : List T) (i : Nat) : need (wuG g) i = keepL g i := by
  by_cases hi : i < g.length
  · rw [need_eq (by rw [wuG_len]; exact hi), wuG_at _ hi]
    rfl
  · unfold keepL need
    rw [List.getElem?_eq_none (by rw [wuG_len]; omega), List.getElem?_eq_none (by omega)]
    rfl
theorem time_wu (g : List T) (i : Nat) : timeOf (wuG g) i = timeOf g i := by
  by_cases hi : i < g.length
  · rw [timeOf_eq (by rw [wuG_len]; exact hi), wuG_at _ hi, timeOf_eq hi]
    rfl
  · unfold timeOf
    rw [List.getElem?_eq_none (by rw [wuG_len]; omega), List.getElem?_eq_none (by omega)]
theorem uslB_iff {g : List T} (hF : fine g = true) {i : Nat} {x : Int} : uslB g i x = true ↔ ∃ y ∈ need g i, 0 ≤ x ∧ Reach g y.toNat x.toNat := by
  unfold uslB
  rw [List.any_eq_true]
  constructor
  · rintro ⟨y, hy, h⟩
    rw [contains_iff'] at h
    have h2 := h
    unfold needs2 at h2
    obtain ⟨j, hj, hr, rfl⟩ := (mem_pick _ _ _).1 h2
    exact ⟨y, hy, by omega, by rw [Int.toNat_natCast]; exact reachB_iff.1 hr⟩
  · rintro ⟨y, hy, h0, h⟩
    refine ⟨y, hy, ?_⟩
    rw [contains_iff', show x = ((x.toNat : Nat) : Int) from by omega, mem_needs2]
    exact ⟨h.lt hF, h⟩
theorem mem_usl {g : List T} (hF : fine g = true) {i : Nat} {x : Int} : x ∈ uslL g i ↔ x ∈ need g i ∧ ∃ y ∈ need g i, Reach g y.toNat x.toNat := by
  unfold uslL
  rw [List.mem_filter, uslB_iff hF]
  constructor
  · rintro ⟨a, y, b, _, c⟩; exact ⟨a, y, b, c⟩
  · rintro ⟨a, y, b, c⟩; exact ⟨a, y, b, (fine_need hF a).1, c⟩
theorem mem_keep {g : List T} (hF : fine g = true) {i : Nat} {x : Int} : x ∈ keepL g i ↔ x ∈ need g i ∧ ∀ y ∈ need g i, ¬ Reach g y.toNat x.toNat := by
  unfold keepL
  rw [List.mem_filter, Bool.not_eq_true', ← Bool.not_eq_true, uslB_iff hF]
  constructor
  · rintro ⟨a, b⟩; exact ⟨a, fun y hy h => b ⟨y, hy, (fine_need hF a).1, h⟩⟩
  · rintro ⟨a, b⟩; exact ⟨a, fun ⟨y, hy, _, h⟩ => b y hy h⟩
theorem asc_filter {l : List Int} (h : asc l = true) (p : Int → Bool) : asc (l.filter p) = true := by
  have hp := (asc_pair h).filter p
  rw [asc_iff]
  intro k hk
  exact (List.pairwise_iff_getElem.1 hp) k (k + 1) (by omega) hk (by omega)
theorem fine_asc {g : List T} (hF : fine g = true) (i : Nat) : asc (need g i) = true := by
  by_cases hi : i < g.length
  · have := fine_inG hF hi
    rw [need_eq hi]
    unfold inG at this
    rw [Bool.and_eq_true] at this
    exact this.1
  · unfold need
    rw [List.getElem?_eq_none (by omega)]
    rfl
theorem need_sub8 {g : List T} (hF : fine g = true) (i : Nat) : ∀ x ∈ need g i, 0 ≤ x ∧ x < 8 := fun x hx => by
  have := fine_need hF hx
  have := fine_len hF
  omega
theorem usl_sub {g : List T} {i : Nat} {x : Int} (h : x ∈ uslL g i) : x ∈ need g i := (List.mem_filter.1 h).1
theorem keep_sub {g : List T} {i : Nat} {x : Int} (h : x ∈ keepL g i) : x ∈ need g i := (List.mem_filter.1 h).1
theorem usl_eight {g : List T} (hF : fine g = true) (i : Nat) : ∀ x ∈ uslL g i, 0 ≤ x ∧ x < 8 := fun x hx => need_sub8 hF i x (usl_sub hx)
theorem keep_eight {g : List T} (hF : fine g = true) (i : Nat) : ∀ x ∈ keepL g i, 0 ≤ x ∧ x < 8 := fun x hx => need_sub8 hF i x (keep_sub hx)
theorem usl_asc {g : List T} (hF : fine g = true) (i : Nat) : asc (uslL g i) = true := asc_filter (fine_asc hF i) _
theorem keep_asc {g : List T} (hF : fine g = true) (i : Nat) : asc (keepL g i) = true := asc_filter (fine_asc hF i) _
/-- the program: what the first p needs of a task need -/
def othK (g : List T) (ss : List Nat) (a p : Nat) : Nat := ((need g a).take p).foldl (fun s x => s ||| ss.getD x.toNat 0) 0
theorem othK_zero (g : List T) (ss : List Nat) (a : Nat) : othK g ss a 0 = 0 := rfl
theorem othK_succ (g : List T) (ss : List Nat) (a p : Nat) (hp : p < (need g a).length) : othK g ss a (p + 1) = othK g ss a p ||| ss.getD (need g a)[p].toNat 0 := by
  unfold othK
  rw [List.take_succ_eq_append_getElem hp, List.foldl_append]
  rfl
theorem othK_lt {g : List T} {ss : List Nat} {a : Nat} (hf : fine g = true) (hs : ∀ i, i < g.length → ss.getD i 0 < 256) : ∀ p, othK g ss a p < 256 := by
  intro p
  have key : ∀ (l : List Int) (s : Nat), s < 2 ^ 8 → (∀ x ∈ l, ss.getD x.toNat 0 < 2 ^ 8) → l.foldl (fun s x => s ||| ss.getD x.toNat 0) s < 2 ^ 8 := by
    intro l
    induction l with
    | nil => intro s h _; exact h
    | cons y r ih =>
      intro s h hl
      rw [List.foldl_cons]
      exact ih _ (Nat.or_lt_two_pow h (hl y (by simp))) (fun x hx => hl x (by simp [hx]))
  refine key _ _ (by decide) ?_
  intro x hx
  have := fine_need hf (List.mem_of_mem_take hx)
  exact hs x.toNat (by omega)
theorem oth_usl {g : List T} {ss : List Nat} {a : Nat} (hv : valid g = true) (hm : SetsMid g (top g).length ss) : bits (need g a) &&& othK g ss a (need g a).length = bits (uslL g a) := by
  have hF := valid_fine hv
  have hG := valid_full hv
  apply Nat.eq_of_testBit_eq
  intro j
  rw [Nat.testBit_and, bits_test _ (fun x hx => (need_sub8 hF a x hx).1), bits_test _ (fun x hx => (usl_eight hF a x hx).1), Bool.eq_iff_iff, Bool.and_eq_true, contains_iff', contains_iff', mem_usl hF]
  unfold othK
  rw [List.take_length, foldl_or_test]
  constructor
  · rintro ⟨h, h0 | ⟨y, hy, h2⟩⟩
    · simp at h0
    · have := fine_need hF hy
      rw [hm.all hG y.toNat (by omega), reachB_iff] at h2
      exact ⟨h, y, hy, by rw [Int.toNat_natCast]; exact h2⟩
  · rintro ⟨h, y, hy, h2⟩
    have := fine_need hF hy
    refine ⟨h, .inr ⟨y, hy, ?_⟩⟩
    rw [hm.all hG y.toNat (by omega), reachB_iff]
    rw [Int.toNat_natCast] at h2
    exact h2
theorem minus_usl {g : List T} (hF : fine g = true) (a : Nat) : pick 8 (fun j => (bits (need g a) &&& (18446744073709551615 - bits (uslL g a))).testBit j) = keepL g a := by
  refine asc_unique (asc_pick _ _) (keep_asc hF a) ?_
  intro x
  rw [mem_pick]
  have hb1 := bits_lt _ (need_sub8 hF a)
  have hb2 := bits_lt _ (usl_eight hF a)
  constructor
  · rintro ⟨j, hj, h, rfl⟩
    rw [minus_test _ _ hb1 hb2, Bool.and_eq_true, Bool.not_eq_true', bits_test _ (fun x hx => (need_sub8 hF a x hx).1), bits_test _ (fun x hx => (usl_eight hF a x hx).1), contains_iff'] at h
    have h2 : ¬ (j : Int) ∈ uslL g a := fun hh => by
      have := contains_iff'.2 hh
      rw [this] at h
      exact absurd h.2 (by simp)
    rw [mem_keep hF]
    refine ⟨h.1, fun y hy hr => h2 ((mem_usl hF).2 ⟨h.1, y, hy, hr⟩)⟩
  · intro hx
    have h8 := keep_eight hF a x hx
    refine ⟨x.toNat, by omega, ?_, by omega⟩
    rw [minus_test _ _ hb1 hb2, Bool.and_eq_true, Bool.not_eq_true', bits_test _ (fun x hx => (need_sub8 hF a x hx).1), bits_test _ (fun x hx => (usl_eight hF a x hx).1), contains_iff', show ((x.toNat : Nat) : Int) = x from by omega]
    refine ⟨keep_sub hx, ?_⟩
    rw [← Bool.not_eq_true, contains_iff']
    intro h
    obtain ⟨_, y, hy, hr⟩ := (mem_usl hF).1 h
    exact ((mem_keep hF).1 hx).2 y hy hr
/-- the model: the useless ones of the first p needs -/
noncomputable def uslP (g : List T) (a p : Nat) : List Int := ((need g a).take p).filter (uslB g a)
noncomputable def keepP (g : List T) (a p : Nat) : List Int := ((need g a).take p).filter fun x => !uslB g a x
theorem uslP_zero (g : List T) (a : Nat) : uslP g a 0 = [] := rfl
theorem keepP_zero (g : List T) (a : Nat) : keepP g a 0 = [] := rfl
theorem uslP_succ {g : List T} {a p : Nat} (hp : p < (need g a).length) : uslP g a (p + 1) = uslP g a p ++ (if uslB g a (need g a)[p] then [(need g a)[p]] else []) := by
  unfold uslP
  rw [List.take_succ_eq_append_getElem hp, List.filter_append]
  congr 1
  cases h : uslB g a (need g a)[p] <;> simp [h]
theorem keepP_succ {g : List T} {a p : Nat} (hp : p < (need g a).length) : keepP g a (p + 1) = keepP g a p ++ (if uslB g a (need g a)[p] then [] else [(need g a)[p]]) := by
  unfold keepP
  rw [List.take_succ_eq_append_getElem hp, List.filter_append]
  congr 1
  cases h : uslB g a (need g a)[p] <;> simp [h]
theorem uslP_all (g : List T) (a : Nat) : uslP g a (need g a).length = uslL g a := by unfold uslP uslL; rw [List.take_length]
theorem keepP_all (g : List T) (a : Nat) : keepP g a (need g a).length = keepL g a := by unfold keepP keepL; rw [List.take_length]
theorem uslL_len {g : List T} (hF : fine g = true) (a : Nat) : (uslL g a).length ≤ 8 := by
  by_cases hi : a < g.length
  · have h1 := fine_needs_len hF hi
    have h2 := fine_len hF
    have h3 := List.length_filter_le (uslB g a) (need g a)
    rw [need_eq hi] at h3
    unfold uslL
    rw [need_eq hi]
    omega
  · unfold uslL need
    rw [List.getElem?_eq_none (by omega)]
    simp
theorem pairK_len {g : List T} (hF : fine g = true) : ∀ k, (pairK g k).length ≤ 8 * k := by
  intro k
  induction k with
  | zero => simp [pairK]
  | succ k ih =>
    rw [pairK_succ, List.length_append, List.length_map]
    have := uslL_len hF k
    omega
end Go.Proofs.Ytoaakidapgbhhaa.Bs
