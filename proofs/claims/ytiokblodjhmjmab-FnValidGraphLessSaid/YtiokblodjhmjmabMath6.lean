/-
  PLAIN MATHEMATICS of graphs of tasks: what the laws of stuck tasks say. No condition.
-/
import Derived.Test.YtiokblodjhmjmabMath4
namespace Go.Proofs.Ytiokblodjhmjmab.Bs
theorem ord_stop (g : List T) : ∀ k out, Dist g.length out → g.length ≤ out.length + k → nxt g (ord g k out) = none := by
  intro k
  induction k with
  | zero =>
    intro out h hl
    have := h.le
    have e : out.length = g.length := by omega
    exact nxt_full h e
  | succ k ih =>
    intro out h hl
    unfold ord
    cases hn : nxt g out with
    | none => exact hn
    | some i => exact ih _ (h.snoc hn) (by simp; omega)
theorem top_stop (g : List T) : nxt g (top g) = none := ord_stop g _ _ (Dist.nil _) (by simp)
theorem stuck_iff {g : List T} {i : Nat} (hi : i < g.length) : (i : Int) ∉ top g ↔ ∃ x ∈ need g i, x ∉ top g := by
  constructor
  · intro hn
    have h1 := top_stop g
    unfold nxt at h1
    rw [List.find?_eq_none] at h1
    have h2 := h1 i (by simpa using hi)
    have h3 : (top g).contains (i : Int) = false := by simpa using hn
    unfold okNext at h2
    rw [h3] at h2
    simpa using h2
  · rintro ⟨x, hx, hxn⟩ hm
    obtain ⟨k, hk, e⟩ := List.mem_iff_getElem.1 hm
    refine hxn (List.mem_of_mem_take (top_behind g k hk x ?_))
    rw [e]
    simpa using hx
end Go.Proofs.Ytiokblodjhmjmab.Bs
namespace Go.Proofs.Ytiokblodjhmjmab
open Bs
theorem stuck_valid {g : List T} {L : List Int} (h : L = stuckL g) (h0 : ¬ L.length = 0) : valid g = false := by
  rw [Bool.eq_false_iff]
  intro hv
  apply h0
  subst h
  unfold stuckL
  rw [valid_fine hv]
  simp only [if_true]
  cases hl : pick g.length (fun i => !(top g).contains (i : Int)) with
  | nil => rfl
  | cons y r =>
    exfalso
    have hy : y ∈ pick g.length (fun i => !(top g).contains (i : Int)) := by rw [hl]; simp
    obtain ⟨j, hj, hp, rfl⟩ := (mem_pick _ _ _).1 hy
    have := (top_dist g).full (valid_full hv) j hj
    simp [this] at hp
theorem stuck_fine {g : List T} {L : List Int} (h : L = stuckL g) (h0 : ¬ L.length = 0) : fine g = true ∧ L = pick g.length (fun i => !(top g).contains (i : Int)) := by
  subst h
  unfold stuckL at *
  cases hf : fine g
  · rw [hf] at h0; simp at h0
  · exact ⟨rfl, by simp⟩
theorem stuck_law {g : List T} {L : List Int} (h : L = stuckL g) (h0 : ¬ L.length = 0) : ∀ i (hi : i < g.length), g[i].needs.any (fun x => L.contains x) = L.contains (i : Int) := by
  obtain ⟨hF, rfl⟩ := stuck_fine h h0
  intro i hi
  have hs := stuck_iff hi
  have hn : ∀ x ∈ g[i].needs, (pick g.length (fun i => !(top g).contains (i : Int))).contains x = !(top g).contains x := by
    intro x hx
    rw [← need_at hi] at hx
    have hr := fine_need hF hx
    obtain ⟨v, rfl⟩ : ∃ v : Nat, x = (v : Int) := ⟨x.toNat, by omega⟩
    rw [Bool.eq_iff_iff]
    have := mem_pick_nat g.length (fun i => !(top g).contains (i : Int)) v
    simp only [List.contains_eq_mem, decide_eq_true_eq] at this ⊢
    rw [this]
    constructor
    · exact fun h => h.2
    · exact fun h => ⟨by omega, h⟩
  rw [Bool.eq_iff_iff, List.any_eq_true]
  have hi2 := mem_pick_nat g.length (fun i => !(top g).contains (i : Int)) i
  constructor
  · rintro ⟨x, hx, hc⟩
    rw [hn x hx] at hc
    have : (i : Int) ∉ top g := hs.2 ⟨x, by rw [need_at hi]; exact hx, by simpa using hc⟩
    simpa using hi2.2 ⟨hi, by simpa using this⟩
  · intro hc
    have h1 := (hi2.1 (by simpa using hc)).2
    obtain ⟨x, hx, hxn⟩ := hs.1 (by simpa using h1)
    rw [need_at hi] at hx
    exact ⟨x, hx, by rw [hn x hx]; simpa using hxn⟩
end Go.Proofs.Ytiokblodjhmjmab
