/-
  PLAIN MATHEMATICS of graphs of tasks: how orders begin, slack that is zero, the time of needs. No condition.
-/
import Derived.Test.YtihgakbopkaemaaW20
import Derived.Test.YtihgakbopkaemaaMath11
namespace Go.Proofs.Ytihgakbopkaemaa.Bs
/-- what the law of an order's begin wants -/
theorem begin_law {g : List T} {L : List Int} (h : L = topL g) (h0 : 0 < L.length) : 0 ≤ L[0] ∧ L[0] < g.length ∧ need g L[0].toNat = [] ∧ ∀ i (hi : i < g.length), (i : Int) < L[0] → 0 < g[i].needs.length := by
  have hv : valid g = true := by
    cases hv : valid g
    · unfold topL at h; rw [hv] at h; subst h; simp at h0
    · rfl
  have e : topL g = top g := by unfold topL; rw [hv]; rfl
  rw [e] at h
  subst h
  have hr := top_range (g := g) h0
  have hs := top_step g 0 h0
  rw [List.take_zero] at hs
  refine ⟨hr.1, hr.2, ?_, ?_⟩
  · have := top_behind g 0 h0
    cases hn : need g (top g)[0].toNat with
    | nil => rfl
    | cons x r =>
      have := this x (by rw [hn]; simp)
      simp at this
  · intro i hi hlt
    have h2 := find_least hs i (by omega)
    unfold okNext at h2
    rw [need_at hi] at h2
    cases hn : g[i].needs with
    | nil => rw [hn] at h2; simp at h2
    | cons x r => simp
end Go.Proofs.Ytihgakbopkaemaa.Bs
namespace Go.Proofs.Ytihgakbopkaemaa
open Bs
theorem slack_zero {g : List T} {L : List Int} (h : L = slackL g) (h0 : ¬ L.length = 0) : L.contains 0 = true ∧ L.length = g.length := by
  have hv : valid g = true := by
    cases hv : valid g
    · rw [slackL_no hv] at h; subst h; simp at h0
    · rfl
  rw [slackL_yes hv] at h
  have hl : L.length = g.length := by rw [h]; simp [slackC]
  obtain ⟨i, hi, e⟩ := sum_hit hv (by omega)
  refine ⟨?_, hl⟩
  rw [List.contains_iff_mem, h]
  unfold slackC
  exact List.mem_map.2 ⟨i, by simpa using hi, by omega⟩
end Go.Proofs.Ytihgakbopkaemaa
namespace Go.Proofs.Ytihgakbopkaemaa.Bs
def psum (f : Nat → Int) (n : Nat) (p : Nat → Bool) : Int := sumL ((pick n p).map fun x => f x.toNat)
theorem psum_succ (f : Nat → Int) (n : Nat) (p : Nat → Bool) : psum f (n + 1) p = psum f n p + (if p n then f n else 0) := by
  unfold psum
  rw [pick_succ]
  split <;> simp [sumL_append, sumL]
theorem psum_le {f : Nat → Int} (hf : ∀ i, 0 ≤ f i) {p q : Nat → Bool} : ∀ n, (∀ i, i < n → p i = true → q i = true) → psum f n p ≤ psum f n q := by
  intro n
  induction n with
  | zero => intro _; exact Int.le_refl _
  | succ n ih =>
    intro h
    have h1 := ih fun i hi => h i (by omega)
    have h2 := h n (by omega)
    have h3 := hf n
    rw [psum_succ, psum_succ]
    cases hp : p n
    · cases hq : q n <;> simp <;> omega
    · rw [h2 hp]; simp; omega
theorem psum_more {f : Nat → Int} (hf : ∀ i, 0 ≤ f i) {p q : Nat → Bool} (x : Nat) : ∀ n, (∀ i, i < n → p i = true → q i = true) → x < n → q x = true → p x = false → psum f n p + f x ≤ psum f n q := by
  intro n
  induction n with
  | zero => intro _ h; omega
  | succ n ih =>
    intro h hx hqx hpx
    have h3 := hf n
    rw [psum_succ, psum_succ]
    by_cases e : x = n
    · subst e
      have := psum_le hf x fun i hi => h i (by omega)
      rw [hqx, hpx]
      simp; omega
    · have h1 := ih (fun j hj => h j (by omega)) (by omega) hqx hpx
      have h2 := h n (by omega)
      cases hp : p n
      · cases hq : q n <;> simp <;> omega
      · rw [h2 hp]; simp; omega
theorem head_sum {g : List T} (hv : valid g = true) : ∀ i, i < g.length → gi (headsC g) i ≤ psum (timeOf g) g.length (reachB g i) := by
  have hF := valid_fine hv
  have hg := valid_full hv
  have hh := (headsK_mid hF _ (Nat.le_refl _)).isHead hg
  have ht := time_nonneg hF
  refine need_ind hg (fun i => gi (headsC g) i ≤ psum (timeOf g) g.length (reachB g i)) ?_
  intro i hi ih
  have e : gi (headsC g) i = maxL ((need g i).map fun x => gi (headsC g) x.toNat + timeOf g x.toNat) := hh i hi
  rw [e]
  refine maxL_le (sumL_nonneg _ _ fun x _ => ht _) ?_
  intro y hy
  obtain ⟨x, hx, rfl⟩ := List.mem_map.1 hy
  have hr := fine_need hF hx
  have h1 := ih x hx
  have hrx : Reach g i x.toNat := .one (by rw [Int.toNat_of_nonneg hr.1]; exact hx)
  have h2 := psum_more ht (p := reachB g x.toNat) (q := reachB g i) x.toNat g.length (fun j _ hj => reachB_iff.2 (hrx.trans (reachB_iff.1 hj))) (by omega) (reachB_iff.2 hrx) (reach_self hv _)
  omega
/-- what the law of the time of needs wants -/
theorem needtime_law {g : List T} {L H : List Int} {v : Nat} (h : L = needsA g v) (hH : H = if valid g then headsC g else []) (hv : valid g = true) (hz : v < g.length) :
    H.length = g.length ∧ L.length ≤ 8 ∧ (∀ k (hk : k < L.length), 0 ≤ L[k] ∧ L[k] < g.length ∧ 1 ≤ timeOf g L[k].toNat ∧ timeOf g L[k].toNat ≤ 20) ∧
    gi H v ≤ sumL (L.map fun x => timeOf g x.toNat) ∧ decide (0 < gi H v) = decide (0 < sumL (L.map fun x => timeOf g x.toNat)) := by
  rw [needsA_yes hv (by omega) (by omega), Int.toNat_natCast] at h
  rw [hv] at hH
  simp only [if_true] at hH
  subst h
  subst hH
  have hF := valid_fine hv
  have hg := valid_full hv
  have hm := headsK_mid hF _ (Nat.le_refl _)
  have hh := hm.isHead hg
  have h8 := fine_len hF
  have hsum := head_sum hv v hz
  have e0 : sumL ((needs2 g v).map fun x => timeOf g x.toNat) = psum (timeOf g) g.length (reachB g v) := rfl
  rw [e0]
  refine ⟨hm.len, by have := needs2_len g v; omega, ?_, hsum, ?_⟩
  · intro k hk
    have hx := List.getElem_mem hk
    generalize (needs2 g v)[k] = x at *
    unfold needs2 at hx
    obtain ⟨u, hu, _, rfl⟩ := (mem_pick _ _ _).1 hx
    have := fine_time hF hu
    rw [Int.toNat_natCast]
    omega
  · have e : gi (headsC g) v = maxL ((need g v).map fun x => gi (headsC g) x.toNat + timeOf g x.toNat) := hh v hz
    cases hn : need g v with
    | nil =>
      have h1 : gi (headsC g) v = 0 := by rw [e, hn]; rfl
      have h2 : psum (timeOf g) g.length (reachB g v) ≤ 0 := by
        have h3 := psum_le (time_nonneg hF) (p := reachB g v) (q := fun _ => false) g.length (by
          intro i _ hr
          have hr := reachB_iff.1 hr
          rw [Reach_iff, hn] at hr
          simp at hr)
        have h4 : ∀ n, psum (timeOf g) n (fun _ => false) = 0 := by
          intro n
          induction n with
          | zero => rfl
          | succ n ih => rw [psum_succ, ih]; simp
        rw [h4] at h3
        exact h3
      have a1 : ¬ 0 < gi (headsC g) v := by omega
      have a2 : ¬ 0 < psum (timeOf g) g.length (reachB g v) := by omega
      simp [a1, a2]
    | cons x r =>
      have hx : x ∈ need g v := by rw [hn]; simp
      have hr := fine_need hF hx
      have h1 := le_maxL (List.mem_map_of_mem (f := fun x : Int => gi (headsC g) x.toNat + timeOf g x.toNat) hx)
      have h2 := fine_time hF (i := x.toNat) (by omega)
      have h3 : 0 ≤ gi (headsC g) x.toNat := hm.lo x.toNat (by omega)
      have h4 : 0 < gi (headsC g) v := by rw [e]; omega
      have h5 : 0 < psum (timeOf g) g.length (reachB g v) := by omega
      simp [h4, h5]
end Go.Proofs.Ytihgakbopkaemaa.Bs
namespace Go.Proofs.Ytihgakbopkaemaa
theorem sumL_take (L : List Int) (f : Int → Int) (k : Nat) (hk : k < L.length) : Bs.sumL ((L.take (k + 1)).map f) = Bs.sumL ((L.take k).map f) + f L[k] := by
  rw [List.take_succ_eq_append_getElem hk, List.map_append, Bs.sumL_append]
  simp [Bs.sumL]
end Go.Proofs.Ytihgakbopkaemaa
