/-
  WHAT THE LAWS OF OUTCOMES WANT: facts on the answers, ready for the walks. No condition.
-/
import Derived.Test.YthllincpbiafcaaW75
namespace Go.Proofs.Ythllincpbiafcaa
open Go.RowKit
theorem Outcomes_len100 (g : List Bs.T) (F : List Int) (a : Int) (_hg : g.length ≤ 100) (_hd : F.length ≤ 100) : (Bs.outL g F a).length ≤ 1000 := outL_len1000 g F a
theorem out_can {g : List Bs.T} {F L : List Int} {a : Int} (hL : L = Bs.outL g F a) (h0 : ¬ L.length = 0) : Bs.canF g F a = true := by
  cases h : Bs.canF g F a
  · rw [Bs.outL_no h] at hL; rw [hL] at h0; exact absurd rfl h0
  · rfl
theorem out_is {g : List Bs.T} {F L : List Int} {a : Int} (hL : L = Bs.outL g F a) (h : Bs.canF g F a = true) : L = Bs.outC g F a := by rw [hL, Bs.outL_yes h]
/-- without failures everything is done -/
theorem none_law {g : List Bs.T} {F : List Int} {a : Int} (h : Bs.canF g F a = true) : (Bs.outL g [] a).length = g.length ∧ Bs.sumZ (Bs.outL g [] a) = 0 ∧ ∀ x ∈ Bs.outL g [] a, 0 ≤ x ∧ x ≤ 100 := by
  obtain ⟨hv, _, h1, h8⟩ := Bs.canF_iff.1 h
  have hc : Bs.canF g [] a = true := Bs.canF_iff.2 ⟨hv, Bs.inG_yes rfl rfl, h1, h8⟩
  have hI := Bs.outI g [] a
  have hl := Bs.outC_len g [] a
  have hz : ∀ x ∈ Bs.outC g [] a, x = 0 := by
    intro x hx
    obtain ⟨i, hi, rfl⟩ := List.mem_iff_getElem.1 hx
    have := hI.none_ (valid_full hv) h1 i (by omega)
    rw [Bs.gi_at hi] at this
    exact this
  rw [Bs.outL_yes hc]
  refine ⟨hl, ?_, fun x hx => by have := hz x hx; omega⟩
  have := Bs.sumZ_const _ 0 hz
  omega
/-- each task's outcome -/
theorem task_law {g : List Bs.T} {F : List Int} {a : Int} (h : Bs.canF g F a = true) {i : Nat} (hi : i < g.length) :
    (Bs.gi (Bs.outC g F a) i = 0 ∧ (g[i].needs.all fun x => Bs.gi (Bs.outC g F a) x.toNat == 0) = true ∧ F.contains (i : Int) = false) ∨
    (Bs.gi (Bs.outC g F a) i = 1 ∧ (g[i].needs.all fun x => Bs.gi (Bs.outC g F a) x.toNat == 0) = true ∧ F.contains (i : Int) = true) ∨
    (Bs.gi (Bs.outC g F a) i = 2 ∧ (g[i].needs.all fun x => Bs.gi (Bs.outC g F a) x.toNat == 0) = false) ∨ Bs.gi (Bs.outC g F a) i = 3 := by
  have := (Bs.outI g F a).task (valid_full (Bs.canF_iff.1 h).1) hi
  unfold Bs.fineO at this
  rw [need_at hi] at this
  exact this
theorem enough_law {g : List Bs.T} {F : List Int} {a : Int} (h : Bs.canF g F a = true) : Bs.cntO 1 (Bs.outC g F a) ≤ a ∧ (Bs.cntO 1 (Bs.outC g F a) = a ∨ Bs.cntO 3 (Bs.outC g F a) = 0) := by
  obtain ⟨hv, _, h1, _⟩ := Bs.canF_iff.1 h
  exact (Bs.outI g F a).enough (valid_full hv) (by omega)
theorem can_one {g : List Bs.T} {F : List Int} {a : Int} (h : Bs.canF g F a = true) : Bs.canF g F 1 = true := by
  obtain ⟨hv, hF, _, _⟩ := Bs.canF_iff.1 h
  exact Bs.canF_iff.2 ⟨hv, hF, by omega, by omega⟩
/-- one failure is enough -/
theorem first_out {g : List Bs.T} {F : List Int} : ∃ f : Nat → Int, f 0 = 0 ∧ (∀ k (hk : k < (Bs.top g).length), f (k + 1) = f k + Bs.oneIf (Bs.gi (Bs.outC g F 1) (Bs.top g)[k].toNat)) ∧
    (∀ k (hk : k < (Bs.top g).length), ((0 < f k ∧ Bs.gi (Bs.outC g F 1) (Bs.top g)[k].toNat = 3) ∨ (f k = 0 ∧ (Bs.gi (Bs.outC g F 1) (Bs.top g)[k].toNat = 0 ∨ Bs.gi (Bs.outC g F 1) (Bs.top g)[k].toNat = 1)))) := by
  have h := Bs.outI g F 1
  exact ⟨fun k => (Bs.outK g F 1 k).2, h.zero, h.succ, h.first⟩
/-- the counts of all outcomes -/
theorem cnt_all {l : List Int} (h : ∀ x ∈ l, x = 0 ∨ x = 1 ∨ x = 2 ∨ x = 3) : Bs.cntO 0 l + Bs.cntO 1 l + Bs.cntO 2 l + Bs.cntO 3 l = l.length := by
  induction l with
  | nil => rfl
  | cons x r ih =>
    have h1 := ih (fun y hy => h y (by simp [hy]))
    have h2 := h x (by simp)
    have e : ∀ v, Bs.cntO v (x :: r) = Bs.cntO v r + (if x == v then 1 else 0) := by
      intro v
      unfold Bs.cntO
      cases hx : x == v
      · simp [hx]
      · simp [hx]
    rw [e 0, e 1, e 2, e 3, List.length_cons]
    rcases h2 with rfl | rfl | rfl | rfl <;> simp <;> omega
theorem count_law {g : List Bs.T} {F : List Int} {a kind : Int} (h : ¬ Bs.cntL g F a kind < 0) : Bs.canF g F a = true ∧ 0 ≤ kind ∧ kind ≤ 3 ∧ (∀ k : Int, 0 ≤ k → k ≤ 3 → Bs.cntL g F a k = Bs.cntO k (Bs.outC g F a)) ∧ Bs.cntO 0 (Bs.outC g F a) + Bs.cntO 1 (Bs.outC g F a) + Bs.cntO 2 (Bs.outC g F a) + Bs.cntO 3 (Bs.outC g F a) = g.length ∧ g.length ≤ 8 := by
  cases hc : Bs.canF g F a
  · rw [Bs.cntL_no1 hc] at h; omega
  · cases hk : decide (0 ≤ kind ∧ kind ≤ 3)
    · rw [Bs.cntL_no2 hk] at h; omega
    · rw [decide_eq_true_eq] at hk
      have hv := (Bs.canF_iff.1 hc).1
      refine ⟨rfl, hk.1, hk.2, ?_, ?_, Bs.fine_len (valid_fine hv)⟩
      · intro k h1 h2
        exact Bs.cntL_yes hc (by simp; omega)
      · rw [cnt_all ((Bs.outI g F a).cases (valid_full hv)), Bs.outC_len]
theorem count_more {g : List Bs.T} {F : List Int} {a : Int} (h : Bs.canF g F a = true) (h8 : a ≠ 8) : Bs.cntL g F a 0 ≤ Bs.cntL g F (a + 1) 0 := by
  obtain ⟨hv, hF, h1, h2⟩ := Bs.canF_iff.1 h
  have hc : Bs.canF g F (a + 1) = true := Bs.canF_iff.2 ⟨hv, hF, by omega, by omega⟩
  rw [Bs.cntL_yes h (by rfl), Bs.cntL_yes hc (by rfl)]
  exact (Bs.outI g F a).moreDone (Bs.outI g F (a + 1)) (by omega) (valid_full hv)
theorem count_done {g : List Bs.T} {F : List Int} {a : Int} (h : Bs.canF g F a = true) : Bs.vdone g (Bs.pick g.length fun i => Bs.gi (Bs.outC g F a) i == 0) = true ∧ ((Bs.pick g.length fun i => Bs.gi (Bs.outC g F a) i == 0).length : Int) = Bs.cntL g F a 0 := by
  have hv := (Bs.canF_iff.1 h).1
  refine ⟨(Bs.outI g F a).done hv, ?_⟩
  have hl := Bs.outC_len g F a
  have := Bs.pick_cnt (Bs.outC g F a) 0 (Bs.outC g F a).length (Nat.le_refl _)
  rw [List.take_length, hl] at this
  rw [Bs.cntL_yes h (by rfl)]
  exact this
end Go.Proofs.Ythllincpbiafcaa
namespace Go.Proofs.Ythllincpbiafcaa
theorem blame_facts {g : List Bs.T} {F : List Int} {m : Nat} (hc : Bs.canF g F 8 = true) (hm : m < g.length) :
    (Bs.blamL g F (m : Int) = -1 ∧ Bs.gi (Bs.outC g F 8) m = 0) ∨ (∃ k : Nat, Bs.blamL g F (m : Int) = (k : Int) ∧ k < g.length ∧ Bs.gi (Bs.outC g F 8) k = 1 ∧ Bs.gi (Bs.outC g F 8) m ≠ 0 ∧ (k = m ∨ (Bs.needs2 g m).contains (k : Int) = true) ∧ F.contains (k : Int) = true ∧ (g[m].needs.length = 0 → k = m)) := by
  have hv := Bs.blamL_yes (a := (m : Int)) hc (by simp; omega)
  rw [Int.toNat_natCast] at hv
  rcases Bs.blame_law hc hm with ⟨h1, h2⟩ | ⟨k, h1, h2, h3, h4, h5, h6, h7⟩
  · exact .inl ⟨by rw [hv, h1], h2⟩
  · refine .inr ⟨k, by rw [hv, h1], h2, h3, h4, ?_, h6, ?_⟩
    · rcases h5 with h | h
      · exact .inl h
      · right
        unfold Bs.needs2
        rw [Bs.contains_iff, Bs.mem_pick_nat]
        exact ⟨h2, h⟩
    · intro h
      rw [need_at hm] at h7
      exact h7 (List.eq_nil_of_length_eq_zero h)
theorem blame_yes {g : List Bs.T} {F : List Int} {a : Int} (h : ¬ Bs.blamL g F a < 0) : Bs.canF g F 8 = true ∧ ∃ m : Nat, a = (m : Int) ∧ m < g.length := by
  cases hc : Bs.canF g F 8
  · rw [Bs.blamL_no1 hc] at h; omega
  · cases ht : decide (0 ≤ a ∧ a ≤ (g.length : Int) - 1)
    · rw [Bs.blamL_no2 ht] at h; omega
    · rw [decide_eq_true_eq] at ht
      exact ⟨rfl, a.toNat, by omega, by omega⟩
end Go.Proofs.Ythllincpbiafcaa
