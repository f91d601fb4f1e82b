/-
  PLAIN MATHEMATICS of failures: who is to blame; tasks that are cancelled. No condition.
-/
import Derived.Test.YthllincpbiafcaaMath60
import Derived.Test.YthllincpbiafcaaK2
import Derived.Test.YthllincpbiafcaaW21
namespace Go.Proofs.Ythllincpbiafcaa.Bs
noncomputable def blamP (g : List T) (F : List Int) (a : Nat) (i : Nat) : Bool := gi (outC g F 8) i == 1 && (decide (i = a) || reachB g a i)
noncomputable def blamC (g : List T) (F : List Int) (a : Nat) : Int := firstI g.length (blamP g F a)
noncomputable def blamL (g : List T) (F : List Int) (a : Int) : Int := if canF g F 8 && decide (0 ≤ a ∧ a ≤ (g.length : Int) - 1) then blamC g F a.toNat else -1
theorem blamL_no1 {g : List T} {F : List Int} {a : Int} (h : canF g F 8 = false) : blamL g F a = -1 := by unfold blamL; rw [h]; rfl
theorem blamL_no2 {g : List T} {F : List Int} {a : Int} (h : decide (0 ≤ a ∧ a ≤ (g.length : Int) - 1) = false) : blamL g F a = -1 := by unfold blamL; rw [h]; simp
theorem blamL_yes {g : List T} {F : List Int} {a : Int} (h : canF g F 8 = true) (h2 : decide (0 ≤ a ∧ a ≤ (g.length : Int) - 1) = true) : blamL g F a = blamC g F a.toNat := by unfold blamL; rw [h, h2]; rfl
/-- with all failures nothing is left -/
theorem OutI.noLeft {g : List T} {F : List Int} {o : List Int} {f : Nat → Int} (h : OutI g F 8 o f) (hv : valid g = true) {i : Nat} (hi : i < g.length) : gi o i ≠ 3 := by
  obtain ⟨hF, hg⟩ := (valid_iff g).1 hv
  have h8 := fine_len hF
  have hfull : (top g).length = g.length := hg
  have hb : ∀ k, k ≤ (top g).length → f k ≤ k := by
    intro k
    induction k with
    | zero => intro _; rw [h.zero]; simp
    | succ k ih =>
      intro hk
      have h1 := ih (by omega)
      have h2 := h.succ k (by omega)
      have h3 := oneIf_b (gi o (top g)[k].toNat)
      omega
  obtain ⟨k, hk, e⟩ := hg.pos hi
  have h1 := h.val k hk
  have e2 : (top g)[k].toNat = i := by omega
  rw [e2] at h1
  have h2 := hb k (by omega)
  rw [h1]
  unfold outV
  rw [if_neg (by omega)]
  split
  · omega
  · split <;> omega
/-- who needs what is not done is not done -/
theorem OutI.spread {g : List T} {F : List Int} {keep : Int} {o : List Int} {f : Nat → Int} (h : OutI g F keep o f) (hg : Full g) {a i : Nat} (hr : Reach g a i) (hi : gi o i ≠ 0) : gi o a ≠ 0 := by
  have key : ∀ (a x : Nat), (x : Int) ∈ need g a → a < g.length → gi o x ≠ 0 → gi o a ≠ 0 := by
    intro a x hx ha h0
    have hfo : fineO g o a = false := by
      unfold fineO
      rw [List.all_eq_false]
      exact ⟨(x : Int), hx, by simpa using h0⟩
    rcases h.task hg ha with ⟨_, h1, _⟩ | ⟨h1, _⟩ | ⟨h1, _⟩ | h1
    · rw [hfo] at h1; cases h1
    · omega
    · omega
    · omega
  induction hr with
  | one hx => exact key _ _ hx (Reach.src (.one hx)) hi
  | via hx hr ih => exact key _ _ hx (Reach.src (.one hx)) (ih hi)
/-- what is not done goes back to a failure -/
theorem OutI.back {g : List T} {F : List Int} {o : List Int} {f : Nat → Int} (h : OutI g F 8 o f) (hv : valid g = true) : ∀ a, a < g.length → gi o a ≠ 0 → ∃ i, i < g.length ∧ gi o i = 1 ∧ (i = a ∨ Reach g a i) := by
  obtain ⟨hF, hg⟩ := (valid_iff g).1 hv
  refine need_ind hg (fun a => gi o a ≠ 0 → ∃ i, i < g.length ∧ gi o i = 1 ∧ (i = a ∨ Reach g a i)) ?_
  intro a ha ih h0
  rcases h.task hg ha with ⟨h1, _, _⟩ | ⟨h1, _⟩ | ⟨_, h1⟩ | h1
  · omega
  · exact ⟨a, ha, h1, .inl rfl⟩
  · unfold fineO at h1
    rw [List.all_eq_false] at h1
    obtain ⟨x, hx, hxn⟩ := h1
    have hxr := fine_need hF hx
    obtain ⟨i, hi, h2, h3⟩ := ih x hx (by simpa using hxn)
    have hx' : ((x.toNat : Nat) : Int) ∈ need g a := by rw [Int.toNat_of_nonneg hxr.1]; exact hx
    refine ⟨i, hi, h2, .inr ?_⟩
    rcases h3 with rfl | h3
    · exact .one hx'
    · exact .via hx' h3
  · exact absurd h1 (h.noLeft hv ha)
/-- what the laws of blame want -/
theorem blame_law {g : List T} {F : List Int} {a : Nat} (hc : canF g F 8 = true) (ha : a < g.length) :
    (blamC g F a = -1 ∧ gi (outC g F 8) a = 0) ∨ (∃ k : Nat, blamC g F a = (k : Int) ∧ k < g.length ∧ gi (outC g F 8) k = 1 ∧ gi (outC g F 8) a ≠ 0 ∧ (k = a ∨ reachB g a k = true) ∧ F.contains (k : Int) = true ∧ (need g a = [] → k = a)) := by
  obtain ⟨hv, _, _, _⟩ := canF_iff.1 hc
  obtain ⟨hF, hg⟩ := (valid_iff g).1 hv
  have hI := outI g F 8
  unfold blamC
  rcases firstI_cases g.length (blamP g F a) with e | ⟨k, hk, e, hp⟩
  · left
    refine ⟨e, ?_⟩
    by_cases h0 : gi (outC g F 8) a = 0
    · exact h0
    · exfalso
      obtain ⟨i, hi, h1, h2⟩ := hI.back hv a ha h0
      unfold firstI at e
      cases hq : (List.range g.length).find? (blamP g F a) with
      | none =>
        rw [List.find?_eq_none] at hq
        refine hq i (List.mem_range.2 hi) ?_
        unfold blamP
        rw [h1]
        rcases h2 with rfl | h2
        · simp
        · simp [reachB_iff.2 h2]
      | some x =>
        rw [hq] at e
        simp only at e
        omega
  · right
    unfold blamP at hp
    rw [Bool.and_eq_true, beq_iff_eq, Bool.or_eq_true, decide_eq_true_eq] at hp
    refine ⟨k, e, hk, hp.1, ?_, hp.2, ?_, ?_⟩
    · rcases hp.2 with rfl | h2
      · omega
      · exact hI.spread hg (reachB_iff.1 h2) (by omega)
    · rcases hI.task hg hk with ⟨h1, _⟩ | ⟨_, _, h1⟩ | ⟨h1, _⟩ | h1
      · omega
      · exact h1
      · omega
      · omega
    · intro hn
      rcases hp.2 with h2 | h2
      · exact h2
      · exfalso
        have h3 := reachB_iff.1 h2
        cases h3 with
        | one h => rw [hn] at h; simp at h
        | via h _ => rw [hn] at h; simp at h
/-- cancelled tasks -/
def canI (g : List T) (S : List Int) (now : Int) (i : Nat) : Int := if endF g S i ≤ now then 0 else if giZ S i < now then 1 else 3
def canC (g : List T) (S : List Int) (now : Int) : List Int := (List.range g.length).map (canI g S now)
def canOk (g : List T) (m : List Int) (wk : Int) (S : List Int) (now : Int) : Bool := stV g m wk S && decide (0 ≤ now ∧ now ≤ 200)
def canL (g : List T) (m : List Int) (wk : Int) (S : List Int) (now : Int) : List Int := if canOk g m wk S now then canC g S now else []
theorem canL_no {g : List T} {m : List Int} {wk : Int} {S : List Int} {now : Int} (h : canOk g m wk S now = false) : canL g m wk S now = [] := by unfold canL; rw [h]; rfl
theorem canL_yes {g : List T} {m : List Int} {wk : Int} {S : List Int} {now : Int} (h : canOk g m wk S now = true) : canL g m wk S now = canC g S now := by unfold canL; rw [h]; rfl
theorem canOk_iff {g : List T} {m : List Int} {wk : Int} {S : List Int} {now : Int} : canOk g m wk S now = true ↔ stV g m wk S = true ∧ 0 ≤ now ∧ now ≤ 200 := by
  unfold canOk
  rw [Bool.and_eq_true, decide_eq_true_eq]
theorem canC_len (g : List T) (S : List Int) (now : Int) : (canC g S now).length = g.length := by simp [canC]
theorem canL_len (g : List T) (m : List Int) (wk : Int) (S : List Int) (now : Int) : (canL g m wk S now).length ≤ g.length := by
  unfold canL
  split
  · rw [canC_len]; exact Nat.le_refl _
  · simp
theorem canC_at {g : List T} {S : List Int} {now : Int} {i : Nat} (hi : i < (canC g S now).length) : (canC g S now)[i] = canI g S now i := by simp [canC]
theorem canI_cases (g : List T) (S : List Int) (now : Int) (i : Nat) : canI g S now i = 0 ∨ canI g S now i = 1 ∨ canI g S now i = 3 := by
  unfold canI
  split
  · simp
  · split <;> simp
/-- a task's need is over when it has begun -/
theorem can_need {g : List T} {m : List Int} {wk : Int} {S : List Int} {now : Int} (h : stV g m wk S = true) {i : Nat} (hi : i < g.length) (h3 : canI g S now i ≠ 3) : ∀ x ∈ need g i, canI g S now x.toNat = 0 := by
  obtain ⟨hc, hk, hs⟩ := stV_iff.1 h
  obtain ⟨hv, _, _, _⟩ := canV_iff.1 hc
  have hF := ((valid_iff g).1 hv).1
  intro x hx
  have ht := fine_time hF hi
  have hb : giZ S i < now := by
    unfold canI endF at h3
    split at h3
    · omega
    · split at h3
      · assumption
      · exact absurd rfl h3
  unfold stK at hs
  rw [List.all_eq_true] at hs
  have h1 := hs i (List.mem_range.2 hi)
  rw [Bool.and_eq_true] at h1
  have h2 := h1.1
  unfold needOkB at h2
  rw [List.all_eq_true] at h2
  have h4 := h2 x hx
  rw [decide_eq_true_eq] at h4
  unfold ovF at h4
  unfold canI endF
  rw [if_pos (by omega)]
theorem can_over {g : List T} {S : List Int} {now : Int} (i : Nat) : decide (endF g S i ≤ now) = (canI g S now i == 0) := by
  unfold canI
  by_cases h : endF g S i ≤ now
  · rw [if_pos h]; simp [h]
  · rw [if_neg h]
    split <;> simp [h]
theorem can_runs {g : List T} {S : List Int} {now : Int} (i : Nat) : (decide (giZ S i < now) && !decide (endF g S i ≤ now)) = (canI g S now i == 1) := by
  unfold canI
  by_cases h : endF g S i ≤ now
  · rw [if_pos h]; simp [h]
  · rw [if_neg h]
    by_cases h2 : giZ S i < now
    · rw [if_pos h2]; simp [h, h2]
    · rw [if_neg h2]; simp [h2]
theorem can_later {g : List T} {S : List Int} {now : Int} (i : Nat) : (canI g S now i = 0 → canI g S (now + 1) i = 0) ∧ (canI g S now i = 1 → canI g S (now + 1) i ≠ 3) := by
  unfold canI
  constructor
  · intro h
    split at h
    · rw [if_pos (by omega)]
    · split at h <;> omega
  · intro h
    split at h
    · omega
    · split at h
      · split
        · omega
        · rw [if_pos (by omega)]; omega
      · omega
theorem sumZ_const (l : List Int) (v : Int) (h : ∀ x ∈ l, x = v) : sumZ l = l.length * v := by
  induction l with
  | nil => simp [sumZ]
  | cons a r ih =>
    have h1 := ih (fun x hx => h x (by simp [hx]))
    have h2 := h a (by simp)
    show a + sumZ r = _
    rw [h1, h2, List.length_cons]
    have : ((r.length + 1 : Nat) : Int) * v = (r.length : Int) * v + v := by rw [Int.natCast_add, Int.add_mul]; simp
    omega
theorem can_end {g : List T} {S : List Int} : sumZ (canC g S (endC g S)) = 0 := by
  have := sumZ_const (canC g S (endC g S)) 0 (by
    intro x hx
    unfold canC at hx
    obtain ⟨i, hi, rfl⟩ := List.mem_map.1 hx
    rw [List.mem_range] at hi
    have h1 : endF g S i ≤ endC g S := by
      unfold endC endK
      exact le_maxL (List.mem_map.2 ⟨i, List.mem_range.2 hi, rfl⟩)
    unfold canI
    rw [if_pos h1])
  omega
theorem can_zero {g : List T} {m : List Int} {wk : Int} {S : List Int} (h : stV g m wk S = true) : sumZ (canC g S 0) = (g.length : Int) * 3 := by
  obtain ⟨hc, hk, hs⟩ := stV_iff.1 h
  obtain ⟨hv, _, _, _⟩ := canV_iff.1 hc
  have hF := ((valid_iff g).1 hv).1
  have := sumZ_const (canC g S 0) 3 (by
    intro x hx
    unfold canC at hx
    obtain ⟨i, hi, rfl⟩ := List.mem_map.1 hx
    rw [List.mem_range] at hi
    have h1 := (clk_at hk i).1
    have h2 := fine_time hF hi
    unfold canI endF
    rw [if_neg (by omega), if_neg (by omega)])
  rw [canC_len] at this
  exact this
end Go.Proofs.Ythllincpbiafcaa.Bs
namespace Go.Proofs.Ythllincpbiafcaa.Bs
def cntOk (g : List T) (F : List Int) (keep kind : Int) : Bool := canF g F keep && decide (0 ≤ kind ∧ kind ≤ 3)
def cntL (g : List T) (F : List Int) (keep kind : Int) : Int := if cntOk g F keep kind then cntO kind (outC g F keep) else -1
theorem cntL_no1 {g : List T} {F : List Int} {keep kind : Int} (h : canF g F keep = false) : cntL g F keep kind = -1 := by unfold cntL cntOk; rw [h]; rfl
theorem cntL_no2 {g : List T} {F : List Int} {keep kind : Int} (h : decide (0 ≤ kind ∧ kind ≤ 3) = false) : cntL g F keep kind = -1 := by unfold cntL cntOk; rw [h]; simp
theorem cntL_yes {g : List T} {F : List Int} {keep kind : Int} (h : canF g F keep = true) (h2 : decide (0 ≤ kind ∧ kind ≤ 3) = true) : cntL g F keep kind = cntO kind (outC g F keep) := by unfold cntL cntOk; rw [h, h2]; rfl
end Go.Proofs.Ythllincpbiafcaa.Bs
