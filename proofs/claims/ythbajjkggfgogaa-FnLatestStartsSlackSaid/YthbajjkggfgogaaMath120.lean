/-
  PLAIN MATHEMATICS of deadlines: latest beginnings, late tasks, deadlines that are met, workers for a deadline. No condition.
-/
import Derived.Test.YthbajjkggfgogaaK32
namespace Go.Proofs.Ythbajjkggfgogaa.Bs
def dlOk (d : Int) : Bool := decide (0 ≤ d ∧ d ≤ 200)
def meetB (g : List T) (m : List Int) (wk : Int) (S : List Int) (d : Int) : Bool := stV g m wk S && (dlOk d && decide (endC g S ≤ d))
def meetP (g : List T) (m : List Int) (d n : Int) : Bool := decide (endC g (planC g m n) ≤ d)
def wrkFrom (p : Int → Bool) : Nat → Int → Int
  | 0, _ => -1
  | k + 1, n => if p n then n else wrkFrom p k (n + 1)
def wrkC (g : List T) (m : List Int) (d : Int) : Int := wrkFrom (meetP g m d) 4 1
def wrkL (g : List T) (m : List Int) (d : Int) : Int := if valid g && (roomOk m && dlOk d) then wrkC g m d else -1
def latC (g : List T) (d : Int) : List Int := (tailsC g).map fun t => d - t
def latL (g : List T) (d : Int) : List Int := if valid g && dlOk d then latC g d else []
def lateP (g : List T) (S : List Int) (d : Int) (i : Nat) : Bool := decide (d - gi (tailsC g) i < giZ S i)
def lateC (g : List T) (S : List Int) (d : Int) : List Int := pick g.length (lateP g S d)
def lateL (g : List T) (m : List Int) (wk : Int) (S : List Int) (d : Int) : List Int := if stV g m wk S && dlOk d then lateC g S d else []
theorem wrkL_no1 {g : List T} {m : List Int} {d : Int} (h : valid g = false) : wrkL g m d = -1 := by unfold wrkL; rw [h]; rfl
theorem wrkL_no2 {g : List T} {m : List Int} {d : Int} (h : roomOk m = false) : wrkL g m d = -1 := by unfold wrkL; rw [h]; simp
theorem wrkL_no3 {g : List T} {m : List Int} {d : Int} (h : dlOk d = false) : wrkL g m d = -1 := by unfold wrkL; rw [h]; simp
theorem wrkL_yes {g : List T} {m : List Int} {d : Int} (h1 : valid g = true) (h2 : roomOk m = true) (h3 : dlOk d = true) : wrkL g m d = wrkC g m d := by unfold wrkL; rw [h1, h2, h3]; rfl
theorem wrkL_can {g : List T} {m : List Int} {d : Int} (h1 : canV g m 1 = true) (h3 : dlOk d = true) : wrkL g m d = wrkC g m d := by
  obtain ⟨a, b, _⟩ := canV_iff.1 h1
  exact wrkL_yes a b h3
theorem wrkL_cannot {g : List T} {m : List Int} {d : Int} (h1 : canV g m 1 = false) : wrkL g m d = -1 := by
  cases a : valid g
  · exact wrkL_no1 a
  · cases b : roomOk m
    · exact wrkL_no2 b
    · unfold canV at h1; rw [a, b] at h1; simp at h1
theorem latL_no1 {g : List T} {d : Int} (h : valid g = false) : latL g d = [] := by unfold latL; rw [h]; rfl
theorem latL_no2 {g : List T} {d : Int} (h : dlOk d = false) : latL g d = [] := by unfold latL; rw [h]; simp
theorem latL_yes {g : List T} {d : Int} (h1 : valid g = true) (h2 : dlOk d = true) : latL g d = latC g d := by unfold latL; rw [h1, h2]; rfl
theorem lateL_no1 {g : List T} {m S : List Int} {wk d : Int} (h : stV g m wk S = false) : lateL g m wk S d = [] := by unfold lateL; rw [h]; rfl
theorem lateL_no2 {g : List T} {m S : List Int} {wk d : Int} (h : dlOk d = false) : lateL g m wk S d = [] := by unfold lateL; rw [h]; simp
theorem lateL_yes {g : List T} {m S : List Int} {wk d : Int} (h1 : stV g m wk S = true) (h2 : dlOk d = true) : lateL g m wk S d = lateC g S d := by unfold lateL; rw [h1, h2]; rfl
theorem meetB_no1 {g : List T} {m S : List Int} {wk d : Int} (h : stV g m wk S = false) : meetB g m wk S d = false := by unfold meetB; rw [h]; rfl
theorem meetB_no2 {g : List T} {m S : List Int} {wk d : Int} (h : dlOk d = false) : meetB g m wk S d = false := by unfold meetB; rw [h]; simp
theorem meetB_yes {g : List T} {m S : List Int} {wk d : Int} (h1 : stV g m wk S = true) (h2 : dlOk d = true) : meetB g m wk S d = decide (endC g S ≤ d) := by unfold meetB; rw [h1, h2]; rfl
theorem meetB_iff {g : List T} {m S : List Int} {wk d : Int} : meetB g m wk S d = true ↔ stV g m wk S = true ∧ (0 ≤ d ∧ d ≤ 200) ∧ endC g S ≤ d := by
  unfold meetB dlOk
  simp only [Bool.and_eq_true, decide_eq_true_eq]
theorem wrk_yes {p : Int → Bool} {k : Nat} {n : Int} (h : p n = true) : wrkFrom p (k + 1) n = n := by show (if p n then n else _) = n; rw [h]; rfl
theorem wrk_no {p : Int → Bool} {k : Nat} {n : Int} (h : p n = false) : wrkFrom p (k + 1) n = wrkFrom p k (n + 1) := by show (if p n then n else _) = _; rw [h]; rfl
theorem wrk_skip {p : Int → Bool} : ∀ (j k : Nat) (n : Int), (∀ i : Int, n ≤ i → i < n + j → p i = false) → wrkFrom p (j + k) n = wrkFrom p k (n + j) := by
  intro j
  induction j with
  | zero => intro k n _; simp
  | succ j ih =>
    intro k n h
    rw [show j + 1 + k = (j + k) + 1 from by omega, wrk_no (h n (by omega) (by omega)), ih k (n + 1) (fun i h1 h2 => h i (by omega) (by omega))]
    congr 1
    omega
theorem wrk_from {g : List T} {m : List Int} {d : Int} {r : Nat} (h1 : 1 ≤ r) (h5 : r ≤ 5) (h : ∀ i : Int, 1 ≤ i → i < r → meetP g m d i = false) : wrkC g m d = wrkFrom (meetP g m d) (5 - r) r := by
  have := wrk_skip (p := meetP g m d) (r - 1) (5 - r) 1 (fun i a b => h i a (by omega))
  unfold wrkC
  rw [show r - 1 + (5 - r) = 4 from by omega] at this
  rw [this]
  congr 1
  omega
/-- too few workers for what is needed at least -/
theorem meet_no {g : List T} {m : List Int} {d : Int} (hc : canV g m 1 = true) {n : Int} (h1 : 1 ≤ n) (h4 : n ≤ 4) (h : d < leastL g m n) : meetP g m d n = false := by
  obtain ⟨a, b, _⟩ := canV_iff.1 hc
  have hcn : canV g m n = true := canV_iff.2 ⟨a, b, h1, h4⟩
  have := least_le (plan_valid hcn)
  unfold meetP
  exact decide_eq_false (by omega)
theorem leastL_mono {g : List T} {m : List Int} (hc : canV g m 1 = true) : ∀ (j : Nat) (n : Int), 1 ≤ n → n + j ≤ 4 → leastL g m (n + j) ≤ leastL g m n := by
  obtain ⟨a, b, _⟩ := canV_iff.1 hc
  intro j
  induction j with
  | zero => intro n _ _; simp
  | succ j ih =>
    intro n h1 h4
    have h2 := ih n h1 (by omega)
    have h3 := leastK_more (m := m) a (show 1 ≤ n + j by omega)
    rw [leastL_yes (canV_iff.2 ⟨a, b, by omega, by omega⟩)]
    rw [leastL_yes (canV_iff.2 ⟨a, b, by omega, by omega⟩)] at h2
    rw [show n + ((j + 1 : Nat) : Int) = n + j + 1 from by omega]
    omega
/-- the numbers up to one that is too few are too few -/
theorem meet_low {g : List T} {m : List Int} {d : Int} (hc : canV g m 1 = true) {n : Int} (h1 : 1 ≤ n) (h4 : n ≤ 4) (h : d < leastL g m n) : ∀ i : Int, 1 ≤ i → i < n + 1 → meetP g m d i = false := by
  intro i hi hn
  have := leastL_mono hc (n - i).toNat i hi (by omega)
  rw [show i + ((n - i).toNat : Int) = n from by omega] at this
  exact meet_no hc hi (by omega) (by omega)
theorem latC_len (g : List T) (d : Int) : (latC g d).length = (tailsC g).length := by simp [latC]
theorem latC_at {g : List T} {d : Int} {i : Nat} (hi : i < (tailsC g).length) : giZ (latC g d) i = d - gi (tailsC g) i := by
  rw [giZ_at (by simpa [latC] using hi), gi_at hi]
  simp [latC]
theorem tailsC_len {g : List T} (hv : valid g = true) : (tailsC g).length = g.length := (tailsC_spec (valid_iff g |>.1 hv).1 (valid_iff g |>.1 hv).2).len
theorem lateC_len (g : List T) (S : List Int) (d : Int) : (lateC g S d).length ≤ g.length := pick_len _ _
end Go.Proofs.Ythbajjkggfgogaa.Bs
