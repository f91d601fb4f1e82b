/-
  WALKS: the critical chain.
-/
import Derived.Test.YtihgakbopkaemaaW21
import Derived.Test.YtihgakbopkaemaaK1
namespace Go.Proofs.Ytihgakbopkaemaa
open Go.RowKit
def chainF (g : List Bs.T) (t : List Int) : Nat → Int → List Int
  | 0, _ => []
  | k + 1, a => if a < 0 then [] else a :: chainF g t k (linkN g t (a.toNat : Nat) (Bs.gi t a.toNat - Bs.timeOf g a.toNat))
def chainC (g : List Bs.T) : List Int := chainF g (Bs.tailsC g) 200 (linkF g.length (Bs.tailsC g) (longC g))
def chainL (g : List Bs.T) : List Int := if Bs.valid g then chainC g else []
theorem chainL_no {g : List Bs.T} (h : Bs.valid g = false) : chainL g = [] := by unfold chainL; rw [h]; rfl
theorem chainL_yes {g : List Bs.T} (h : Bs.valid g = true) : chainL g = chainC g := by unfold chainL; rw [h]; rfl
theorem chainF_len (g : List Bs.T) (t : List Int) : ∀ k a, (chainF g t k a).length ≤ k := by
  intro k
  induction k with
  | zero => intro a; exact Nat.le_refl _
  | succ k ih =>
    intro a
    unfold chainF
    split
    · simp
    · simp only [List.length_cons]; have := ih (linkN g t (a.toNat : Nat) (Bs.gi t a.toNat - Bs.timeOf g a.toNat)); omega
theorem CriticalChain_len (g : List Bs.T) : (chainL g).length ≤ 1000 := by
  unfold chainL
  split
  · have := chainF_len g (Bs.tailsC g) 200 (linkF g.length (Bs.tailsC g) (longC g)); unfold chainC; omega
  · simp
theorem chainF_neg (g : List Bs.T) (t : List Int) (k : Nat) {a : Int} (h : a < 0) : chainF g t k a = [] := by
  cases k with
  | zero => rfl
  | succ k => unfold chainF; rw [if_pos h]
/-- where the loop stands: l is collected, a comes next; k bounds what is left -/
structure Mid (g : List Bs.T) (t : List Int) (full l : List Int) (a : Int) (k : Nat) : Prop where
  all : l ++ chainF g t k a = full
  at_ : a = -1 ∨ ∃ v : Nat, a = (v : Int) ∧ v < g.length ∧ Bs.gi t v < k
theorem Mid.stop {g : List Bs.T} {t full l : List Int} {a : Int} {k : Nat} (h : Mid g t full l a k) (ha : a < 0) : l = full := by
  rw [← h.all, chainF_neg g t k ha, List.append_nil]
theorem Mid.step {g : List Bs.T} {t full l : List Int} {v : Nat} {k : Nat} (h : Mid g t full l (v : Int) k) (hF : Bs.fine g = true) (hb : ∀ i, i < g.length → 0 ≤ Bs.gi t i) :
    0 < k ∧ v < g.length ∧ Mid g t full (l ++ [(v : Int)]) (linkN g t (v : Nat) (Bs.gi t v - Bs.timeOf g v)) (k - 1) := by
  obtain ⟨u, hu, hul, hk⟩ : ∃ u : Nat, (v : Int) = (u : Int) ∧ u < g.length ∧ Bs.gi t u < k := by
    rcases h.at_ with e | e
    · omega
    · exact e
  have : u = v := by omega
  subst this
  have h0 := hb u hul
  have ht := Bs.fine_time hF hul
  obtain ⟨k, rfl⟩ : ∃ m, k = m + 1 := ⟨k - 1, by omega⟩
  refine ⟨by omega, hul, ?_, ?_⟩
  · rw [← h.all]
    show l ++ [(u : Int)] ++ chainF g t k _ = l ++ chainF g t (k + 1) (u : Int)
    rw [chainF, if_neg (by omega), Int.toNat_natCast, List.append_assoc]
    rfl
  · rcases firstI_cases g.length (fun i => Bs.gi t i == Bs.gi t u - Bs.timeOf g u && (Bs.need g i).contains (u : Int)) with e | ⟨x, hx, e, hp⟩
    · exact .inl e
    · refine .inr ⟨x, e, hx, ?_⟩
      simp only [Bool.and_eq_true, beq_iff_eq] at hp
      rw [hp.1]
      omega
theorem Mid.start {g : List Bs.T} (hf : Bs.valid g = true) : Mid g (Bs.tailsC g) (chainC g) [] (linkF g.length (Bs.tailsC g) (longC g)) 200 := by
  refine ⟨rfl, ?_⟩
  obtain ⟨_, _, _, _, hbd⟩ := bounds_of hf
  rcases firstI_cases g.length (fun i => Bs.gi (Bs.tailsC g) i == longC g) with e | ⟨x, hx, e, _⟩
  · exact .inl e
  · exact .inr ⟨x, e, hx, by have := (hbd x hx).2.2.2; omega⟩

def mu (t : List Int) (v : Value) : Nat := if intOf v < 0 then 0 else (Bs.gi t (intOf v).toNat + 1).toNat
theorem mu_neg (t : List Int) : mu t (.int .i64 (-1)) = 0 := by unfold mu; simp [intOf]
theorem mu_nat (t : List Int) (x : Nat) : mu t (.int .i64 (x : Int)) = (Bs.gi t x + 1).toNat := by unfold mu; rw [if_neg (show ¬ intOf (Value.int .i64 (x : Int)) < 0 from by show ¬ (x : Int) < 0; omega)]; show (Bs.gi t ((x : Int)).toNat + 1).toNat = _; rw [Int.toNat_natCast]
end Go.Proofs.Ytihgakbopkaemaa
