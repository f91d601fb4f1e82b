/-
  PLAIN MATHEMATICS of logs: one worker's plan has a valid log, in which one task runs at a time. No condition.
-/
import Derived.Test.YtihgakbopkaemaaK39
import Derived.Test.YtihgakbopkaemaaK32
import Derived.Test.YtihgakbopkaemaaK44
namespace Go.Proofs.Ytihgakbopkaemaa.Bs
def m4 : List Int := [4, 4, 4]
theorem one_log {g : List T} (hv : valid g = true) (h0 : 0 < g.length) : logV g (logL g m4 1 (planL g m4 1)) = true ∧ mtL g (logL g m4 1 (planL g m4 1)) = 1 := by
  have hc : canV g m4 1 = true := by
    show (valid g && roomOk m4 && decide ((1 : Int) ≤ 1 ∧ (1 : Int) ≤ 4)) = true
    rw [hv]
    decide
  have hst := planL_valid hc
  obtain ⟨hF, h8, hl, hs, ht, _, _⟩ := stV_facts hst
  have he := plan_one hc
  rw [endT_yes hst] at he
  have hsum : sumT g ≤ 160 := by
    have := (sumT_b hF g.length (Nat.le_refl _)).2
    rw [List.take_length] at this
    unfold sumT
    omega
  have hle : ∀ i, i < g.length → giZ (planL g m4 1) i ≤ 180 := by
    intro i hi
    have h1 := end_ge (S := planL g m4 1) hi
    have h2 := ht i hi
    omega
  have hlg := lg_valid hst hle
  have hm := lg_most hst hlg
  have hl := mt_law hlg
  have hp := hl.2.2.2 (by rw [lg_len hst]; omega)
  rw [logL_yes hst]
  exact ⟨hlg, by omega⟩
end Go.Proofs.Ytihgakbopkaemaa.Bs
