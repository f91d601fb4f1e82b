/-
  WHAT THE LAW OF OUTCOMES AND STALE TASKS WANTS: facts on the answers, ready for the walk. No condition.
-/
import Derived.Test.YthllincpbiafcaaMath71
import Derived.Test.YthllincpbiafcaaMath63
import Derived.Test.YthllincpbiafcaaW90
namespace Go.Proofs.Ythllincpbiafcaa
open Go.RowKit
theorem users_out {g : List Bs.T} {F L : List Int} {a : Int} (hL : L = Bs.outL g F a) (h0 : ¬ L.length = 0) :
    (Bs.outL g F 8).length = g.length ∧ (Bs.staleL g F).length ≤ 1000 ∧ ∀ i, i < g.length → (Bs.gi (Bs.outL g F 8) i == 0) = !(Bs.staleL g F).contains (i : Int) ∧ (Bs.gi (Bs.outL g F 8) i == 3) = false := by
  have hcf := out_can hL h0
  obtain ⟨hv, hF, h1, h8⟩ := Bs.canF_iff.1 hcf
  have hc8 : Bs.canF g F 8 = true := Bs.canF_iff.2 ⟨hv, hF, by omega, by omega⟩
  have hst : Bs.staOk g F = true := Bs.staOk_iff.2 ⟨hv, hF⟩
  obtain ⟨hf, hg⟩ := (Bs.valid_iff g).1 hv
  refine ⟨by rw [Bs.outL_yes hc8, Bs.outC_len], staleL_len1000 g F, fun i hi => ?_⟩
  rw [Bs.outL_yes hc8, Bs.staleL_yes hst, Bs.stale_has hi]
  refine ⟨Bs.out_stale hv hF i hi, ?_⟩
  rw [beq_eq_false_iff_ne]
  exact (Bs.outI g F 8).noLeft hv hi
end Go.Proofs.Ythllincpbiafcaa
