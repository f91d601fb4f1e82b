/-
  WHAT THE LAW OF ONE STEP OF ALL WANTS: facts on the answers, ready for the walk. No condition.
-/
import Derived.Test.YtcoipkogfgcdeaaMath84
import Derived.Test.YtcoipkogfgcdeaaR62
namespace Go.Proofs.Ytcoipkogfgcdeaa
open Go.RowKit
theorem serv_step {g : List Bs.U} {a : Int} (h : Bs.srvOk g a = true) (h0 : ¬ (Bs.seqL g a).length = 0) : Bs.seOk g a = true ∧ Bs.serL g a = Bs.srvL g a ∧ Bs.seqL (Bs.srvL g a) a = (Bs.seqL g a).tail := by
  obtain ⟨hu, ht⟩ := Bs.srvOk_iff.1 h
  rw [Bs.seqL_yes h] at h0 ⊢
  by_cases h1 : Bs.nextC g < 0
  · rw [Bs.seqC_end hu h1] at h0
    exact absurd rfl h0
  · obtain ⟨s1, s2, _⟩ := serve_some (t := a) hu ht h1
    refine ⟨s1, s2, ?_⟩
    rw [Bs.seqL_yes (Bs.srvOk_iff.2 ⟨Bs.srvL_ok hu (by omega) ht, ht⟩), Bs.seqC_step hu (by omega)]
    rfl
end Go.Proofs.Ytcoipkogfgcdeaa
