/-
  PLAIN MATHEMATICS of graphs of tasks: what the law of the ready order wants. No condition.
-/
import Derived.Test.YtgpmnfnliifegaaK37
import Derived.Test.YtgpmnfnliifegaaMath10
namespace Go.Proofs.Ytgpmnfnliifegaa.Bs
theorem tailsC_length {g : List T} (hv : valid g = true) : (tailsC g).length = g.length := (tailsC_spec (valid_fine hv) (valid_full hv)).len
theorem rord_law {g : List T} {d L R S : List Int} (hL : L = ordL g d) (hR : R = readyL g d) (hS : S = if valid g then tailsC g else []) (h0 : ¬ L.length = 0) :
    R.length = L.length ∧ S.length = g.length ∧ g.length ≤ 8 ∧ (∀ k (_ : k < L.length), R.contains L[k] = true) ∧ (∀ k (_ : k < L.length), 0 ≤ L[k] ∧ L[k] < g.length) ∧
    ∀ k (_ : k + 1 < L.length), gi S L[k + 1].toNat < gi S L[k].toNat ∨ (gi S L[k].toNat = gi S L[k + 1].toNat ∧ L[k] < L[k + 1]) := by
  cases hv : vdone g d
  · rw [ordL_no hv] at hL; subst hL; exact absurd rfl h0
  · have hvg := vdone_valid hv
    have hF := valid_fine hvg
    have h8 := fine_len hF
    rw [ordL_yes hv] at hL
    have hR2 : R = readyC g d := by rw [hR]; unfold readyL; rw [hv]; rfl
    have hS2 : S = tailsC g := by rw [hS, hvg]; rfl
    obtain ⟨h1, h2⟩ := ord_ok (d := d) hF
    rw [← hL] at h1 h2
    have hb : ∀ k (_ : k < L.length), 0 ≤ L[k] ∧ L[k] < g.length := fun k hk => ready_in ((h2 _).1 (List.getElem_mem hk))
    refine ⟨by rw [hR2, hL]; exact (ord_len hF).symm, by rw [hS2]; exact tailsC_length hvg, h8, ?_, hb, ?_⟩
    · intro k hk
      rw [hR2, contains_iff', ← h2]
      exact List.getElem_mem hk
    · intro k hk
      have h := List.pairwise_iff_getElem.1 h1 k (k + 1) (by omega) hk (by omega)
      have b1 := hb k (by omega)
      have b2 := hb (k + 1) hk
      rw [kkT_lt (by omega) (by omega)] at h
      rw [hS2]
      exact h
end Go.Proofs.Ytgpmnfnliifegaa.Bs
