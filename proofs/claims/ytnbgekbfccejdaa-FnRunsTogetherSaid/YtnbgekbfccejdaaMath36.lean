/-
  PLAIN MATHEMATICS of graphs of tasks: what runs together runs without one, and each one alone. No condition.
-/
import Derived.Test.YtnbgekbfccejdaaMath33
namespace Go.Proofs.Ytnbgekbfccejdaa.Bs
theorem asc_of {l : List Int} (h : l.Pairwise (fun a b => a < b)) : asc l = true := by
  rw [asc_iff]
  intro k hk
  exact List.pairwise_iff_getElem.1 h k (k + 1) (by omega) hk (by omega)
theorem run_less {g : List T} {m r : List Int} (h : runOk g m r = true) (k : Nat) (hk : k < r.length) : runOk g m (r.take k ++ r.drop (k + 1)) = true ∧ runOk g m [r[k]] = true := by
  obtain ⟨a1, a2, a3, a4⟩ := runOk_iff.1 h
  have hF := valid_fine a1
  have hra : asc r = true := by unfold inG at a3; rw [Bool.and_eq_true] at a3; exact a3.1
  have hm := inG_mem a3
  have hx := hm r[k] (List.getElem_mem hk)
  have hr : r = r.take k ++ ([r[k]] ++ r.drop (k + 1)) := by
    rw [List.singleton_append, ← List.drop_eq_getElem_cons hk, List.take_append_drop]
  have hsub : (r.take k ++ r.drop (k + 1)).Sublist r := by
    conv => rhs; rw [hr]
    exact List.Sublist.append_left (List.sublist_append_right _ _) _
  refine ⟨runOk_iff.2 ⟨a1, a2, inG_sub a3 (asc_of ((asc_pair hra).sublist hsub)) (fun x hx => hsub.mem hx), ?_⟩, runOk_iff.2 ⟨a1, a2, inG_sub a3 (asc_of (List.pairwise_singleton _ _)) (fun y hy => by rw [List.mem_singleton] at hy; subst hy; exact List.getElem_mem hk), fits_one hF a2 hx⟩⟩
  have e : ∀ p, usedC g r p = usedC g (r.take k ++ r.drop (k + 1)) p + unitF g p r[k] := fun p => by
    conv => lhs; rw [hr]
    simp only [usedC_append, usedC_one]
    omega
  rw [fitsC_iff, e, e, e] at a4
  rw [fitsC_iff]
  have := unitF_bd hF hx 0; have := unitF_bd hF hx 1; have := unitF_bd hF hx 2
  omega
end Go.Proofs.Ytnbgekbfccejdaa.Bs
