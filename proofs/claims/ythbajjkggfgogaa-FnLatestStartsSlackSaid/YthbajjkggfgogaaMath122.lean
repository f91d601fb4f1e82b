/-
  PLAIN MATHEMATICS: at the longest time latest is earliest and slack. No condition.
-/
import Derived.Test.YthbajjkggfgogaaMath121
import Derived.Test.YthbajjkggfgogaaMath10
namespace Go.Proofs.Ythbajjkggfgogaa.Bs
theorem lat_slack {g : List T} {d : Int} {L M H S : List Int} (hL : L = latL g d) (h0 : ¬ L.length = 0) (hM : M = latL g (longL g)) (hH : H = if valid g then headsC g else []) (hS : S = slackL g) : M.length = g.length ∧ H.length = g.length ∧ S.length = g.length ∧ ∀ k, k < M.length → giZ M k = giZ H k + giZ S k ∧ (0 ≤ giZ H k ∧ giZ H k ≤ 1000) ∧ (-1000 ≤ giZ S k ∧ giZ S k ≤ 1000) := by
  have hv : valid g = true := by
    unfold latL at hL
    split at hL
    · rename_i h; rw [Bool.and_eq_true] at h; exact h.1
    · rw [hL] at h0; exact absurd rfl h0
  have hF := valid_fine hv
  have htl := tailsC_len hv
  have hlg : longL g = longC g := by unfold longL; rw [hv]; rfl
  rw [hlg] at hM
  rw [hv, if_pos rfl] at hH
  have hlb := long_b hv
  have h200 : longC g ≤ 200 := by
    have hc : canV g [8, 8, 8] 1 = true := canV_iff.2 ⟨hv, by decide, by omega, by omega⟩
    have := long_le (plan_valid hc)
    have := (plan_end hc).1
    have := sumT_b2 hF
    omega
  rw [latL_yes hv (by unfold dlOk; exact decide_eq_true (by omega))] at hM
  have hhl : H.length = g.length := by rw [hH]; exact (headsK_mid hF _ (Nat.le_refl _)).len
  have hml : M.length = g.length := by rw [hM, latC_len, htl]
  have hsl : S.length = g.length := by rw [hS]; exact slack_len hv
  refine ⟨hml, hhl, hsl, fun k hk => ?_⟩
  have hkg : k < g.length := by omega
  obtain ⟨a0, a1, _⟩ := heads_law (g := g) (L := headsC g) (by rw [hv]; rfl) (by rw [← hH]; exact hhl) k hkg
  obtain ⟨b0, b1, _⟩ := tails_law (g := g) (L := tailsC g) (by rw [hv]; rfl) htl k hkg
  have e1 : giZ M k = longC g - gi (tailsC g) k := by rw [hM]; exact latC_at (by omega)
  have e2 : giZ H k = gi (headsC g) k := by rw [hH, giZ_at (by rw [← hH]; omega), gi_at (by rw [← hH]; omega)]
  have e3 : giZ S k = longC g - gi (headsC g) k - gi (tailsC g) k := by
    rw [giZ_at (by omega), ← gi_at (by omega), hS]
    exact slack_at hv hkg
  refine ⟨by omega, by omega, by omega⟩
end Go.Proofs.Ythbajjkggfgogaa.Bs
