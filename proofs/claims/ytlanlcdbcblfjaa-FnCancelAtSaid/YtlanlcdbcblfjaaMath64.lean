/-
  WHAT THE LAWS OF CANCELLING WANT: facts on the answers, ready for the walks. No condition.
-/
import Derived.Test.YtlanlcdbcblfjaaW77
namespace Go.Proofs.Ytlanlcdbcblfjaa
open Go.RowKit
theorem can_can {g : List Bs.T} {m S L : List Int} {wk now : Int} (hL : L = Bs.canL g m wk S now) (h0 : ¬ L.length = 0) : Bs.canOk g m wk S now = true := by
  cases h : Bs.canOk g m wk S now
  · rw [Bs.canL_no h] at hL; rw [hL] at h0; exact absurd rfl h0
  · rfl
theorem can_is {g : List Bs.T} {m S L : List Int} {wk now : Int} (hL : L = Bs.canL g m wk S now) (h : Bs.canOk g m wk S now = true) : L = Bs.canC g S now := by rw [hL, Bs.canL_yes h]
theorem can_gi {g : List Bs.T} {S : List Int} {now : Int} {i : Nat} (hi : i < g.length) : Bs.gi (Bs.canC g S now) i = Bs.canI g S now i := by rw [Bs.gi_at (by rw [Bs.canC_len]; exact hi), Bs.canC_at]
theorem cancel_task {g : List Bs.T} {m S L : List Int} {wk now : Int} (hL : L = Bs.canL g m wk S now) (h0 : L.length = g.length) {k : Nat} (hk : k < g.length) :
    (∀ x ∈ g[k].needs, 0 ≤ x ∧ x < L.length) ∧ g[k].needs.length ≤ 100 ∧ k < S.length ∧ (0 ≤ Bs.giZ S k ∧ Bs.giZ S k ≤ 200) ∧ (1 ≤ g[k].time ∧ g[k].time ≤ 20) ∧
    Bs.gi L k = (if Bs.giZ S k + g[k].time ≤ now then 0 else if Bs.giZ S k < now then 1 else 3) ∧ (Bs.gi L k ≠ 3 → ∀ x ∈ g[k].needs, Bs.gi L x.toNat = 0) := by
  have hc := can_can hL (by omega)
  have hst := (Bs.canOk_iff.1 hc).1
  obtain ⟨hcan, hck, _⟩ := Bs.stV_iff.1 hst
  have hF := valid_fine (Bs.canV_iff.1 hcan).1
  have h8 := Bs.fine_len hF
  have hnl := Bs.fine_needs_len hF hk
  have hlen := Bs.clk_len hck
  have hn : ∀ x ∈ g[k].needs, 0 ≤ x ∧ x < g.length := fun x hx => Bs.fine_need hF (i := k) (x := x) (by rw [need_at hk]; exact hx)
  have e := can_is hL hc
  refine ⟨fun x hx => by have := hn x hx; omega, by omega, by omega, Bs.clk_at hck k, Bs.fine_time' hF hk, ?_, ?_⟩
  · rw [e, can_gi hk]
    unfold Bs.canI Bs.endF
    rw [time_at hk]
  · intro h3 x hx
    rw [e, can_gi hk] at h3
    have hx' := hn x hx
    rw [e, can_gi (by omega)]
    exact Bs.can_need hst hk h3 x (by rw [need_at hk]; exact hx)
theorem cancel_more {g : List Bs.T} {m S L : List Int} {wk now : Int} (hL : L = Bs.canL g m wk S now) (h0 : ¬ L.length = 0) (h2 : now ≠ 200) :
    (Bs.canL g m wk S (now + 1)).length = L.length ∧ L.length ≤ 8 ∧ now ≤ 200 ∧ 0 ≤ now ∧ ∀ i, i < L.length → (Bs.gi L i = 0 ∧ Bs.gi (Bs.canL g m wk S (now + 1)) i = 0) ∨ (Bs.gi L i = 1 ∧ Bs.gi (Bs.canL g m wk S (now + 1)) i ≠ 3) ∨ Bs.gi L i = 3 := by
  have hc := can_can hL h0
  obtain ⟨hst, n0, n2⟩ := Bs.canOk_iff.1 hc
  have hc' : Bs.canOk g m wk S (now + 1) = true := Bs.canOk_iff.2 ⟨hst, by omega, by omega⟩
  have e := can_is hL hc
  have hl : L.length = g.length := by rw [e, Bs.canC_len]
  have hF := valid_fine (Bs.canV_iff.1 (Bs.stV_iff.1 hst).1).1
  have h8 := Bs.fine_len hF
  rw [Bs.canL_yes hc']
  refine ⟨by rw [Bs.canC_len, hl], by omega, n2, n0, ?_⟩
  intro i hi
  rw [e, can_gi (by omega), can_gi (by omega)]
  have h1 := Bs.can_later (g := g) (S := S) (now := now) i
  rcases Bs.canI_cases g S now i with h | h | h
  · exact .inl ⟨h, h1.1 h⟩
  · exact .inr (.inl ⟨h, h1.2 h⟩)
  · exact .inr (.inr h)
theorem cancel_end {g : List Bs.T} {m S L : List Int} {wk now : Int} (hL : L = Bs.canL g m wk S now) (h0 : ¬ L.length = 0) :
    Bs.stV g m wk S = true ∧ 0 ≤ Bs.endC g S ∧ Bs.endC g S ≤ 1000 ∧ g.length ≤ 8 ∧ (Bs.endC g S ≤ 200 → (Bs.canL g m wk S (Bs.endC g S)).length = g.length ∧ Bs.sumZ (Bs.canL g m wk S (Bs.endC g S)) = 0) ∧ (Bs.canL g m wk S 0).length = g.length ∧ Bs.sumZ (Bs.canL g m wk S 0) = (g.length : Int) * 3 := by
  have hc := can_can hL h0
  obtain ⟨hst, n0, n2⟩ := Bs.canOk_iff.1 hc
  obtain ⟨hcan, hck, _⟩ := Bs.stV_iff.1 hst
  have hF := valid_fine (Bs.canV_iff.1 hcan).1
  have h8 := Bs.fine_len hF
  have hE0 : 0 ≤ Bs.endC g S := Bs.maxL_nonneg _
  have hE1 : Bs.endC g S ≤ 1000 := by
    unfold Bs.endC Bs.endK
    refine Bs.maxL_le (by omega) ?_
    intro x hx
    obtain ⟨i, hi, rfl⟩ := List.mem_map.1 hx
    have a := Bs.clk_at hck i
    have b := Bs.time_b hF i
    unfold Bs.endF
    omega
  have hc0 : Bs.canOk g m wk S 0 = true := Bs.canOk_iff.2 ⟨hst, by omega, by omega⟩
  refine ⟨hst, hE0, hE1, h8, ?_, ?_, ?_⟩
  · intro h
    have hcE : Bs.canOk g m wk S (Bs.endC g S) = true := Bs.canOk_iff.2 ⟨hst, hE0, h⟩
    rw [Bs.canL_yes hcE]
    exact ⟨Bs.canC_len _ _ _, Bs.can_end⟩
  · rw [Bs.canL_yes hc0]; exact Bs.canC_len _ _ _
  · rw [Bs.canL_yes hc0]; exact Bs.can_zero hst
theorem canL_b (g : List Bs.T) (m S : List Int) (wk now : Int) : ∀ x ∈ Bs.canL g m wk S now, 0 ≤ x ∧ x ≤ 100 := by
  intro x hx
  unfold Bs.canL at hx
  split at hx
  · unfold Bs.canC at hx
    obtain ⟨i, _, rfl⟩ := List.mem_map.1 hx
    rcases Bs.canI_cases g S now i with h | h | h <;> omega
  · simp at hx
end Go.Proofs.Ytlanlcdbcblfjaa
