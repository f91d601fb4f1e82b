/-
  PLAIN MATHEMATICS: the first ready task is the longest. No condition.
-/
import Derived.Test.YtmdmemompjpmkaaMath31
import Derived.Test.YtmdmemompjpmkaaMath91
namespace Go.Proofs.Ytmdmemompjpmkaa.Bs
theorem order_left {g : List T} {d L : List Int} (hL : L = ordL g d) (h : vdone g d = true) (h0 : 0 < L.length) : 0 ≤ L[0] ∧ L[0] < g.length ∧ leftL g d = gi (tailsC g) L[0].toNat := by
  have hvg := vdone_valid h
  have hF := valid_fine hvg
  have h8 := fine_len hF
  rw [ordL_yes h] at hL
  obtain ⟨h1, h2⟩ := ord_ok (d := d) hF
  rw [← hL] at h1 h2
  have hm := (h2 _).1 (List.getElem_mem h0)
  have hb := ready_in hm
  refine ⟨hb.1, hb.2, ?_⟩
  rw [leftL_yes h]
  have hge := left_ge (g := g) (d := d) (i := L[0].toNat) (by rw [Int.toNat_of_nonneg hb.1]; exact hm)
  have hle : leftC g d ≤ gi (tailsC g) L[0].toNat := by
    have hp := tail_pos hvg (i := L[0].toNat) (by omega)
    refine maxL_le (by omega) ?_
    intro y hy
    obtain ⟨x, hx, rfl⟩ := List.mem_map.1 hy
    have hxb := ready_in hx
    obtain ⟨k, hk, rfl⟩ := List.mem_iff_getElem.1 ((h2 x).2 hx)
    by_cases hk0 : k = 0
    · subst hk0; exact Int.le_refl _
    · have hlt := List.pairwise_iff_getElem.1 h1 0 k h0 hk (by omega)
      rw [kkT_lt (by omega) (by omega)] at hlt
      omega
  omega
end Go.Proofs.Ytmdmemompjpmkaa.Bs
