/-
  HOW LONG the answers of chapters 3 and 4 are. No condition.
-/
import Derived.Test.YtgfjanolihlpjaaK7
import Derived.Test.YtgfjanolihlpjaaK11
namespace Go.Proofs.Ytgfjanolihlpjaa
theorem readyL_k (g : List Bs.T) (d : List Int) : (Bs.readyL g d).length ≤ 1000 := by
  unfold Bs.readyL
  split
  · rename_i h
    have := Bs.fine_len (valid_fine (Bs.vdone_valid h))
    have := Bs.readyC_len g d
    omega
  · simp
theorem finL_k (g : List Bs.T) (d : List Int) (a : Int) : (Bs.finL g d a).length ≤ 1000 := by
  unfold Bs.finL
  split
  · rename_i h
    have := Bs.fine_len (valid_fine (Bs.vdone_valid (Bs.finOk_iff.1 h).1))
    have := Bs.finC_len g d a
    omega
  · simp
theorem waitsL_k (g : List Bs.T) (d : List Int) (a : Int) : (Bs.waitsL g d a).length ≤ 1000 := by
  unfold Bs.waitsL
  split
  · rename_i h
    rw [Bool.and_eq_true, decide_eq_true_eq] at h
    have h8 := Bs.fine_len (valid_fine (Bs.vdone_valid h.1))
    unfold Bs.waitsC
    have h1 := List.length_filter_le (fun y => !d.contains y) (Bs.need g a.toNat)
    have h2 : a.toNat < g.length := by omega
    have h3 := Bs.fine_needs_len (valid_fine (Bs.vdone_valid h.1)) h2
    rw [Bs.need_eq h2] at h1
    rw [Bs.need_eq h2]
    omega
  · simp
theorem usedL_k (g : List Bs.T) (r : List Int) : (Bs.usedL g r).length ≤ 1000 := by
  unfold Bs.usedL
  split
  · simp
  · simp
theorem admL_k (g : List Bs.T) (m r l : List Int) (wk : Int) : (Bs.admL g m r l wk).length ≤ 1000 := by
  cases hok : Bs.admV g m r l wk
  · rw [Bs.admL_no hok]; simp
  · rw [Bs.admL_yes hok]
    obtain ⟨hrun, hwk, hin, hid⟩ := Bs.admV_iff.1 hok
    unfold Bs.runOk at hrun
    simp only [Bool.and_eq_true] at hrun
    have h8 := Bs.fine_len (valid_fine hrun.1.1.1)
    have hd := Bs.idle_dist (g := g) (Nat.le_refl _) hid (by rw [List.take_length]; exact hin)
    rw [List.take_length] at hd
    have h1 := hd.le
    have h2 := Bs.admK_len g m r wk l l.length (Nat.le_refl _)
    unfold Bs.admC
    omega
end Go.Proofs.Ytgfjanolihlpjaa
