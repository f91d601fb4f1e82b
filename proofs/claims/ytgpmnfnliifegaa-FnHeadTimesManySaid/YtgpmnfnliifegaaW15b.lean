/-
  WALKS: head times of the model, the whole function.
-/
import Derived.Test.YtgpmnfnliifegaaW15
namespace Go.Proofs.Ytgpmnfnliifegaa
open Go.RowKit
theorem HeadTimesS_any (A : Option Addr) (c : Nat) (g : List Bs.T) (lo hi : Nat) (w : World) (hG : RG w lo hi A g) (hh : hi ≤ w.heap.size) (hl : g.length ≤ 9223372036854775807) :
    Calls Try.prog 28 #[.slice A g.length c] w (RetI w (if Bs.valid g then Bs.headsC g else [])) := by
  have c1 := validGraphS_any A c g lo hi w hG hh hl
  cases hf : Bs.valid g
  · rw [hf] at c1
    have C1 := Lib.hid c1
    clear c1 hf
    go_enter Try.func28, Try.ntmps28
    go_wp2_with (go_at_call 44; refine (C1.out).mono ?_; rintro e w' ⟨rfl, hb⟩)
    go_ret
    exact RetI.nil hb rfl
  · rw [hf] at c1
    have C1 := Lib.hid c1
    have hF := valid_fine hf
    have C2 := Lib.hid (fun W (hb : Below w.heap.size w W) => headsS_any A c g lo hi W (hG.below hb hh) (Nat.le_trans hh hb.size) hF)
    clear c1 hf hF
    go_enter Try.func28, Try.ntmps28
    go_wp2_with (first | (go_at_call 44; refine (C1.out).mono ?_; rintro e w' ⟨rfl, hb⟩) | (go_at_call 66; refine (C2.out _ hb).mono ?_; rintro e w2 ⟨⟨A', c', rfl, ho⟩, hb2⟩))
    go_ret
    exact RetI.after hb ⟨⟨A', c', rfl, ho⟩, hb2⟩ rfl
theorem HeadTimes_len (g : List Bs.T) : (if Bs.valid g then Bs.headsC g else []).length ≤ 1000 := by
  split
  · rename_i h
    have h1 := Bs.fine_len (valid_fine h)
    have h2 := (Bs.headsK_mid (valid_fine h) _ (Nat.le_refl _)).len
    unfold Bs.headsC
    omega
  · simp
end Go.Proofs.Ytgpmnfnliifegaa
