/-
  WALKS: copies and comparisons of users, as the exact laws over several arguments want them.
-/
import Derived.Test.YtbmfhnijbdmjbaaE2
import Derived.Test.YtbmfhnijbdmjbaaW150
import Derived.Test.YtbmfhnijbdmjbaaR62
namespace Go.Proofs.Ytbmfhnijbdmjbaa
open Go.RowKit
set_option linter.unusedVariables false
theorem toUserS_r (A : Option Addr) (c : Nat) (l : List Bs.U) (lo hi : Nat) (w : World) (h : RU w lo hi A l) (hh : hi ≤ w.heap.size) (hl : l.length ≤ 1048576) :
    Calls Try.prog 11 #[.slice A l.length c] w fun e w' => (e = .returned (.slice (some ⟨w.heap.size, 0, none⟩) l.length l.length) ∧ RU w' w.heap.size w'.heap.size (some ⟨w.heap.size, 0, none⟩) l ∧ MI w' w.heap.size w'.heap.size (some ⟨w.heap.size, 0, none⟩) (l.length * 3)) ∧ Below w.heap.size w w' :=
  (toUserS_any A c l lo hi w h hh hl).mono fun _ _ ⟨⟨h1, h2⟩, h3⟩ => ⟨⟨h1, h2.ru, h2.mi⟩, h3⟩
theorem ValidUsersS_b (A : Option Addr) (c : Nat) (l : List Bs.U) (lo hi : Nat) (w : World) (h : RU w lo hi A l) (hh : hi ≤ w.heap.size) (hl : l.length ≤ 9223372036854775807) :
    Calls Try.prog 10 #[.slice A l.length c] w fun e w' => e = .returned (.bool (Bs.usersOk l)) ∧ Below w.heap.size w w' :=
  (ValidUsersS_any A c l lo hi w h hl).mono fun _ _ ⟨h1, h2⟩ => ⟨h1, by rw [← h2]; exact Below.refl _ _⟩
theorem partL_len1000 (g : List Bs.U) (a : Int) : (Bs.partL g a).length ≤ 1000 := by
  cases h : Bs.partOk g a
  · unfold Bs.partL; rw [h]; simp
  · have h1 := (Bs.usersOk_iff.1 (Bs.partOk_iff.1 h).1).1
    have := Bs.partL_len g a
    omega
theorem seqL_len1000 (g : List Bs.U) (a : Int) : (Bs.seqL g a).length ≤ 1000 := by
  cases h : Bs.srvOk g a
  · unfold Bs.seqL; rw [h]; simp
  · obtain ⟨h1, h2⟩ := Bs.srvOk_iff.1 h
    unfold Bs.seqL
    rw [h, if_pos rfl, Bs.seqC_len h1 h2]
    have := Bs.wN_le h1
    omega
theorem serL_len1000 (g : List Bs.U) (a : Int) : (Bs.serL g a).length ≤ 1000 := by
  cases h : Bs.seOk g a
  · unfold Bs.serL; rw [h]; simp
  · unfold Bs.serL
    rw [h, if_pos rfl, Bs.srvL_len]
    unfold Bs.seOk at h
    rw [Bool.and_eq_true] at h
    have := (Bs.usersOk_iff.1 (Bs.srvOk_iff.1 h.1).1).1
    omega
end Go.Proofs.Ytbmfhnijbdmjbaa
