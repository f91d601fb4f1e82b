/-
  LENGTHS of the lists that the functions hand back: needs and users.
-/
import Derived.Test.YtiokblodjhmjmabW13
namespace Go.Proofs.Ytiokblodjhmjmab
theorem AllNeeds_len (g : List Bs.T) (z : Int) : (Bs.needsA g z).length ≤ 1000 := by
  unfold Bs.needsA
  split
  · rename_i h
    have h1 := Bs.fine_len (valid_fine h.1)
    have h2 := Bs.needs2_len g z.toNat
    omega
  · simp
theorem AllUsers_len (g : List Bs.T) (z : Int) : (Bs.usersA g z).length ≤ 1000 := by
  unfold Bs.usersA
  split
  · rename_i h
    have h1 := Bs.fine_len (valid_fine h.1)
    have h2 := Bs.users2_len g z.toNat
    omega
  · simp
end Go.Proofs.Ytiokblodjhmjmab
