/-
  LENGTHS of the lists that the functions hand back.
-/
import Derived.Test.YtiokblodjhmjmabW5
namespace Go.Proofs.Ytiokblodjhmjmab
theorem TopOrder_len (g : List Bs.T) : (Bs.topL g).length ≤ 1000 := by
  unfold Bs.topL
  split
  · rename_i h
    have h1 := Bs.fine_len (valid_fine h)
    have h2 := (Bs.top_dist g).le
    omega
  · simp
theorem StuckTasks_len (g : List Bs.T) : (Bs.stuckL g).length ≤ 1000 := by
  unfold Bs.stuckL
  split
  · rename_i h
    have h1 := Bs.fine_len h
    have h2 := Bs.pick_len g.length (fun i => !(Bs.top g).contains (i : Int))
    omega
  · simp
end Go.Proofs.Ytiokblodjhmjmab
