/-
  MERGED TEXTS: W30 W31 W32 W33.
-/
import Derived.Test.YtbmfhnijbdmjbaaK8
import Derived.Test.YtbmfhnijbdmjbaaK11
import Derived.Test.YtbmfhnijbdmjbaaK4
import Derived.Test.YtbmfhnijbdmjbaaK2
import Derived.Test.YtbmfhnijbdmjbaaK5
namespace Go.Proofs.Ytbmfhnijbdmjbaa
open Go.RowKit
end Go.Proofs.Ytbmfhnijbdmjbaa
namespace Go.Proofs.Ytbmfhnijbdmjbaa
open Go.RowKit
theorem inG_eight {g : List Bs.T} {d : List Int} (hF : Bs.fine g = true) (h : Bs.inG g d = true) : ∀ x ∈ d, 0 ≤ x ∧ x < 8 := by
  intro x hx
  have h1 := Bs.inG_mem h x hx
  have h2 := Bs.fine_len hF
  omega
theorem asc_flip (g : List Bs.T) (d : List Int) : (Bs.allInB d 0 ((g.length : Int) - 1) && Bs.asc d) = Bs.inG g d := by
  unfold Bs.inG
  exact Bool.and_comm _ _
theorem vdone_no {g : List Bs.T} {d : List Int} (h : Bs.inG g d = false) : Bs.vdone g d = false := by
  cases hv : Bs.vdone g d
  · rfl
  · rw [(Bs.vdone_iff.1 hv).2.1] at h; exact h
end Go.Proofs.Ytbmfhnijbdmjbaa
namespace Go.Proofs.Ytbmfhnijbdmjbaa
open Go.RowKit
theorem missC_dec (g : List Bs.T) (d : List Int) (k : Nat) : Bs.okNext g d k = (((Bs.missC g d k (Bs.need g k).length : Int) == 0) && !d.contains (k : Int)) := by
  rw [Bs.missC_all]
  unfold Bs.okNext
  exact Bool.and_comm _ _
end Go.Proofs.Ytbmfhnijbdmjbaa
namespace Go.Proofs.Ytbmfhnijbdmjbaa
open Go.RowKit
theorem pick_less {m n : Nat} (p : Nat → Bool) (h : n ≤ m) (hp : ∀ i, n ≤ i → i < m → p i = false) : Bs.pick m p = Bs.pick n p := by
  induction m with
  | zero =>
    have : n = 0 := by omega
    rw [this]
  | succ m ih =>
    by_cases e : n = m + 1
    · rw [e]
    · rw [Bs.pick_skip m p (hp m (by omega) (by omega)), ih (by omega) (fun i h1 h2 => hp i h1 (by omega))]
theorem fin_bits {g : List Bs.T} {d : List Int} {a : Nat} (hF : Bs.fine g = true) (hin : Bs.inG g d = true) (ha : a < g.length) :
    Bs.pick 8 (fun j => (Bs.bits d ||| Bs.bits [(a : Int)]).testBit j) = Bs.finC g d a := by
  have h8 := Bs.fine_len hF
  have hm := Bs.inG_mem hin
  have e : ∀ j : Nat, (Bs.bits d ||| Bs.bits [(a : Int)]).testBit j = (((j : Int) == (a : Int)) || d.contains (j : Int)) := by
    intro j
    rw [Nat.testBit_or, Bs.bits_test d (fun x hx => (hm x hx).1), Bs.bits_test [(a : Int)] (fun x hx => by simp at hx; omega), Bool.or_comm, List.contains_cons, List.contains_nil, Bool.or_false]
  rw [pick_less (n := g.length) _ h8 ?_]
  · exact Bs.pick_congr _ _ _ (fun i _ => e i)
  · intro i h1 _
    rw [e i]
    have h2 : ((i : Int) == (a : Int)) = false := by rw [beq_eq_false_iff_ne]; omega
    rw [h2, Bool.false_or]
    cases hc : d.contains (i : Int)
    · rfl
    · have := hm _ (by simpa using hc)
      omega
theorem finOk_eq (g : List Bs.T) (d : List Int) (a : Int) : Bs.finOk g d a = (Bs.readyL g d).contains a := by
  unfold Bs.finOk Bs.readyL
  cases Bs.vdone g d <;> simp
theorem readyL_len' (g : List Bs.T) (d : List Int) : (Bs.readyL g d).length ≤ g.length := by
  unfold Bs.readyL
  split
  · exact Bs.readyC_len g d
  · exact Nat.zero_le _
theorem wait_bits {g : List Bs.T} {d : List Int} {a : Nat} (hF : Bs.fine g = true) (hin : Bs.inG g d = true) (ha : a < g.length) :
    Bs.pick 8 (fun j => (Bs.bits g[a].needs &&& (18446744073709551615 - Bs.bits d)).testBit j) = Bs.waitsC g d a := by
  have hn := Bs.fine_inG hF ha
  have h8 := inG_eight hF hn
  have hd8 := inG_eight hF hin
  have hA : Bs.asc g[a].needs = true := by unfold Bs.inG at hn; rw [Bool.and_eq_true] at hn; exact hn.1
  unfold Bs.waitsC
  rw [Int.toNat_natCast, Bs.need_eq ha]
  refine Bs.pick_filter hA h8 ?_
  intro j
  rw [Bs.minus_test _ _ (Bs.bits_lt _ h8) (Bs.bits_lt _ hd8), Bs.bits_test _ (fun x hx => (h8 x hx).1), Bs.bits_test _ (fun x hx => (hd8 x hx).1)]
end Go.Proofs.Ytbmfhnijbdmjbaa
