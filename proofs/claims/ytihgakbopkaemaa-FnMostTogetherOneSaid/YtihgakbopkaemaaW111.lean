/-
  WALKS: the time that is left, progress, of the program.
-/
import Derived.Test.YtihgakbopkaemaaK8
import Derived.Test.YtihgakbopkaemaaK7
import Derived.Test.YtihgakbopkaemaaMath91
namespace Go.Proofs.Ytihgakbopkaemaa
open Go.RowKit
theorem laterOf_e (a b : Int) (w : World) : Calls Try.prog 57 #[.int .i64 a, .int .i64 b] w fun e w' => e = .returned (.int .i64 (max a b)) ∧ w = w' := by
  go_enter Try.func57, Try.ntmps57
  go_wp2
  all_goals go_ret
  all_goals exact ⟨ret_int (by omega), rfl⟩
/-- the sum of the times of the first tasks of a list -/
def tsK (g : List Bs.T) (L : List Int) (k : Nat) : Int := Bs.sumZ ((L.take k).map fun x => Bs.timeOf g x.toNat)
theorem tsK_succ (g : List Bs.T) (L : List Int) (k : Nat) (hk : k < L.length) : tsK g L (k + 1) = tsK g L k + Bs.timeOf g L[k].toNat := Bs.sumZ_take L (fun x => Bs.timeOf g x.toNat) k hk
theorem tsK_b {g : List Bs.T} {L : List Int} (hF : Bs.fine g = true) (hL : ∀ x ∈ L, 0 ≤ x ∧ x < g.length) : ∀ k : Nat, k ≤ L.length → 0 ≤ tsK g L k ∧ tsK g L k ≤ 20 * k := by
  intro k
  induction k with
  | zero => intro _; simp [tsK, Bs.sumZ]
  | succ k ih =>
    intro hk
    have h1 := ih (by omega)
    have h2 := hL _ (List.getElem_mem (show k < L.length by omega))
    have h3 := Bs.fine_time hF (i := L[k].toNat) (by omega)
    rw [tsK_succ g L k (by omega)]
    omega
set_option maxHeartbeats 800000 in
theorem timesOf_any (A : Option Addr) (c : Nat) (g : List Bs.T) (A' : Option Addr) (c' : Nat) (L : List Int) (lo hi lo' hi' : Nat) (w : World) (h : RG w lo hi A g) (hh : hi ≤ w.heap.size) (h' : RI w lo' hi' A' L) (hh' : hi' ≤ w.heap.size) (hF : Bs.fine g = true) (hL : ∀ x ∈ L, 0 ≤ x ∧ x < g.length) (hl : L.length ≤ 1000) :
    Calls Try.prog 59 #[.slice A g.length c, .slice A' L.length c'] w fun e w' => e = .returned (.int .i64 (Bs.sumZ (L.map fun x => Bs.timeOf g x.toNat))) ∧ Below w.heap.size w w' := by
  have h8 := Bs.fine_len hF
  have HS := Lib.hid (fun k hk => tsK_succ g L k hk)
  have HB := Lib.hid (fun k hk => tsK_b hF hL k hk)
  have HT := Lib.hid (fun i (hi : i < g.length) => Bs.fine_time' hF hi)
  have HTE := Lib.hid (fun i (hi : i < g.length) => Bs.timeOf_eq (g := g) hi)
  have HE := Lib.hid (show tsK g L L.length = Bs.sumZ (L.map fun x => Bs.timeOf g x.toNat) from by unfold tsK; rw [List.take_length])
  have HM := Lib.hid (fun k (hk : k < L.length) => hL _ (List.getElem_mem hk))
  have HG := Lib.hid h
  have HR := Lib.hid h'
  clear h h' hF hL
  go_enter Try.func59, Try.ntmps59
  go_wp2
  go_loopw [5, 10] (fun s i wr => ∃ (k : Nat), k ≤ L.length ∧ s = .int .i64 (tsK g L k) ∧ i = .int .i64 k ∧ Below w.heap.size w wr) (fun _ i _ => L.length - (intOf i).toNat)
  case atStart => exact ⟨0, Nat.zero_le _, rfl, rfl, Below.refl _ _⟩
  case round =>
    obtain ⟨k, hk, rfl, rfl, hb⟩ := hrel
    have sr := hb.size
    by_cases hlt : k < L.length
    · obtain ⟨b', o', rfl, _, _, hc⟩ := (HR.out.below hb hh').at_ hlt
      have hm := HM.out k hlt
      have hst := HS.out k hlt
      obtain ⟨x, hx⟩ : ∃ x : Nat, L[k] = (x : Int) := ⟨L[k].toNat, by omega⟩
      rw [hx] at hc hm hst
      rw [Int.toNat_natCast] at hst
      have hxl : x < g.length := by omega
      obtain ⟨bg, og, N, cN, rfl, _, _, k0, k1, k2, k3, hnc, hcN, hN⟩ := (HG.out.below hb hh) x hxl
      have htb := HB.out k hk
      have htt := HT.out x hxl
      rw [HTE.out x hxl] at hst
      have H1 := Lib.hid hst
      have HB1 := Lib.hid hb
      have d1 : (k : Int) < (L.length : Int) := by omega
      have d2 : (x : Int) < (g.length : Int) := by omega
      clear hN hnc hb hst hx
      generalize g[x].pool = pv at *
      generalize g[x].time = tv at *
      generalize g[x].units = uv at *
      generalize tsK g L k = t at *
      have hw1 : IntKind.i64.wrap (t + tv) = t + tv := IntWalk.i64_in _ ⟨by omega, by omega⟩
      go_wp2
      go_roundw
      case rel => exact ⟨k + 1, by omega, by rw [H1.out], by go_num, HB1.out⟩
      case measure => simp [intOf]; omega
    · obtain rfl : k = L.length := by omega
      rw [HE.out]
      go_wp2
      go_ret
      exact ⟨rfl, hb⟩
def lmK (g : List Bs.T) (R : List Int) (k : Nat) : Int := Bs.maxL ((R.take k).map fun x => Bs.gi (Bs.tailsC g) x.toNat)
theorem lmK_succ (g : List Bs.T) (R : List Int) (k : Nat) (hk : k < R.length) : lmK g R (k + 1) = max (lmK g R k) (Bs.gi (Bs.tailsC g) R[k].toNat) := by
  unfold lmK
  rw [List.take_succ_eq_append_getElem hk, List.map_append]
  exact Bs.maxL_snoc _ _
end Go.Proofs.Ytihgakbopkaemaa
