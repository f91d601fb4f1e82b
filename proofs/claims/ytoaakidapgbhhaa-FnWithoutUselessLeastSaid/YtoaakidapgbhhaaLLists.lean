/-
  WALKS: the laws' comparisons of two lists of lists, and of two graphs, that are the same.
-/
import Derived.Test.YtoaakidapgbhhaaMem12
import Derived.Test.YtoaakidapgbhhaaL1
namespace Go.Proofs.Ytoaakidapgbhhaa
open Go.RowKit
theorem eqI_q (A : Option Addr) (c : Nat) (A' : Option Addr) (c' : Nat) (l : List Int) (lo hi lo' hi' : Nat) (w : World) (h : RI w lo hi A l) (h' : RI w lo' hi' A' l) (hl : l.length ≤ 9223372036854775807) (m n : Nat) :
    Calls Try.prog 16 #[.slice A l.length c, .slice A' l.length c'] (w.drewN (m + n)) fun e w'' => e = .returned (.bool true) ∧ ∃ k, w'' = w.drewN (m + k) :=
  (equalInts_same A c A' c' l lo hi lo' hi' (w.drewN (m + n)) (h.drewN _) (h'.drewN _) hl).mono fun _ _ ⟨h1, n', h2⟩ => ⟨h1, n + n', by rw [h2, World.drewN_drewN, Nat.add_assoc]⟩
set_option maxHeartbeats 800000 in
theorem equalLists_same (A : Option Addr) (c : Nat) (A' : Option Addr) (c' : Nat) (Ls : List (List Int)) (lo hi lo' hi' : Nat) (w : World) (h : RS w lo hi A Ls) (h' : RS w lo' hi' A' Ls) (hl : Ls.length ≤ 1000000) :
    Calls Try.prog 20 #[.slice A Ls.length c, .slice A' Ls.length c'] w fun e w' => e = .returned (.bool true) ∧ ∃ n, w' = w.drewN n := by
  have hb0 : ((Ls.length : Int) != (Ls.length : Int)) = false := by simp
  have H1 := Lib.hid h
  have H2 := Lib.hid h'
  clear h h'
  go_enter Try.func20, Try.ntmps20
  go_wp2
  go_loopw [5] (fun i wr => ∃ k : Nat, k ≤ Ls.length ∧ i = .int .i64 (k : Int) ∧ ∃ q, wr = w.drewN q) (fun i _ => Ls.length + 1 - (intOf i).toNat)
  case atStart => exact ⟨0, Nat.zero_le _, rfl, 0, rfl⟩
  case round =>
    obtain ⟨k, hk, rfl, q, rfl⟩ := hrel
    by_cases hlt : k < Ls.length
    · obtain ⟨b, o, N, cN, rfl, _, _, q1, q2, q3⟩ := H1.out k hlt
      obtain ⟨b', o', N', cN', rfl, _, _, r1, r2, r3⟩ := H2.out k hlt
      have C := fun j => Lib.hid (eqI_q N cN N' cN' Ls[k] _ _ _ _ w q3 r3 q2 q j)
      have i0 : (0 : Int) ≤ (k : Int) := by omega
      have i1 : (k : Int) < (Ls.length : Int) := by omega
      clear q3 r3 q2 r2
      generalize Ls[k] = L at *
      go_wp2
      go_quiet ((go_at_call 16; with_reducible exact (C _).out))
      go_wp2
      go_roundw
      case rel => exact ⟨k + 1, by omega, by go_num, _, by first | rfl | rw [World.drewN_drewN]⟩
      case measure => simp [intOf]; omega
    · have d1 : ¬ (k : Int) < (Ls.length : Int) := by omega
      go_wp2
      go_ret
      exact ⟨rfl, _, rfl⟩
set_option maxHeartbeats 1600000 in
theorem equalTasks_same (A : Option Addr) (c : Nat) (A' : Option Addr) (c' : Nat) (g : List Bs.T) (lo hi lo' hi' : Nat) (w : World) (h : RG w lo hi A g) (h' : RG w lo' hi' A' g) (hl : g.length ≤ 1000000) :
    Calls Try.prog 30 #[.slice A g.length c, .slice A' g.length c'] w fun e w' => e = .returned (.bool true) ∧ ∃ n, w' = w.drewN n := by
  have hb0 : ((g.length : Int) != (g.length : Int)) = false := by simp
  have H1 := Lib.hid h
  have H2 := Lib.hid h'
  clear h h'
  go_enter Try.func30, Try.ntmps30
  go_wp2
  go_loopw [5] (fun i wr => ∃ k : Nat, k ≤ g.length ∧ i = .int .i64 (k : Int) ∧ ∃ q, wr = w.drewN q) (fun i _ => g.length + 1 - (intOf i).toNat)
  case atStart => exact ⟨0, Nat.zero_le _, rfl, 0, rfl⟩
  case round =>
    obtain ⟨k, hk, rfl, q, rfl⟩ := hrel
    by_cases hlt : k < g.length
    · obtain ⟨b, o, N, cN, rfl, _, _, t0, t1, t2, t3, hlN, hcN, hN⟩ := H1.out k hlt
      obtain ⟨b', o', N', cN', rfl, _, _, u0, u1, u2, u3, hlN', hcN', hN'⟩ := H2.out k hlt
      have C := fun j => Lib.hid (eqI_q N cN N' cN' g[k].needs _ _ _ _ w hN hN' (by omega) q j)
      have i0 : (0 : Int) ≤ (k : Int) := by omega
      have i1 : (k : Int) < (g.length : Int) := by omega
      clear hN hN' hlN hcN hlN' hcN'
      generalize g[k] = t at *
      obtain ⟨ti, ne, po, un⟩ := t
      have e1 : (ti != ti) = false := by simp
      have e2 : (po != po) = false := by simp
      have e3 : (un != un) = false := by simp
      simp only at t0 t1 t2 t3 u0 u1 u2 u3 C
      go_wp2
      go_quiet ((go_at_call 16; with_reducible exact (C _).out))
      go_wp2
      go_roundw
      case rel => exact ⟨k + 1, by omega, by go_num, _, by first | rfl | rw [World.drewN_drewN]⟩
      case measure => simp [intOf]; omega
    · have d1 : ¬ (k : Int) < (g.length : Int) := by omega
      go_wp2
      go_ret
      exact ⟨rfl, _, rfl⟩
theorem run_cellL {op : Oper} {c : Act} {W : World} (x : Operand) (ho : op.op = .load 3 x) (a i : Nat) (hx : c.eval x = .pointer (some ⟨a, i, none⟩)) {z : Int} (hc : W.cell? ⟨a, i, none⟩ = some (.int .i64 z)) :
    (execOp c.eval op).run Try.prog W = .ok (.value (.int .i64 z)) W := by
  unfold execOp
  simp only [ho, hx]
  go_simp
theorem run_cellS {op : Oper} {c : Act} {W : World} (x : Operand) (ho : op.op = .load 25 x) (a i : Nat) (hx : c.eval x = .pointer (some ⟨a, i, none⟩)) {N : Option Addr} {n m : Nat} (hc : W.cell? ⟨a, i, none⟩ = some (.slice N n m)) :
    (execOp c.eval op).run Try.prog W = .ok (.value (.slice N n m)) W := by
  unfold execOp
  simp only [ho, hx]
  go_simp
end Go.Proofs.Ytoaakidapgbhhaa
