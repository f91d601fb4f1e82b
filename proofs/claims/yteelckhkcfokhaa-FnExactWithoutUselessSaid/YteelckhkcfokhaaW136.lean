/-
  WALKS: the exact laws' comparison, marks and held marks of lists of lists, and held marks of tasks.
-/
import Derived.Test.YteelckhkcfokhaaMem12
import Derived.Test.YteelckhkcfokhaaW9
namespace Go.Proofs.Yteelckhkcfokhaa
open Go.RowKit
theorem Touch.more {lo hi lo' hi' : Nat} {w w' : World} (h : Touch lo hi w w') (h1 : lo' ≤ lo) (h2 : hi ≤ hi') : Touch lo' hi' w w' :=
  ⟨h.os, h.tape, h.output, h.size, fun k hk => h.far k (by omega), h.ints, h.frozen⟩
theorem MI.upto {w : World} {lo hi hi' : Nat} {A : Option Addr} {n : Nat} (h : MI w lo hi A n) (hA : ∀ a, A = some a → a.block < hi') : MI w lo hi' A n := by
  intro k hk
  obtain ⟨b, o, x, e, h1, h2, hc, hf⟩ := h k hk
  exact ⟨b, o, x, e, h1, hA _ e, hc, hf⟩
theorem eqS_q (A : Option Addr) (c : Nat) (A' : Option Addr) (c' : Nat) (l : List Int) (lo hi lo' hi' : Nat) (w : World) (h : RI w lo hi A l) (h' : RI w lo' hi' A' l) (hl : l.length ≤ 9223372036854775807) (m n : Nat) :
    Calls Try.prog 36 #[.slice A l.length c, .slice A' l.length c'] (w.drewN (m + n)) fun e w'' => e = .returned (.bool true) ∧ ∃ k, w'' = w.drewN (m + k) :=
  (eqIntS_any A c l A' c' l lo hi lo' hi' (w.drewN (m + n)) h h' hl).mono fun _ _ ⟨h1, n', h2⟩ => ⟨by rw [h1]; simp, n + n', by rw [h2, World.drewN_drewN, Nat.add_assoc]⟩
set_option maxHeartbeats 800000 in
theorem eqIntSS_same (A : Option Addr) (c : Nat) (A' : Option Addr) (c' : Nat) (Ls : List (List Int)) (lo hi lo' hi' : Nat) (w : World) (h : RS w lo hi A Ls) (h' : RS w lo' hi' A' Ls) (hl : Ls.length ≤ 1000000) :
    Calls Try.prog 18 #[.slice A Ls.length c, .slice A' Ls.length c'] w fun e w' => e = .returned (.bool true) ∧ Below w.heap.size w w' := by
  have hb0 : ((Ls.length : Int) != (Ls.length : Int)) = false := by simp
  have H1 := Lib.hid h
  have H2 := Lib.hid h'
  clear h h'
  go_enter Try.func18, Try.ntmps18
  go_wp2
  go_loopw [5] (fun i wr => ∃ k : Nat, k ≤ Ls.length ∧ i = .int .i64 (k : Int) ∧ ∃ q, wr = w.drewN q) (fun i _ => Ls.length + 1 - (intOf i).toNat)
  case atStart => exact ⟨0, Nat.zero_le _, rfl, 0, rfl⟩
  case round =>
    obtain ⟨k, hk, rfl, q, rfl⟩ := hrel
    by_cases hlt : k < Ls.length
    · obtain ⟨b, o, N, cN, rfl, _, _, q1, q2, q3⟩ := H1.out k hlt
      obtain ⟨b', o', N', cN', rfl, _, _, r1, r2, r3⟩ := H2.out k hlt
      have C := fun j => Lib.hid (eqS_q N cN N' cN' Ls[k] _ _ _ _ w q3 r3 q2 q j)
      have i0 : (0 : Int) ≤ (k : Int) := by omega
      have i1 : (k : Int) < (Ls.length : Int) := by omega
      clear q3 r3 q2 r2
      generalize Ls[k] = L at *
      go_wp2
      go_quiet ((go_at_call 36; with_reducible exact (C _).out))
      go_wp2
      go_roundw
      case rel => exact ⟨k + 1, by omega, by go_num, _, by first | rfl | rw [World.drewN_drewN]⟩
      case measure => simp [intOf]; omega
    · have d1 : ¬ (k : Int) < (Ls.length : Int) := by omega
      go_wp2
      go_ret
      exact ⟨rfl, (Below.refl _ _).drewN _⟩
/-- how many marks lie before list k, and the marks -/
def preL (Ls : List (List Int)) (k : Nat) : Nat := ((Ls.take k).map List.length).sum
theorem preL_succ {Ls : List (List Int)} {k : Nat} (hk : k < Ls.length) : preL Ls (k + 1) = preL Ls k + Ls[k].length := by
  unfold preL
  rw [List.take_succ_eq_append_getElem hk, List.map_append, List.sum_append]
  simp
theorem preL_le {Ls : List (List Int)} {m : Nat} (h : ∀ L ∈ Ls, L.length ≤ m) : ∀ k, k ≤ Ls.length → preL Ls k ≤ k * m := by
  intro k
  induction k with
  | zero => intro _; simp [preL]
  | succ k ih =>
    intro hk
    rw [preL_succ (show k < Ls.length from hk)]
    have a := ih (by omega)
    have b := h _ (List.getElem_mem (show k < Ls.length from hk))
    rw [Nat.add_mul]
    omega
/-- the marks lie in the lists -/
def HeldSS (w : World) (lo hi : Nat) (A : Option Addr) (Ls : List (List Int)) : Prop := ∀ k (hk : k < Ls.length), ∃ b o N c, A = some ⟨b, o, none⟩ ∧ lo ≤ b ∧ b < hi ∧ w.cell? ⟨b, o + k, none⟩ = some (.slice N Ls[k].length c) ∧ RI w lo hi N (iota (1 + (preL Ls k : Int)) Ls[k].length)
theorem HeldSS.keep {w w' : World} {lo hi : Nat} {A : Option Addr} {Ls : List (List Int)} (h : HeldSS w lo hi A Ls) (hk : ∀ p : Addr, lo ≤ p.block → p.block < hi → w'.cell? p = w.cell? p) : HeldSS w' lo hi A Ls := by
  intro k hl
  obtain ⟨b, o, N, c, e, h1, h2, hc, hr⟩ := h k hl
  exact ⟨b, o, N, c, e, h1, h2, (hk ⟨b, o + k, none⟩ h1 h2).trans hc, hr.keep hk⟩
theorem HeldSS.below {w w' : World} {lo hi B : Nat} {A : Option Addr} {Ls : List (List Int)} (h : HeldSS w lo hi A Ls) (hb : Below B w w') (hB : hi ≤ B) : HeldSS w' lo hi A Ls := h.keep fun _ _ hp => hb.cell (by omega)
set_option maxHeartbeats 1600000 in
theorem markIntSS_any (A : Option Addr) (c : Nat) (vs : List Value) (Ls : List (List Int)) (B : Nat) (w : World) (hO : OS w B A c vs) (hS : SLc w B w.heap.size vs Ls) (hn : Ls.length ≤ 1000) (hm : ∀ L ∈ Ls, L.length ≤ 1000) :
    Calls Try.prog 21 #[.slice A Ls.length c, .int .i64 1] w fun e w' => e = .returned (.int .i64 (1 + (preL Ls Ls.length : Int))) ∧ Touch B w.heap.size w w' ∧ HeldSS w' B w.heap.size A Ls := by
  obtain ⟨f, f0, f1, f2, f3, f4⟩ := hS
  have HF := Lib.hid f2
  have HPL := Lib.hid (preL_le hm)
  have HPS := Lib.hid (fun k (hk : k < Ls.length) => preL_succ hk)
  have HML := Lib.hid (fun k (hk : k < Ls.length) => hm _ (List.getElem_mem hk))
  have HROW := Lib.hid (fun k (hk : k < Ls.length) => show ∃ b N cN, A = some ⟨b, 0, none⟩ ∧ B ≤ b ∧ b < w.heap.size ∧ w.cell? ⟨b, k, none⟩ = some (.slice N Ls[k].length cN) ∧ MI w (f k) (f (k + 1)) N Ls[k].length from by
    obtain ⟨b, e, h1, h2, hc⟩ := hO.at_ (k := k) (by omega)
    obtain ⟨N, cN, n1, n2, n3⟩ := f4 k hk
    rw [List.getElem?_eq_getElem (by omega), Option.some.injEq] at n1
    rw [n1] at hc
    exact ⟨b, N, cN, e, h1, h2, hc, n2.mi.upto n3⟩)
  have HB := Lib.hid (fun k (hk : k < Ls.length) => show B ≤ f k ∧ f (k + 1) ≤ w.heap.size from ⟨Nat.le_trans f0 (cut_le f2 (Nat.zero_le k) (by omega)), Nat.le_trans (cut_le f2 (show k + 1 ≤ Ls.length by omega) (Nat.le_refl _)) f1⟩)
  have HT0 := Lib.hid (Touch.refl B w.heap.size w)
  have hz : preL Ls 0 = 0 := rfl
  have HZ := Lib.hid hz
  clear hm f0 f1 f2 f3 f4 hO hz
  go_enter Try.func21, Try.ntmps21
  go_wp2
  go_loopw [1, 5] (fun s i wr => ∃ k : Nat, k ≤ Ls.length ∧ i = .int .i64 k ∧ s = .int .i64 (1 + (preL Ls k : Int)) ∧ Touch B w.heap.size w wr ∧ (∀ j (hj : j < Ls.length), j < k → ∃ b N cN, A = some ⟨b, 0, none⟩ ∧ B ≤ b ∧ b < w.heap.size ∧ w.cell? ⟨b, j, none⟩ = some (.slice N Ls[j].length cN) ∧ RI wr (f j) (f (j + 1)) N (iota (1 + (preL Ls j : Int)) Ls[j].length)) ) (fun _ i _ => Ls.length - (intOf i).toNat)
  case atStart => exact ⟨0, Nat.zero_le _, rfl, by rw [HZ.out]; rfl, HT0.out, fun j _ hj => by omega⟩
  case round =>
    clear HT0
    obtain ⟨k, hk, rfl, rfl, hT, hd⟩ := hrel
    have HD := Lib.hid hd
    have hpk := HPL.out k hk
    have hpk2 : k * 1000 ≤ 1000000 := by omega
    clear hd
    by_cases hlt : k < Ls.length
    · obtain ⟨b, N, cN, rfl, h1, h2, hc, hN⟩ := HROW.out k hlt
      have hc2 := hT.other hc
      have hml := HML.out k hlt
      obtain ⟨g1, g2⟩ := HB.out k hlt
      have C1 := Lib.hid (markIntS_any N Ls[k].length cN (1 + (preL Ls k : Int)) (f k) (f (k + 1)) wr (hN.touch hT) (by omega) (by omega) (by omega))
      have HT := Lib.hid hT
      have HC := Lib.hid hc
      have HPSk := Lib.hid (show (1 : Int) + (preL Ls k : Int) + (Ls[k].length : Int) = 1 + (preL Ls (k + 1) : Int) from by rw [HPS.out k hlt]; omega)
      have i0 : (0 : Int) ≤ (k : Int) := by omega
      have i1 : (k : Int) < (Ls.length : Int) := by omega
      clear hN hT hc
      go_wp2_with fail
      with_reducible refine (C1.out).mono ?_
      rintro e w1 ⟨rfl, ht1, hr1⟩
      have HT1 := Lib.hid (HT.out.trans (ht1.more g1 g2))
      have HD1 := Lib.hid (show ∀ j (hj : j < Ls.length), j < k + 1 → ∃ b' N cN, (some ⟨b, 0, none⟩ : Option Addr) = some ⟨b', 0, none⟩ ∧ B ≤ b' ∧ b' < w.heap.size ∧ w.cell? ⟨b', j, none⟩ = some (.slice N Ls[j].length cN) ∧ RI w1 (f j) (f (j + 1)) N (iota (1 + (preL Ls j : Int)) Ls[j].length) from fun j hj hjk => by
        by_cases e : j = k
        · subst e
          exact ⟨b, N, cN, rfl, h1, h2, HC.out, hr1⟩
        · obtain ⟨b', N', cN', e', a1, a2, a3, a4⟩ := HD.out j hj (by omega)
          exact ⟨b', N', cN', e', a1, a2, a3, a4.touch ht1 (.inl (cut_le HF.out (show j + 1 ≤ k by omega) (by omega)))⟩)
      clear ht1 hr1 HD HT
      go_wp2
      go_roundw
      case rel => exact ⟨k + 1, by omega, by go_num, by rw [← HPSk.out], HT1.out, HD1.out⟩
      case measure => simp [intOf]; omega
    · obtain rfl : k = Ls.length := by omega
      have HT := Lib.hid hT
      clear hT
      go_wp2
      go_ret
      refine ⟨rfl, HT.out, ?_⟩
      intro j hj
      obtain ⟨b', N', cN', e', a1, a2, a3, a4⟩ := HD.out j hj hj
      have g := HB.out j hj
      exact ⟨b', 0, N', cN', e', a1, a2, by rw [Nat.zero_add]; exact HT.out.other a3, a4.more g.1 g.2⟩
set_option maxHeartbeats 800000 in
theorem heldIntSS_any (A : Option Addr) (c : Nat) (Ls : List (List Int)) (lo hi : Nat) (w : World) (h : HeldSS w lo hi A Ls) (hn : Ls.length ≤ 1000) (hm : ∀ L ∈ Ls, L.length ≤ 1000) :
    Calls Try.prog 22 #[.slice A Ls.length c, .int .i64 1] w fun e w' => e = .returned (.int .i64 (1 + (preL Ls Ls.length : Int))) ∧ w = w' := by
  have HPL := Lib.hid (preL_le hm)
  have HPS := Lib.hid (fun k (hk : k < Ls.length) => preL_succ hk)
  have HML := Lib.hid (fun k (hk : k < Ls.length) => hm _ (List.getElem_mem hk))
  have HH := Lib.hid h
  have hz : preL Ls 0 = 0 := rfl
  have HZ := Lib.hid hz
  clear hm hz h
  go_enter Try.func22, Try.ntmps22
  go_wp2
  go_loop [1, 5] (fun s i => ∃ k : Nat, k ≤ Ls.length ∧ i = .int .i64 k ∧ s = .int .i64 (1 + (preL Ls k : Int))) (fun _ i => Ls.length - (intOf i).toNat)
  case atStart => exact ⟨0, Nat.zero_le _, rfl, by rw [HZ.out]; rfl⟩
  case round =>
    obtain ⟨k, hk, rfl, rfl⟩ := hrel
    have hpk := HPL.out k hk
    by_cases hlt : k < Ls.length
    · obtain ⟨b, o, N, cN, rfl, h1, h2, hc, hN⟩ := HH.out k hlt
      have hml := HML.out k hlt
      have C1 := Lib.hid (heldIntS_any N Ls[k].length cN (1 + (preL Ls k : Int)) lo hi w hN (by omega) (by omega) (by omega))
      have HPSk := Lib.hid (show (1 : Int) + (preL Ls k : Int) + (Ls[k].length : Int) = 1 + (preL Ls (k + 1) : Int) from by rw [HPS.out k hlt]; omega)
      have i0 : (0 : Int) ≤ (k : Int) := by omega
      have i1 : (k : Int) < (Ls.length : Int) := by omega
      have hneg : decide ((1 : Int) + (preL Ls k : Int) + (Ls[k].length : Int) < 0) = false := by simp; omega
      clear hN
      go_wp2_with fail
      with_reducible refine (C1.out).mono ?_
      rintro e w' ⟨rfl, rfl⟩
      go_wp2
      go_round
      case rel => exact ⟨k + 1, by omega, by go_num, by rw [← HPSk.out]⟩
      case measure => simp [intOf]; omega
    · obtain rfl : k = Ls.length := by omega
      go_wp2
      go_ret
      exact ⟨rfl, rfl⟩
end Go.Proofs.Yteelckhkcfokhaa
