/-
  MERGED TEXTS: R20 R21 R23 R24.
-/
import Derived.Test.YtjahmejmkijkaaaR8
import Derived.Test.YtjahmejmkijkaaaK16
import Derived.Test.YtjahmejmkijkaaaR9
import Derived.Test.YtjahmejmkijkaaaMem4
import Derived.Deep.RegionHeld
namespace Go.Proofs.Ytjahmejmkijkaaa
open Go.RowKit
set_option maxHeartbeats 800000 in
theorem runningAtS_any (A : Option Addr) (c : Nat) (g : List Bs.T) (A1 : Option Addr) (c1 : Nat) (S : List Int) (now : Int) (lo hi l1 h1 : Nat) (w : World) (h : RG w lo hi A g) (hh : hi ≤ w.heap.size) (hs : RI w l1 h1 A1 S) (hh1 : h1 ≤ w.heap.size) (hF : Bs.fine g = true) (hSl : g.length ≤ S.length) (hSc : S.length ≤ 9223372036854775807) (hSb : ∀ i, i < g.length → 0 ≤ Bs.giZ S i ∧ Bs.giZ S i ≤ 100000) :
    Calls Try.prog 92 #[.slice A g.length c, .slice A1 S.length c1, .int .i64 now] w (RetI w (Bs.runAt g S now)) := by
  have hgl := Bs.fine_len hF
  have HO0 := Lib.hid (OI.new w w.heap.size (Nat.le_refl _))
  have HL0 := Lib.hid ((Below.refl w.heap.size w).alloc (Nat.le_refl _) (.cells #[] 3))
  have HT := Lib.hid (fun i (hi : i < g.length) => Bs.fine_time' hF hi)
  have HSB := Lib.hid hSb
  have HG := Lib.hid h
  have HI := Lib.hid hs
  have HE := Lib.hid (show Bs.runAt g S now = Bs.pick g.length (Bs.runAp g S now) from rfl)
  clear h hs hSb hF
  go_enter Try.func92, Try.ntmps92
  go_wp2
  go_loopw [7, 8] (fun vo i wr => ∃ (k : Nat) (A' : Option Addr) (c' : Nat) (o : List Int), k ≤ g.length ∧ vo = .slice A' o.length c' ∧ i = .int .i64 k ∧ o = Bs.pick k (Bs.runAp g S now) ∧ OI wr w.heap.size A' c' o ∧ Below w.heap.size w wr) (fun _ i _ => g.length - (intOf i).toNat)
  case atStart => exact ⟨0, _, _, [], Nat.zero_le _, rfl, rfl, rfl, HO0.out, HL0.out⟩
  case round =>
    obtain ⟨k, A', c', o, hk, rfl, rfl, ho, hO, hb⟩ := hrel
    clear HO0 HL0
    by_cases hlt : k < g.length
    · have hks : k < S.length := by omega
      obtain ⟨b, o1, rfl, _, hbh, hc⟩ := (HI.out.below hb hh1).at_ hks
      obtain ⟨bg, og, N, cN, rfl, _, hgh, k0, _, _, _, hnc, hcN, hN⟩ := (HG.out.below hb hh) k hlt
      rw [← Bs.giZ_at hks] at hc
      have hsb := HSB.out k hlt
      have htb := HT.out k hlt
      have hp := Bs.pick_succ k (Bs.runAp g S now)
      rw [← ho] at hp
      have hpe : Bs.runAp g S now k = (decide (Bs.giZ S k ≤ now) && decide (now < Bs.giZ S k + g[k].time)) := by rw [← time_at hlt]; rfl
      rw [hpe] at hp
      have hol := Bs.pick_len k (Bs.runAp g S now)
      rw [← ho] at hol
      have HOL := Lib.hid hol
      have HO := Lib.hid hO
      have HBb := Lib.hid hb
      have sr := hb.size
      have i0 : (0 : Int) ≤ (k : Int) := by omega
      have i1 : (k : Int) < (S.length : Int) := by omega
      have i2 : (k : Int) < (g.length : Int) := by omega
      clear ho hpe hO hb hol hN
      generalize g[k].time = tk at *
      generalize Bs.giZ S k = sk at *
      have hw : IntKind.i64.wrap (sk + tk) = sk + tk := IntWalk.i64_in _ ⟨by omega, by omega⟩
      by_cases g1 : sk ≤ now
      · have d1 : decide (sk ≤ now) = true := by simp [g1]
        by_cases g2 : now < sk + tk
        · have d2 : decide (now < sk + tk) = true := by simp [g2]
          rw [d1, d2] at hp
          simp only [Bool.and_self, if_true] at hp
          have HP := Lib.hid hp.symm
          clear hp
          go_wp2
          go_quiet (fail)
          have HO1 := Lib.hid (HO.out.drewN nq)
          have HBb1 := Lib.hid (HBb.out.drewN nq)
          clear hc k0
          generalize wr.drewN nq = W1 at *
          have HO2 := Lib.hid (HO1.out.alloc (.cells #[.int .i64 (k : Int)] 3))
          have s1 := HBb1.out.size
          have HBb2 := Lib.hid (HBb1.out.alloc s1 (.cells #[.int .i64 (k : Int)] 3))
          go_wp2_with (first
            | (at_builtin; refine push_int rfl _ _ rfl w.heap.size A' c' o (k : Int) rfl HO2.out W1.heap.size 1 rfl (by simp [go_sem]) (by have := HOL.out; omega) (by simp; omega) ?_; intro A6 c6 w6 ho6 hb6 _; have HO6 := Lib.hid ho6; have HBb6 := Lib.hid (HBb2.out.trans (hb6.mono (Nat.le_refl _))); clear ho6 hb6))
          go_roundw
          case rel => exact ⟨k + 1, A6, c6, o ++ [(k : Int)], by omega, by rw [List.length_append]; rfl, by go_num, HP.out, HO6.out, HBb6.out⟩
          case measure => simp [intOf]; omega
        · have d2 : decide (now < sk + tk) = false := by simp; omega
          rw [d1, d2] at hp
          simp only [Bool.and_false, Bool.false_eq_true, if_false] at hp
          have HP := Lib.hid hp.symm
          clear hp
          go_wp2
          go_quiet (fail)
          go_wp2
          go_roundw
          case rel => exact ⟨k + 1, A', c', o, by omega, rfl, by go_num, HP.out, HO.out.drewN _, HBb.out.drewN _⟩
          case measure => simp [intOf]; omega
      · have d1 : decide (sk ≤ now) = false := by simp; omega
        rw [d1] at hp
        simp only [Bool.false_and, Bool.false_eq_true, if_false] at hp
        have HP := Lib.hid hp.symm
        clear hp
        go_wp2
        go_quiet (fail)
        go_wp2
        go_roundw
        case rel => exact ⟨k + 1, A', c', o, by omega, rfl, by go_num, HP.out, HO.out.drewN _, HBb.out.drewN _⟩
        case measure => simp [intOf]; omega
    · obtain rfl : k = g.length := by omega
      have HO := Lib.hid hO
      have HBb := Lib.hid hb
      have HQ := Lib.hid ho
      clear hO hb ho
      go_wp2
      go_ret
      rw [HE.out, ← HQ.out]
      exact ⟨⟨A', c', rfl, HO.out⟩, HBb.out⟩
set_option maxHeartbeats 800000 in
theorem endOfS_any (A : Option Addr) (c : Nat) (g : List Bs.T) (A1 : Option Addr) (c1 : Nat) (S : List Int) (lo hi l1 h1 : Nat) (w : World) (h : RG w lo hi A g) (hs : RI w l1 h1 A1 S) (hF : Bs.fine g = true) (hSl : g.length ≤ S.length) (hSc : S.length ≤ 9223372036854775807) (hSb : ∀ i, i < g.length → 0 ≤ Bs.giZ S i ∧ Bs.giZ S i ≤ 100000) :
    Calls Try.prog 33 #[.slice A g.length c, .slice A1 S.length c1] w fun e w' => e = .returned (.int .i64 (Bs.endC g S)) ∧ ∃ n, w' = w.drewN n := by
  have hgl := Bs.fine_len hF
  have HT := Lib.hid (fun i (hi : i < g.length) => Bs.fine_time' hF hi)
  have HSB := Lib.hid hSb
  have HG := Lib.hid h
  have HI := Lib.hid hs
  have HE := Lib.hid (show Bs.endC g S = Bs.endK g S g.length from rfl)
  clear h hs hSb hF
  go_enter Try.func33, Try.ntmps33
  go_wp2
  go_loopw [5, 6] (fun s i wr => ∃ (k n : Nat) (t : Int), k ≤ g.length ∧ s = .int .i64 t ∧ i = .int .i64 k ∧ t = Bs.endK g S k ∧ wr = w.drewN n) (fun _ i _ => g.length - (intOf i).toNat)
  case atStart => exact ⟨0, 0, 0, Nat.zero_le _, rfl, rfl, rfl, rfl⟩
  case round =>
    obtain ⟨k, n, t, hk, rfl, rfl, ht, rfl⟩ := hrel
    by_cases hlt : k < g.length
    · have hks : k < S.length := by omega
      obtain ⟨b, o1, rfl, _, hbh, hc⟩ := HI.out.at_ hks
      obtain ⟨bg, og, N, cN, rfl, _, hgh, k0, _, _, _, hnc, hcN, hN⟩ := HG.out k hlt
      rw [← Bs.giZ_at hks] at hc
      have hsb := HSB.out k hlt
      have htb := HT.out k hlt
      have hst := Bs.endK_succ g S k
      rw [← ht, show Bs.endF g S k = Bs.giZ S k + g[k].time from by rw [← time_at hlt]; rfl] at hst
      have i0 : (0 : Int) ≤ (k : Int) := by omega
      have i1 : (k : Int) < (S.length : Int) := by omega
      have i2 : (k : Int) < (g.length : Int) := by omega
      have HS := Lib.hid hst
      clear hst ht hN
      generalize g[k].time = tk at *
      generalize Bs.giZ S k = sk at *
      have hw : IntKind.i64.wrap (sk + tk) = sk + tk := IntWalk.i64_in _ ⟨by omega, by omega⟩
      go_wp2
      go_quiet (fail)
      go_wp2
      go_roundw
      case rel => exact ⟨k + 1, _, max t (sk + tk), by omega, by first | rfl | (congr 1; split <;> omega) | (congr 1; omega), by go_num, HS.out.symm, by first | rfl | rw [World.drewN_drewN]⟩
      case measure => simp [intOf]; omega
    · obtain rfl : k = g.length := by omega
      have HQ := Lib.hid ht
      clear ht
      go_wp2
      go_ret
      exact ⟨ret_int (by rw [HE.out, ← HQ.out]), n, rfl⟩
end Go.Proofs.Ytjahmejmkijkaaa
namespace Go.Proofs.Ytjahmejmkijkaaa
open Go.RowKit
theorem need_no {g : List Bs.T} {S : List Int} {k : Nat} (hk : k < g.length) {x : Int} (hx : x ∈ g[k].needs) (h : ¬ Bs.giZ S x.toNat + Bs.timeOf g x.toNat ≤ Bs.giZ S k) : Bs.needOkB g S k = false := by
  unfold Bs.needOkB
  rw [need_at hk, List.all_eq_false]
  exact ⟨x, hx, by rw [decide_eq_true_eq]; exact h⟩
theorem need_yes {g : List Bs.T} {S : List Int} {k : Nat} (hk : k < g.length) (h : ∀ j (hj : j < g[k].needs.length), Bs.giZ S g[k].needs[j].toNat + Bs.timeOf g g[k].needs[j].toNat ≤ Bs.giZ S k) : Bs.needOkB g S k = true := by
  unfold Bs.needOkB
  rw [need_at hk, List.all_eq_true]
  intro x hx
  obtain ⟨j, hj, rfl⟩ := List.mem_iff_getElem.1 hx
  rw [decide_eq_true_eq]
  exact h j hj
theorem stV_no3 {g : List Bs.T} {m S : List Int} {wk : Int} (h : Bs.stK g m wk S g.length = false) : Bs.stV g m wk S = false := by unfold Bs.stV; rw [h]; simp
theorem runL_k (g : List Bs.T) (m : List Int) (wk : Int) (S : List Int) (now : Int) : (Bs.runL g m wk S now).length ≤ 1000 := by
  cases hv : Bs.stV g m wk S
  · rw [Bs.runL_no hv]; simp
  · rw [Bs.runL_yes hv]
    have h1 := Bs.runAt_len g S now
    have h2 := Bs.fine_len (valid_fine (Bs.canV_iff.1 (Bs.stV_iff.1 hv).1).1)
    omega
end Go.Proofs.Ytjahmejmkijkaaa
namespace Go.Proofs.Ytjahmejmkijkaaa
open Go.RowKit
theorem gi_giZ (l : List Int) (i : Nat) : Bs.gi l i = Bs.giZ l i := by
  unfold Bs.gi Bs.giZ
  rw [List.getD_eq_getElem?_getD]
  cases l[i]? <;> rfl
theorem Arr.at_ {w : World} {b : Nat} {l : List Int} (h : Arr w b l) {i : Nat} (hi : i < l.length) : w.cell? ⟨b, i, none⟩ = some (.int .i64 (Bs.giZ l i)) := by rw [← gi_giZ]; exact h.cell hi
theorem Arr.alloc {w : World} {b : Nat} {l : List Int} (h : Arr w b l) (o : Obj) : Arr (w.alloc o) b l := Blk.alloc h o
theorem Arr.ri {w : World} {b : Nat} {l : List Int} (h : Arr w b l) (hl : l.length ≤ 1000000) : RI w b w.heap.size (some ⟨b, 0, none⟩) l := (h.oi (Nat.le_refl _) hl).ri
def fillS (n k : Nat) : List Int := List.replicate k 200 ++ List.replicate (n - k) 0
theorem fillS_len {n k : Nat} (h : k ≤ n) : (fillS n k).length = n := by unfold fillS; simp; omega
theorem fillS_succ {n k : Nat} (h : k < n) : (fillS n k).set k 200 = fillS n (k + 1) := by
  unfold fillS
  obtain ⟨d, hd⟩ : ∃ d, n - k = d + 1 := ⟨n - k - 1, by omega⟩
  rw [List.set_append_right _ _ (by simp), hd, show n - (k + 1) = d from by omega, List.replicate_succ' (n := k)]
  simp [List.replicate_succ]
theorem filter_takeP {q : Int → Bool} {l : List Int} {k : Nat} (hk : k < l.length) : (l.take (k + 1)).filter q = (l.take k).filter q ++ (if q l[k] then [l[k]] else []) := by
  rw [List.take_succ_eq_append_getElem hk, List.filter_append]
  by_cases h : q l[k] <;> simp [h]
end Go.Proofs.Ytjahmejmkijkaaa
namespace Go.Proofs.Ytjahmejmkijkaaa
open Go.RowKit
end Go.Proofs.Ytjahmejmkijkaaa
