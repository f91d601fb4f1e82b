/-
  THE WALK OF laws.FnBusyTime.
-/
import Derived.Test.YtenneicbhpjfmaaK31
import Derived.Test.YtenneicbhpjfmaaK29
import Derived.Test.YtenneicbhpjfmaaK30
import Derived.Test.YtenneicbhpjfmaaMath95
import Derived.Test.YtenneicbhpjfmaaRI
import Derived.Test.YtenneicbhpjfmaaL5
namespace Go.Proofs.Ytenneicbhpjfmaa
open Go.RowKit
theorem list_rsB {α : Type} (f : α → Int) (d : α) : ∀ l : List α, Bs.sumZ (l.map f) = Bs.rs l.length (fun i => f (l.getD i d)) := by
  intro l
  induction l with
  | nil => rfl
  | cons x r ih =>
    have e : ∀ (n : Nat) (h : Nat → Int), Bs.rs (n + 1) h = h 0 + Bs.rs n (fun i => h (i + 1)) := by
      intro n
      induction n with
      | zero => intro h; rw [Bs.rs_succ, Bs.rs_zero, Bs.rs_zero]; omega
      | succ n ih2 => intro h; rw [Bs.rs_succ, ih2, Bs.rs_succ]; omega
    rw [List.map_cons, List.length_cons, e]
    show f x + Bs.sumZ (r.map f) = _
    rw [ih]
    rfl
theorem sumT_rsB (g : List Bs.T) : Bs.sumT g = Bs.rs g.length (Bs.timeOf g) := by
  unfold Bs.sumT
  rw [list_rsB Bs.T.time ⟨0, [], 0, 0⟩ g]
  apply Bs.rs_congr
  intro i hi
  rw [Bs.timeOf_eq hi, List.getD_eq_getElem?_getD, List.getElem?_eq_getElem hi]
  rfl
theorem bus_all {g : List Bs.T} {l : List Bs.E} (h : Bs.logV g l = true) : Bs.busL g l ≤ Bs.sumT g := by
  have hF := valid_fine (Bs.logV_iff.1 h).1
  rw [Bs.busL_yes h, ← Bs.done_busy h, sumT_rsB]
  unfold Bs.doneC
  rw [Bs.pick_sum]
  refine Bs.rs_le _ (fun i hi => ?_)
  have := Bs.fine_time' hF hi
  rw [Bs.timeOf_eq hi]
  split <;> omega
set_option maxRecDepth 20000 in
set_option maxHeartbeats 6400000 in
theorem fnBusyTime_walk (A : Option Addr) (c : Nat) (l : List Int) (w : World) (hb : RB w 0 w.heap.size A l) (hlc : l.length ≤ c ∧ c ≤ maxLen) :
    Calls Try.prog 9 #[.slice A l.length c] w fun e w' => e = .returned (.bool true) ∧ Below w.heap.size w w' := by
  have hl63 : l.length ≤ 9223372036854775807 := by have := hlc.2; unfold maxLen at this; omega
  by_cases hbig : 1048576 < l.length
  · go_enter Try.func9, Try.ntmps9
    go_wp2
    go_ret
    exact ⟨rfl, Below.refl _ _⟩
  · have C1 := Lib.hid (DrawBusyTime_any A c l w hb hlc.1 hlc.2)
    clear hb
    go_enter Try.func9, Try.ntmps9
    go_wp2_with fail
    refine (C1.out).mono ?_
    rintro e w1 ⟨⟨A1, c1, g, A0, c0, d, rfl, hg, hg16, hgc, hcm, hd, hd100, hdc, hdm⟩, hb1⟩
    have HG := Lib.hid hg
    have HD := Lib.hid hd
    have s1 := hb1.size
    have hl9 : g.length ≤ 9223372036854775807 := by omega
    have hd9 : d.length ≤ 9223372036854775807 := by omega
    have c2 := fun W hg hs hd hs2 => BusyTime_any A1 c1 g A0 c0 d w.heap.size w1.heap.size w.heap.size w1.heap.size W hg hs hd hs2 hl9 hd9
    have cs := fun W hg hs hd hs2 => BusyTimeS_any A1 c1 g A0 c0 d w.heap.size w1.heap.size w.heap.size w1.heap.size W hg hs hd hs2 hl9 hd9
    have C2 := Lib.hid (c2 w1 HG.out (Nat.le_refl _) HD.out (Nat.le_refl _))
    obtain ⟨N, hok⟩ : ∃ N, N = Bs.busL g d := ⟨_, rfl⟩
    have HOK := Lib.hid hok
    rw [← hok] at C2 cs
    have CD := Lib.hid (fun W hg hs hd hs2 => DoneBy_any A1 c1 g A0 c0 d 200 w.heap.size w1.heap.size w.heap.size w1.heap.size W hg hs hd hs2 hl9 hd9)
    have CS := Lib.hid cs
    have HB1 := Lib.hid hb1
    clear C1 hg hd c2 cs hb1 hok
    go_wp2_with fail
    refine (C2.out).mono ?_
    rintro e w2 ⟨rfl, hb2⟩
    have s2 := hb2.size
    have HG2 := Lib.hid (HG.out.below hb2 (Nat.le_refl _))
    have HD2 := Lib.hid (HD.out.below hb2 (Nat.le_refl _))
    have HB2 := Lib.hid (HB1.out.trans (hb2.mono s1))
    have C3 := Lib.hid (CS.out w2 HG2.out s2 HD2.out s2)
    clear hb2 C2 HG HD HB1
    go_wp2_with fail
    refine (C3.out).mono ?_
    rintro e w3 ⟨rfl, hb3⟩
    have s3 := hb3.size
    have HG3 := Lib.hid (HG2.out.below hb3 s2)
    have HD3 := Lib.hid (HD2.out.below hb3 s2)
    have HB3 := Lib.hid (HB2.out.trans (hb3.mono (Nat.le_trans s1 s2)))
    have hs3 : w1.heap.size ≤ w3.heap.size := Nat.le_trans s2 s3
    have s13 : w.heap.size ≤ w3.heap.size := Nat.le_trans s1 hs3
    clear hb3 C3 HG2 HD2 HB2
    have hne : (N != N) = false := by simp
    have heq : (N == N) = true := by simp
    by_cases hn : N < 0
    · have C6 := Lib.hid (CS.out w3 HG3.out hs3 HD3.out hs3)
      have e1 : decide (N < 0) = true := decide_eq_true hn
      clear HOK CS hn CD
      go_wp2_with fail
      refine (C6.out).mono ?_
      rintro e w6 ⟨rfl, hb6⟩
      have HB6 := Lib.hid (HB3.out.trans (hb6.mono s13))
      clear hb6 C6
      go_wp2
      go_ret
      exact ⟨rfl, HB6.out⟩
    have e1 : decide (N < 0) = false := decide_eq_false hn
    have hlv : Bs.logV g d = true := by
      cases hv : Bs.logV g d
      · have h1 := HOK.out
        rw [Bs.busL_no hv] at h1
        omega
      · rfl
    have hF := valid_fine (Bs.logV_iff.1 hlv).1
    have h8 := Bs.fine_len hF
    have hle := bus_all hlv
    rw [← HOK.out] at hle
    have f4 : decide (N ≤ Bs.sumT g) = true := decide_eq_true hle
    have C4 := Lib.hid (CD.out w3 HG3.out hs3 HD3.out hs3)
    have hDL : ∀ x ∈ Bs.doneL g d 200, 0 ≤ x ∧ x < g.length := by
      rw [Bs.doneL_yes hlv]
      intro x hx
      unfold Bs.doneC at hx
      obtain ⟨i, hi, _, rfl⟩ := (Bs.mem_pick _ _ _).1 hx
      omega
    have hdl := Bs.doneL_len g d 200
    have HV := Lib.hid (show tmK g (Bs.doneL g d 200) (Bs.doneL g d 200).length = N from by
      unfold tmK
      rw [List.take_length, HOK.out, Bs.doneL_yes hlv, Bs.done_busy hlv, Bs.busL_yes hlv])
    generalize Bs.doneL g d 200 = DL at *
    have HS := Lib.hid (fun k (hk : k < DL.length) => tmK_succ g DL hk)
    have HBB := Lib.hid (fun k (hk : k ≤ DL.length) => tmK_b hF hDL k hk)
    have HT := Lib.hid (fun k (hk : k < g.length) => Bs.fine_time' hF hk)
    have HIN := Lib.hid (fun k (hk : k < DL.length) => hDL DL[k] (List.getElem_mem _))
    have CA := Lib.hid (fun W hg => allTime_any A1 c1 g w.heap.size w1.heap.size W hg hF)
    clear CS HOK hlv hle hn CD hDL hF
    go_wp2_with fail
    refine (C4.out).mono ?_
    rintro e w4 ⟨⟨A4, c4, rfl, ho4⟩, hb4⟩
    have s4 := hb4.size
    have HG4 := Lib.hid (HG3.out.below hb4 hs3)
    have HI4 := Lib.hid ho4.ri
    have HB4 := Lib.hid (HB3.out.trans (hb4.mono s13))
    have s14 : w1.heap.size ≤ w4.heap.size := Nat.le_trans hs3 s4
    clear hb4 ho4 C4 HG3 HD3 HB3
    obtain ⟨W4, rfl⟩ : ∃ W4, W4 = w4 := ⟨_, rfl⟩
    go_wp2
    go_loopw [7, 8] (fun v i wr => ∃ (k : Nat), k ≤ DL.length ∧ i = .int .i64 (k : Int) ∧ v = .int .i64 (tmK g DL k) ∧ wr = W4) (fun _ i _ => DL.length - (intOf i).toNat)
    case atStart => exact ⟨0, Nat.zero_le _, rfl, rfl, rfl⟩
    case round =>
      obtain ⟨k, hk, rfl, rfl, rfl⟩ := hrel
      by_cases hlt : k < DL.length
      · obtain ⟨b, o, rfl, _, _, k0⟩ := HI4.out.at_ hlt
        have hin := HIN.out k hlt
        have hbb := HBB.out k hk
        have hbs := HS.out k hlt
        obtain ⟨v, hvv⟩ : ∃ v : Nat, DL[k] = (v : Int) := ⟨DL[k].toNat, by omega⟩
        have hvl : v < g.length := by omega
        have hti := HT.out v hvl
        rw [hvv] at k0 hbs
        rw [Int.toNat_natCast, Bs.timeOf_eq hvl] at hbs
        obtain ⟨bg, og, NN, cN, rfl, _, _, g0, _, _, _, _, _, _⟩ := HG4.out v hvl
        have i0 : (0 : Int) ≤ (k : Int) := by omega
        have i1 : (k : Int) < (DL.length : Int) := by omega
        have v0 : (0 : Int) ≤ (v : Int) := by omega
        have v1 : (v : Int) < (g.length : Int) := by omega
        have v2 : decide ((v : Int) < 0) = false := decide_eq_false (by omega)
        have v3 : decide ((g.length : Int) ≤ (v : Int)) = false := decide_eq_false (by omega)
        have v4 : decide ((v : Int) ≥ (g.length : Int)) = false := decide_eq_false (by omega)
        have v5 : decide (g.length ≤ v) = false := decide_eq_false (by omega)
        generalize g[v].time = tv at *
        clear hin hvv HBB HS HT HIN
        generalize hq : tmK g DL k = bq at *
        clear hq
        have hw1 : IntKind.i64.wrap (bq + tv) = bq + tv := IntWalk.i64_in _ ⟨by omega, by omega⟩
        have HBSr := Lib.hid hbs
        clear hbs hti hbb
        go_wp2
        go_roundw
        case rel => exact ⟨k + 1, by omega, by go_num, by rw [HBSr.out], by first | rfl | trivial⟩
        case measure => simp [intOf]; omega
      · obtain rfl : k = DL.length := by omega
        have C9 := Lib.hid (CA.out wr HG4.out)
        rw [HV.out]
        clear HBB HS HT HIN
        generalize Bs.sumT g = sg at *
        go_wp2_with fail
        refine (C9.out).mono ?_
        rintro e w9 ⟨rfl, rfl⟩
        go_wp2
        go_ret
        exact ⟨rfl, HB4.out⟩
end Go.Proofs.Ytenneicbhpjfmaa
