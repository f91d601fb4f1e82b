/-
  WALKS: how often a task is run, and how long that takes, of the program.
-/
import Derived.Test.YtoggbndpjcfmiaaW70
namespace Go.Proofs.Ytoggbndpjcfmiaa
open Go.RowKit
theorem canTry_any (A : Option Addr) (c : Nat) (l : List Bool) (t : Int) (w : World) (hl : l.length ≤ 9223372036854775807) :
    Calls Try.prog 37 #[.slice A l.length c, .int .i64 t] w fun e w' => e = .returned (.bool (Bs.canT l t)) ∧ w = w' := by
  have HE := Lib.hid (show Bs.canT l t = (decide (1 ≤ l.length ∧ l.length ≤ 6) && decide (0 ≤ t ∧ t ≤ 5)) from rfl)
  by_cases h1 : 1 ≤ l.length
  · by_cases h2 : l.length ≤ 6
    · by_cases h3 : 0 ≤ t
      · by_cases h4 : t ≤ 5
        · have HV := Lib.hid (show Bs.canT l t = true from Bs.canT_iff.2 ⟨h1, h2, h3, h4⟩)
          go_enter Try.func37, Try.ntmps37
          go_wp2
          go_ret
          exact ⟨ret_bool HV.out.symm, rfl⟩
        · have HV := Lib.hid (show Bs.canT l t = false from by rw [HE.out]; simp; omega)
          go_enter Try.func37, Try.ntmps37
          go_wp2
          go_ret
          exact ⟨ret_bool HV.out.symm, rfl⟩
      · have HV := Lib.hid (show Bs.canT l t = false from by rw [HE.out]; simp; omega)
        go_enter Try.func37, Try.ntmps37
        go_wp2
        go_ret
        exact ⟨ret_bool HV.out.symm, rfl⟩
    · have HV := Lib.hid (show Bs.canT l t = false from by rw [HE.out]; simp; omega)
      go_enter Try.func37, Try.ntmps37
      go_wp2
      go_ret
      exact ⟨ret_bool HV.out.symm, rfl⟩
  · have HV := Lib.hid (show Bs.canT l t = false from by rw [HE.out]; simp; omega)
    go_enter Try.func37, Try.ntmps37
    go_wp2
    go_ret
    exact ⟨ret_bool HV.out.symm, rfl⟩
theorem validTime_any (z : Int) (w : World) : Calls Try.prog 40 #[.int .i64 z] w fun e w' => e = .returned (.bool (decide (1 ≤ z ∧ z ≤ 20))) ∧ w = w' := by
  go_enter Try.func40, Try.ntmps40
  go_wp2
  all_goals go_ret
  all_goals exact ⟨ret_bool (by simp; try omega), rfl⟩
set_option maxHeartbeats 800000 in
theorem TryTask_any (A : Option Addr) (c : Nat) (l : List Bool) (t : Int) (lo hi : Nat) (w : World) (h : RL w lo hi A l) (_hh : hi ≤ w.heap.size) (hl : l.length ≤ 9223372036854775807) :
    Calls Try.prog 16 #[.slice A l.length c, .int .i64 t] w fun e w' => e = .returned (.tuple #[.int .i64 (Bs.tryN l t), .bool (Bs.tryB l t)]) ∧ Below w.heap.size w w' := by
  have c1 := canTry_any A c l t w hl
  cases hc : Bs.canT l t
  · rw [hc] at c1
    have C1 := Lib.hid c1
    have HN := Lib.hid (Bs.tryN_no hc)
    have HT := Lib.hid (Bs.tryB_no hc)
    clear c1 hc
    go_enter Try.func16, Try.ntmps16
    go_wp2_with fail
    with_reducible refine (C1.out).mono ?_
    rintro e w1 ⟨rfl, rfl⟩
    go_wp2
    go_ret2
    exact ⟨by rw [HN.out, HT.out]; rfl, Below.refl _ _⟩
  · rw [hc] at c1
    have C1 := Lib.hid c1
    obtain ⟨g1, g2, g3, g4⟩ := Bs.canT_iff.1 hc
    have HN := Lib.hid (Bs.tryN_yes hc)
    have HT := Lib.hid (show Bs.tryB l t = Bs.gb l (Bs.runN l t - 1) from Bs.tryB_yes hc)
    have HU := Lib.hid (fun k (hk : Bs.IsRun l t k) => Bs.runN_eq g2 hk)
    have HGB := Lib.hid (fun i (hi : i < l.length) => Bs.gb_at (l := l) hi)
    have HR := Lib.hid h
    clear c1 hc h
    go_enter Try.func16, Try.ntmps16
    go_wp2_with fail
    with_reducible refine (C1.out).mono ?_
    rintro e w1 ⟨rfl, rfl⟩
    clear C1
    go_wp2
    go_loop [6] (fun i => ∃ j : Nat, j < l.length ∧ i = .int .i64 ((j : Int) + 1) ∧ ∀ x, 1 ≤ x → x < j + 1 → Bs.stopR l t x = false) (fun i => l.length + 1 - (intOf i).toNat)
    case atStart => exact ⟨0, by omega, rfl, by intro x h1 h2; omega⟩
    case round =>
      obtain ⟨j, hj, rfl, hno⟩ := hrel
      obtain ⟨b, o, rfl, _, _, hcell⟩ := (HR.out).at_ hj
      have HJ := Lib.hid (HGB.out j hj)
      have HNO := Lib.hid hno
      have i0 : (0 : Int) ≤ (j : Int) := by omega
      have i1 : (j : Int) < (l.length : Int) := by omega
      have hw1 : IntKind.i64.wrap ((j : Int) + 1 - 1) = (j : Int) := by rw [show (j : Int) + 1 - 1 = (j : Int) from by omega]; exact IntWalk.i64_in _ ⟨by omega, by omega⟩
      have hw2 : IntKind.i64.wrap ((j : Int) + 1 + 1) = (j : Int) + 1 + 1 := IntWalk.i64_in _ ⟨by omega, by omega⟩
      have HST := Lib.hid (fun (h : Bs.stopR l t (j + 1) = true) => HU.out (j + 1) ⟨by omega, h, hno⟩)
      clear hno HGB
      generalize hbb : l[j] = bj at *
      clear hbb
      have stopT : (Bs.stopR l t (j + 1) = true) → ((.returned (.tuple #[.int .i64 ((j : Int) + 1), .bool bj]) : Ending) = .returned (.tuple #[.int .i64 (Bs.tryN l t), .bool (Bs.tryB l t)])) := by
        intro hs
        have e := HST.out hs
        rw [HN.out, HT.out, ← e, Nat.add_sub_cancel, HJ.out]
        rfl
      cases bj
      · by_cases h1 : (j : Int) + 1 ≤ t
        · by_cases h2 : (j : Int) + 1 < (l.length : Int)
          · have HS := Lib.hid (show Bs.stopR l t (j + 1) = false from Bs.stopR_no.2 ⟨by rw [Nat.add_sub_cancel]; exact HJ.out, by omega, by omega⟩)
            clear stopT
            go_wp2
            go_round
            case rel =>
              refine ⟨j + 1, by omega, by go_num, ?_⟩
              intro x hx hxk
              by_cases e : x = j + 1
              · subst e; exact HS.out
              · exact HNO.out x hx (by omega)
            case measure => simp [intOf]; omega
          · have HE := Lib.hid (stopT (Bs.stopR_yes.2 (.inr (.inr (by omega)))))
            clear stopT
            go_wp2
            go_quiet (fail)
            go_wp2
            go_ret2
            exact ⟨HE.out, (Below.refl _ _).drewN _⟩
        · have HE := Lib.hid (stopT (Bs.stopR_yes.2 (.inr (.inl (by omega)))))
          clear stopT
          go_wp2
          go_quiet (fail)
          go_wp2
          go_ret2
          exact ⟨HE.out, (Below.refl _ _).drewN _⟩
      · have HE := Lib.hid (stopT (Bs.stopR_yes.2 (.inl (by rw [Nat.add_sub_cancel]; exact HJ.out))))
        clear stopT
        go_wp2
        go_quiet (fail)
        go_wp2
        go_ret2
        exact ⟨HE.out, (Below.refl _ _).drewN _⟩
def ftP (w : World) (v : Value) : Nat := match v with | .pointer (some a) => ftN w a.block | _ => 0
set_option maxHeartbeats 1600000 in
theorem TryTime_any (A : Option Addr) (c : Nat) (l : List Bool) (t z : Int) (lo hi : Nat) (w : World) (h : RL w lo hi A l) (hh : hi ≤ w.heap.size) (hl : l.length ≤ 9223372036854775807) :
    Calls Try.prog 19 #[.slice A l.length c, .int .i64 t, .int .i64 z] w fun e w' => e = .returned (.int .i64 (Bs.tryT l t z)) ∧ Below w.heap.size w w' := by
  have c1 := canTry_any A c l t w hl
  have c2 := fun W => validTime_any z W
  cases hc : Bs.canT l t
  · rw [hc] at c1
    have C1 := Lib.hid c1
    have HV := Lib.hid (Bs.tryT_no1 (z := z) hc)
    clear c1 c2 hc
    go_enter Try.func19, Try.ntmps19
    go_wp2_with fail
    with_reducible refine (C1.out).mono ?_
    rintro e w1 ⟨rfl, rfl⟩
    go_wp2
    go_ret
    exact ⟨ret_int HV.out.symm, Below.refl _ _⟩
  · cases hz : decide (1 ≤ z ∧ z ≤ 20)
    · rw [hc] at c1
      rw [hz] at c2
      have C1 := Lib.hid c1
      have C2 := Lib.hid c2
      have HV := Lib.hid (Bs.tryT_no2 (l := l) (t := t) hz)
      clear c1 c2 hc hz
      go_enter Try.func19, Try.ntmps19
      go_wp2_with fail
      with_reducible refine (C1.out).mono ?_
      rintro e w1 ⟨rfl, rfl⟩
      go_wp2_with fail
      with_reducible refine (C2.out _).mono ?_
      rintro e w1 ⟨rfl, rfl⟩
      go_wp2
      go_ret
      exact ⟨ret_int HV.out.symm, Below.refl _ _⟩
    · have c3 := TryTask_any A c l t lo hi w h hh hl
      rw [Bs.tryN_yes hc] at c3
      rw [hc] at c1
      rw [hz] at c2
      have C1 := Lib.hid c1
      have C2 := Lib.hid c2
      have C3 := Lib.hid c3
      have HV := Lib.hid (Bs.tryT_yes hc hz)
      have hb := Bs.runN_b hc
      have h6 := (Bs.canT_iff.1 hc).2.1
      rw [decide_eq_true_eq] at hz
      have HTB := Lib.hid (fun k => Bs.timeR_b hz k)
      have HTS := Lib.hid (fun k => show Bs.timeR z (k + 1) = Bs.timeR z k + (Bs.delayN k + z) from rfl)
      have HT0 := Lib.hid (show Bs.timeR z 0 = z from rfl)
      clear c1 c2 c3 hc h
      generalize Bs.tryB l t = tb at *
      generalize Bs.runN l t = n at *
      go_enter Try.func19, Try.ntmps19
      go_wp2_with fail
      with_reducible refine (C1.out).mono ?_
      rintro e w1 ⟨rfl, rfl⟩
      go_wp2_with fail
      with_reducible refine (C2.out _).mono ?_
      rintro e w1 ⟨rfl, rfl⟩
      go_wp2_with fail
      with_reducible refine (C3.out).mono ?_
      rintro e w1 ⟨rfl, hb1⟩
      have C4 := Lib.hid (firstTry_any w1)
      have HB1 := Lib.hid hb1
      have s1 := hb1.size
      clear hb1 C1 C2 C3
      go_wp2_with fail
      with_reducible refine (C4.out).mono ?_
      rintro e w2 ⟨rfl, hb2⟩
      have hb02 := HB1.out.trans (hb2.mono s1)
      have s2 := hb02.size
      have B1 := Lib.hid (show FT (w2.alloc (.cells #[.int .i64 1, .int .i64 2] 47)) w2.heap.size 1 2 from Blk.new w2 _ _)
      have HB := Lib.hid (hb02.alloc s2 (.cells #[.int .i64 1, .int .i64 2] 47))
      clear C4 hb2 hb02 HB1
      go_wp2
      go_loopw [9, 10] (fun sv pv wr => ∃ (k b : Nat), k ≤ n - 1 ∧ sv = .int .i64 (Bs.timeR z k) ∧ pv = .pointer (some ⟨b, 0, none⟩) ∧ w.heap.size ≤ b ∧ FT wr b ((k : Int) + 1) (Bs.delayN k) ∧ Below w.heap.size w wr) (fun _ pv wr => n + 1 - ftP wr pv)
      case atStart => exact ⟨0, w2.heap.size, Nat.zero_le _, by rw [HT0.out], rfl, s2, B1.out, HB.out⟩
      case round =>
        obtain ⟨k, b, hk, rfl, rfl, hbl, hft, hbr⟩ := hrel
        clear B1 HB
        have k0 : (World.cell? _ ⟨b, 0, none⟩) = some (.int .i64 ((k : Int) + 1)) := Blk.cell hft 0
        have k1 : (World.cell? _ ⟨b, 1, none⟩) = some (.int .i64 (Bs.delayN k)) := Blk.cell hft 1
        have sr := hbr.size
        by_cases hlt : k + 1 < n
        · have hd := Bs.delayN_b k
          have hTB := HTB.out k
          have hTB2 := HTB.out (k + 1)
          have hTS := HTS.out k
          have C2 := Lib.hid (fun W => next_any ((k : Int) + 1) (Bs.delayN k) W (by omega) (by omega))
          have HE := Lib.hid (show min (2 * Bs.delayN k) 20 = Bs.delayN (k + 1) from rfl)
          have M1 := Lib.hid hft.num
          have ha2 := hbr.alloc sr (.cells #[.int .i64 ((k : Int) + 1), .int .i64 (Bs.delayN k)] 47)
          have b3 : FT (wr.alloc (.cells #[.int .i64 ((k : Int) + 1), .int .i64 (Bs.delayN k)] 47)) wr.heap.size ((k : Int) + 1) (Bs.delayN k) := Blk.new wr _ _
          have hlw := Blk.lt b3
          have H3 := Lib.hid b3
          have HA2 := Lib.hid ha2
          have d1 : (k : Int) + 1 < (n : Int) := by omega
          have HTS := Lib.hid hTS
          clear b3 ha2 hft hbr HTB
          generalize Bs.timeR z k = sk at *
          generalize Bs.delayN k = d at *
          have hx1 : IntKind.i64.wrap (d + z) = d + z := IntWalk.i64_in _ ⟨by omega, by omega⟩
          have hx2 : IntKind.i64.wrap (sk + (d + z)) = sk + (d + z) := IntWalk.i64_in _ ⟨by omega, by omega⟩
          go_wp2_with fail
          with_reducible refine (C2.out _).mono ?_
          rintro e w5 ⟨rfl, hb5⟩
          have h5 : FT w5 wr.heap.size ((k : Int) + 1) d := Blk.below H3.out hb5 hlw
          have e0 : w5.cell? ⟨wr.heap.size, 0, none⟩ = some (.int .i64 ((k : Int) + 1)) := Blk.cell h5 0
          have e1 : w5.cell? ⟨wr.heap.size, 1, none⟩ = some (.int .i64 d) := Blk.cell h5 1
          have g0 := Blk.frozen h5 0
          have g1 := Blk.frozen h5 1
          have h6 := ft_set h5 ((k : Int) + 1 + 1) (min (2 * d) 20)
          have HB6 := Lib.hid (((HA2.out.trans (hb5.mono HA2.out.size)).setCell (p := ⟨wr.heap.size, 0, none⟩) sr (.int .i64 ((k : Int) + 1 + 1))).setCell (p := ⟨wr.heap.size, 1, none⟩) sr (.int .i64 (min (2 * d) 20)))
          rw [HE.out] at h6 HB6 ⊢
          have H6 := Lib.hid h6
          have M6 := Lib.hid h6.num
          clear h5 h6 hb5 C2 k0 k1 HE hd
          go_wp2
          go_roundw
          case rel => exact ⟨k + 1, wr.heap.size, by omega, by rw [HTS.out], rfl, sr, by rw [show ((k + 1 : Nat) : Int) + 1 = (k : Int) + 1 + 1 from by omega]; exact H6.out, HB6.out⟩
          case measure => unfold ftP; simp only; rw [M1.out, M6.out]; omega
        · have hkn : k = n - 1 := by omega
          have HT := Lib.hid (show Bs.timeR z k = Bs.tryT l t z from by rw [HV.out, hkn])
          have HB9 := Lib.hid hbr
          have d1 : ¬ (k : Int) + 1 < (n : Int) := by omega
          clear hbr hkn
          go_wp2
          go_ret
          exact ⟨ret_int HT.out, HB9.out⟩
theorem IsFlaky_any (A : Option Addr) (c : Nat) (l : List Bool) (t : Int) (lo hi : Nat) (w : World) (h : RL w lo hi A l) (hh : hi ≤ w.heap.size) (hl : l.length ≤ 9223372036854775807) :
    Calls Try.prog 22 #[.slice A l.length c, .int .i64 t] w fun e w' => e = .returned (.bool (Bs.flakB l t)) ∧ Below w.heap.size w w' := by
  have C1 := Lib.hid (TryTask_any A c l t lo hi w h hh hl)
  have HV := Lib.hid (show Bs.flakB l t = (Bs.tryB l t && decide (1 < Bs.tryN l t)) from rfl)
  clear h
  generalize Bs.tryB l t = tb at *
  generalize Bs.tryN l t = n at *
  go_enter Try.func22, Try.ntmps22
  go_wp2_with fail
  with_reducible refine (C1.out).mono ?_
  rintro e w1 ⟨rfl, hb1⟩
  have HB1 := Lib.hid hb1
  clear hb1 C1
  cases tb
  · go_wp2
    go_ret
    exact ⟨ret_bool (by rw [HV.out]; rfl), HB1.out⟩
  · go_wp2
    go_ret
    exact ⟨ret_bool (by rw [HV.out]; simp), HB1.out⟩
end Go.Proofs.Ytoggbndpjcfmiaa
