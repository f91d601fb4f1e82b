/-
  WALKS: what is over by a log, of the model.
-/
import Derived.Test.YteelckhkcfokhaaK29
namespace Go.Proofs.Yteelckhkcfokhaa
open Go.RowKit
theorem ovN_has (l : List Bs.E) (now t : Int) (k : Nat) : (Bs.ovN l now (k + 1)).contains t = (((Bs.ge l k).task == t && (Bs.ge l k).over && decide ((Bs.ge l k).at_ ≤ now)) || (Bs.ovN l now k).contains t) := by
  have h : Bs.ovN l now (k + 1) = if (Bs.ge l k).over && decide ((Bs.ge l k).at_ ≤ now) then Bs.ovN l now k ++ [(Bs.ge l k).task] else Bs.ovN l now k := rfl
  rw [h]
  cases (Bs.ge l k).over
  · simp
  · by_cases hx : (Bs.ge l k).at_ ≤ now
    · simp only [decide_eq_true hx, Bool.and_self, if_true, Bool.and_true]
      rw [Bool.eq_iff_iff]
      simp
      constructor
      · rintro (h1 | h1)
        · exact Or.inr h1
        · exact Or.inl h1.symm
      · rintro (h1 | h1)
        · exact Or.inr h1.symm
        · exact Or.inl h1
    · simp [decide_eq_false hx]
theorem ovN_once {g : List Bs.T} {l : List Bs.E} {now t : Int} {k : Nat} (he : Bs.evOk g l k = true) (h : ((Bs.ge l k).task == t && (Bs.ge l k).over && decide ((Bs.ge l k).at_ ≤ now)) = true) : (Bs.ovN l now k).contains t = false := by
  rw [Bool.and_eq_true, Bool.and_eq_true, beq_iff_eq] at h
  have h1 := (Bs.fitE_over h.1.2).1 (Bs.evOk_iff.1 he).2.2.2.2.2
  rw [Bool.eq_false_iff]
  intro hc
  exact h1.2.1 (Bs.ovN_sub k _ (by rw [h.1.1]; simpa using hc))
set_option maxRecDepth 20000 in
set_option maxHeartbeats 3200000 in
theorem DoneByS_any (A : Option Addr) (c : Nat) (g : List Bs.T) (A1 : Option Addr) (c1 : Nat) (l : List Bs.E) (now : Int) (lo hi l1 h1 : Nat) (w : World) (h : RG w lo hi A g) (hh : hi ≤ w.heap.size) (hm : RE w l1 h1 A1 l) (hh1 : h1 ≤ w.heap.size) (hl : g.length ≤ 9223372036854775807) (hll : l.length ≤ 9223372036854775807) :
    Calls Try.prog 49 #[.slice A g.length c, .slice A1 l.length c1, .int .i64 now] w (RetI w (Bs.doneL g l now)) := by
  have hb0 : Below w.heap.size w (w.alloc (.cells #[] 3)) := (Below.refl _ _).alloc (Nat.le_refl _) _
  have q1 := validLogS_any A c g A1 c1 l lo hi l1 h1 _ (h.below hb0 hh) (by simp; omega) (hm.below hb0 hh1) (by simp; omega) hl hll
  cases hv : Bs.logV g l
  · rw [hv] at q1
    have C1 := Lib.hid q1
    have HB0 := Lib.hid hb0
    have HV := Lib.hid (Bs.doneL_no (now := now) hv)
    clear q1 hv h hm hb0
    go_enter Try.func49, Try.ntmps49
    go_wp2_with fail
    with_reducible refine (C1.out).mono ?_
    rintro e w1 ⟨rfl, hb⟩
    have HB := Lib.hid (HB0.out.trans (hb.mono HB0.out.size))
    clear hb
    go_wp2
    go_ret
    exact RetI.nil HB.out HV.out
  rw [hv] at q1
  have C1 := Lib.hid q1
  obtain ⟨hgv, h16, hev⟩ := Bs.logV_iff.1 hv
  have h8 := Bs.fine_len (valid_fine hgv)
  have HV := Lib.hid (show Bs.pick g.length (fun t => (Bs.ovN l now l.length).contains (t : Int)) = Bs.doneL g l now from (Bs.doneL_yes hv).symm)
  have HCS := Lib.hid (fun (t : Int) k => ovN_has l now t k)
  have HON := Lib.hid (fun (t : Int) k (hk : k < l.length) => ovN_once (now := now) (t := t) (Bs.evK_at hk hev))
  have HPS := Lib.hid (fun n => Bs.pick_succ n (fun t => (Bs.ovN l now l.length).contains (t : Int)))
  have HPL := Lib.hid (fun n => Bs.pick_len n (fun t => (Bs.ovN l now l.length).contains (t : Int)))
  have HR := Lib.hid hm
  have HO0 := Lib.hid (OI.new w w.heap.size (Nat.le_refl _))
  have HB0 := Lib.hid hb0
  clear q1 hv h hm hgv hev hb0
  go_enter Try.func49, Try.ntmps49
  go_wp2_with fail
  with_reducible refine (C1.out).mono ?_
  rintro e w1 ⟨rfl, hb⟩
  have HO1 := Lib.hid (HO0.out.below hb (Nat.le_refl _))
  have HB1 := Lib.hid (HB0.out.trans (hb.mono HB0.out.size))
  clear hb HO0 HB0 C1
  go_wp2
  go_loopw [7, 8] (fun v i wr => ∃ (t : Nat) (A' : Option Addr) (c' : Nat) (r : List Int), t ≤ g.length ∧ i = .int .i64 (t : Int) ∧ v = .slice A' r.length c' ∧ r = Bs.pick t (fun t => (Bs.ovN l now l.length).contains (t : Int)) ∧ OI wr w.heap.size A' c' r ∧ Below w.heap.size w wr) (fun _ i _ => g.length - (intOf i).toNat)
  case atStart => exact ⟨0, _, _, [], Nat.zero_le _, rfl, rfl, rfl, HO1.out, HB1.out⟩
  case round =>
    obtain ⟨t, A', c', r, ht, rfl, rfl, hr, hO, hb⟩ := hrel
    clear HO1 HB1
    have hrl := HPL.out t
    rw [← hr] at hrl
    have HOr := Lib.hid hO
    have HBr := Lib.hid hb
    clear hO hb
    by_cases hlt : t < g.length
    · have hps := HPS.out t
      rw [← hr] at hps
      have HPr := Lib.hid hps
      clear hps hr
      go_wp2
      go_loopw [7, 9] (fun v i wr => ∃ (k : Nat) (A' : Option Addr) (c' : Nat) (q : List Int), k ≤ l.length ∧ i = .int .i64 (k : Int) ∧ v = .slice A' q.length c' ∧ q = (if (Bs.ovN l now k).contains (t : Int) then r ++ [(t : Int)] else r) ∧ OI wr w.heap.size A' c' q ∧ Below w.heap.size w wr) (fun _ i _ => l.length - (intOf i).toNat)
      case atStart => exact ⟨0, _, _, r, Nat.zero_le _, rfl, rfl, rfl, HOr.out, HBr.out⟩
      case round =>
        obtain ⟨k, A', c', q, hk, rfl, rfl, hq, hO, hb⟩ := hrel
        clear HOr HBr
        have hql : q.length ≤ 100 := by rw [hq]; split <;> first | (simp; omega) | omega
        by_cases hkl : k < l.length
        · obtain ⟨b, o, rfl, _, _, k0, k1, k2⟩ := (HR.out.below hb hh1).at_ hkl
          have hcs := HCS.out (t : Int) k
          have hon := HON.out (t : Int) k hkl
          generalize (Bs.ovN l now k).contains (t : Int) = cn at *
          generalize hcn : (Bs.ovN l now (k + 1)).contains (t : Int) = cn' at *
          have HCN := Lib.hid hcn
          clear hcn
          generalize (Bs.ge l k).at_ = xa at *
          generalize (Bs.ge l k).task = xt at *
          generalize (Bs.ge l k).over = xo at *
          have HOr := Lib.hid hO
          have HBr := Lib.hid hb
          have j0 : (0 : Int) ≤ (k : Int) := by omega
          have j1 : (k : Int) < (l.length : Int) := by omega
          clear hO hb HCS HON HPr HPS HPL
          by_cases hxt : xt = (t : Int)
          rotate_left
          · have e1 : (xt == (t : Int)) = false := by rw [beq_eq_false_iff_ne]; exact hxt
            rw [e1, Bool.false_and, Bool.false_and] at hcs
            clear hxt
            have HQr := Lib.hid (show q = (if cn' then r ++ [(t : Int)] else r) from by rw [hcs]; simpa using hq)
            clear hcs hon hq
            go_wp2
            go_roundw
            case rel => exact ⟨k + 1, _, _, q, by omega, by go_num, rfl, by rw [HCN.out]; exact HQr.out, HOr.out, HBr.out⟩
            case measure => simp [intOf]; omega
          have e1 : (xt == (t : Int)) = true := by rw [beq_iff_eq]; exact hxt
          rw [e1, Bool.true_and] at hcs hon
          clear hxt
          cases xo
          · rw [Bool.false_and] at hcs
            have HQr := Lib.hid (show q = (if cn' then r ++ [(t : Int)] else r) from by rw [hcs]; simpa using hq)
            clear hcs hon hq
            go_wp2
            go_roundw
            case rel => exact ⟨k + 1, _, _, q, by omega, by go_num, rfl, by rw [HCN.out]; exact HQr.out, HOr.out, HBr.out⟩
            case measure => simp [intOf]; omega
          rw [Bool.true_and] at hcs hon
          by_cases hxa : xa ≤ now
          rotate_left
          · have e2 : decide (xa ≤ now) = false := decide_eq_false hxa
            rw [e2] at hcs
            clear hxa
            have HQr := Lib.hid (show q = (if cn' then r ++ [(t : Int)] else r) from by rw [hcs]; simpa using hq)
            clear hcs hon hq
            go_wp2
            go_roundw
            case rel => exact ⟨k + 1, _, _, q, by omega, by go_num, rfl, by rw [HCN.out]; exact HQr.out, HOr.out, HBr.out⟩
            case measure => simp [intOf]; omega
          have e2 : decide (xa ≤ now) = true := decide_eq_true hxa
          rw [e2] at hcs hon
          have hcf := hon rfl
          rw [hcf] at hq
          have hqr : q = r := by simpa using hq
          have HQr := Lib.hid (show q ++ [(t : Int)] = (if cn' then r ++ [(t : Int)] else r) from by rw [hcs, hqr]; rfl)
          have sr := HBr.out.size
          clear hcs hon hq hcf hqr hxa
          go_wp2_with (at_builtin; go_loud (refine push_int rfl _ _ rfl w.heap.size A' c' q (t : Int) rfl (HOr.out.alloc _) wr.heap.size 1 rfl (by simp [go_sem]) (by omega) (by simp; omega) ?_; intro A6 c6 w6 ho6 hb6 _; have HO6 := Lib.hid ho6; have HB6 := Lib.hid ((HBr.out.alloc sr (.cells #[.int .i64 (t : Int)] 3)).trans hb6); clear ho6 hb6))
          go_roundw
          case rel => exact ⟨k + 1, A6, c6, q ++ [(t : Int)], by omega, by go_num, by simp, by rw [HCN.out]; exact HQr.out, HO6.out, HB6.out⟩
          case measure => simp [intOf]; omega
        · obtain rfl : k = l.length := by omega
          have HQr := Lib.hid (hq.trans HPr.out.symm)
          have HOr := Lib.hid hO
          have HBr := Lib.hid hb
          clear hO hb hq
          go_wp2
          go_roundw
          case rel => exact ⟨t + 1, _, _, q, by omega, by go_num, rfl, HQr.out, HOr.out, HBr.out⟩
          case measure => simp [intOf]; omega
    · obtain rfl : t = g.length := by omega
      have HE := Lib.hid (hr.trans HV.out)
      clear hr
      go_wp2
      go_ret
      rw [← HE.out]
      exact ⟨⟨_, _, rfl, HOr.out⟩, HBr.out⟩
end Go.Proofs.Yteelckhkcfokhaa
