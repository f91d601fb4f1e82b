/-
  WALKS: best orders, best times, of the model.
-/
import Derived.Test.YtgpmnfnliifegaaK19
import Derived.Test.YtgpmnfnliifegaaR30
import Derived.Test.YtgpmnfnliifegaaK24
namespace Go.Proofs.Ytgpmnfnliifegaa
open Go.RowKit
theorem orderEnd_any (A : Option Addr) (c : Nat) (g : List Bs.T) (A1 : Option Addr) (c1 : Nat) (m : List Int) (wk : Int) (lo hi l1 h1 : Nat) (w : World) (h : RG w lo hi A g) (hh : hi ≤ w.heap.size) (hm : RI w l1 h1 A1 m) (hh1 : h1 ≤ w.heap.size) (hF : Bs.fine g = true) (hroom : Bs.roomOk m = true) (hw1 : 1 ≤ wk) :
    (∀ (A2 : Option Addr) (c2 : Nat) (l : List Int) (l2 h2 : Nat) W, Below w.heap.size w W → RI W l2 h2 A2 l → h2 ≤ W.heap.size → Bs.isOrd g l = true → Calls Try.prog 72 #[.slice A g.length c, .slice A1 m.length c1, .int .i64 wk, .slice A2 l.length c2] W (RetI W (Bs.osK g m wk l l.length))) ∧
    (∀ (A2 : Option Addr) (c2 : Nat) (l : List Int) (l2 h2 : Nat) W, Below w.heap.size w W → RI W l2 h2 A2 (Bs.osK g m wk l l.length) → Bs.isOrd g l = true → Calls Try.prog 71 #[.slice A g.length c, .slice A2 (Bs.osK g m wk l l.length).length c2] W fun e w' => e = .returned (.int .i64 (Bs.enO g m wk l)) ∧ Below W.heap.size W w') := by
  constructor
  · intro A2 c2 l l2 h2 W hb hr hh2 ho
    exact orderS_any A c g A1 c1 m wk A2 c2 l lo hi l1 h1 l2 h2 W (h.below hb hh) (Nat.le_trans hh hb.size) (hm.below hb hh1) (Nat.le_trans hh1 hb.size) hr hh2 hF hroom hw1 ho
  · intro A2 c2 l l2 h2 W hb hr ho
    have hp := Bs.Pla.all (m := m) (wk := wk) hF hroom hw1 ho l.length (Nat.le_refl _)
    have hsl := hp.len
    have h8 := Bs.fine_len hF
    refine (endOfS_any A c g A2 c2 (Bs.osK g m wk l l.length) lo hi l2 h2 W (h.below hb hh) hr hF (by omega) (by omega) (fun i _ => by have := hp.b hF i; omega)).mono ?_
    rintro e w' ⟨rfl, n, rfl⟩
    exact ⟨rfl, (Below.refl _ _).drewN n⟩
set_option maxRecDepth 20000 in
set_option maxHeartbeats 1600000 in
theorem BestOrderS_any (A : Option Addr) (c : Nat) (g : List Bs.T) (A1 : Option Addr) (c1 : Nat) (m : List Int) (wk : Int) (lo hi l1 h1 : Nat) (w : World) (h : RG w lo hi A g) (hh : hi ≤ w.heap.size) (hm : RI w l1 h1 A1 m) (hh1 : h1 ≤ w.heap.size) (hl : g.length ≤ 9223372036854775807) (hml : m.length ≤ 9223372036854775807) :
    Calls Try.prog 73 #[.slice A g.length c, .slice A1 m.length c1, .int .i64 wk] w (RetI w (Bs.bestL g m wk)) := by
  have q1 := validSearchS_any A c g A1 c1 m wk lo hi l1 h1 w h hh hm hh1 hl hml
  cases hv : Bs.seaV g m wk
  · rw [hv] at q1
    have C1 := Lib.hid q1
    have HV := Lib.hid (Bs.bestL_no hv)
    clear q1 hv h hm
    go_enter Try.func73, Try.ntmps73
    go_wp2_with fail
    with_reducible refine (C1.out).mono ?_
    rintro e w1 ⟨rfl, hb⟩
    have HB := Lib.hid hb
    clear hb
    go_wp2
    go_ret
    exact RetI.nil HB.out HV.out
  obtain ⟨hcan, h5⟩ := Bs.sea_can hv
  obtain ⟨hval, hroom, hw1, hw4⟩ := Bs.canV_iff.1 hcan
  have hF := valid_fine hval
  rw [hv] at q1
  have C1 := Lib.hid q1
  have HV := Lib.hid (Bs.bestL_yes hv)
  have C2 := Lib.hid (fun W (hb : Below w.heap.size w W) => ordersS_any A c g lo hi (by omega) (fun i hi => by have := Bs.fine_needs_len hF hi; omega) g.length (some ⟨W.heap.size, 0, none⟩) 0 [] W.heap.size W.heap.size (W.alloc (.cells #[] 3)) ((h.below hb hh).below ((Below.refl W.heap.size W).alloc (Nat.le_refl _) _) (Nat.le_trans hh hb.size)) (Nat.le_trans (Nat.le_trans hh hb.size) (by simp)) (fun j hj => by simp at hj) (by simp) (by simp))
  obtain ⟨c3, c4⟩ := orderEnd_any A c g A1 c1 m wk lo hi l1 h1 w h hh hm hh1 hF hroom hw1
  have C3 := Lib.hid c3
  have C4 := Lib.hid c4
  have HPOS := Lib.hid (Bs.ords_pos hval g.length [] (by simp) (by simp) (by simp))
  have HOB := Lib.hid (Bs.ords_b (g := g) (by omega) (r := g.length) (by omega) []).1
  have HORD := Lib.hid (fun o (ho : o ∈ Bs.ordsF g g.length []) => Bs.ords_ord ho)
  have HOL := Lib.hid (fun o (ho : o ∈ Bs.ordsF g g.length []) => (Bs.ords_mem g.length [] (by simp) o ho).1)
  have HBC := Lib.hid (show Bs.bestC g m wk = Bs.bstK g m wk (Bs.ordsF g g.length []) ((Bs.ordsF g g.length []).length - 1) from rfl)
  clear q1 hv h hm hcan hval hroom hF c3 c4
  go_enter Try.func73, Try.ntmps73
  go_wp2_with fail
  with_reducible refine (C1.out).mono ?_
  rintro e w1 ⟨rfl, hb⟩
  have C5 := Lib.hid (C2.out w1 hb)
  have HB := Lib.hid (hb.alloc hb.size (.cells #[] 3))
  clear hb C2
  simp only [List.length_nil] at C5
  go_wp2_with fail
  with_reducible refine (C5.out).mono ?_
  rintro e W0 ⟨⟨A5, c5, vs, rfl, hos, hsl⟩, hb2⟩
  have hb0 := HB.out.trans (hb2.mono HB.out.size)
  generalize Bs.ordsF g g.length [] = Ls at *
  have hvl := hsl.1
  have hpos := HPOS.out
  have hob := HOB.out
  have hcell : ∀ k (hk : k < Ls.length), ∃ b N cN, A5 = some ⟨b, 0, none⟩ ∧ b < W0.heap.size ∧ W0.cell? ⟨b, k, none⟩ = some (.slice N (Bs.nth Ls k).length cN) ∧ RI W0 (w1.alloc (.cells #[] 3)).heap.size W0.heap.size N (Bs.nth Ls k) := by
    intro k hk
    obtain ⟨b, e, _, hbl, hc⟩ := hos.at_ (k := k) (by omega)
    obtain ⟨N, cN, hv, ho⟩ := hsl.2 k hk
    rw [List.getElem?_eq_getElem (by omega)] at hv
    rw [Option.some.inj hv] at hc
    rw [Bs.nth_at hk]
    exact ⟨b, N, cN, e, hbl, hc, ho.ri⟩
  obtain ⟨b, N0, cN0, rfl, hbl, hc0, hr0⟩ := hcell 0 (by omega)
  have HCELL := Lib.hid (show ∀ k, k < Ls.length → ∃ N cN, W0.cell? ⟨b, k, none⟩ = some (.slice N (Bs.nth Ls k).length cN) ∧ RI W0 (w1.alloc (.cells #[] 3)).heap.size W0.heap.size N (Bs.nth Ls k) from fun k hk => by
    obtain ⟨b', N, cN, e, _, hc, hr⟩ := hcell k hk
    injection e with e
    injection e with e1 _ _
    subst e1
    exact ⟨N, cN, hc, hr⟩)
  have HLB := Lib.hid (show ∀ k, k < Ls.length → (Bs.nth Ls k).length ≤ 8 ∧ Bs.isOrd g (Bs.nth Ls k) = true from fun k hk => by
    rw [Bs.nth_at hk]
    have := HOL.out _ (List.getElem_mem hk)
    simp only [List.length_nil] at this
    exact ⟨by omega, HORD.out _ (List.getElem_mem hk)⟩)
  have HBM := Lib.hid (show ∀ k, k < Ls.length → (Bs.bstK g m wk Ls k).length ≤ 8 from fun k hk => by
    have := HOL.out _ (Bs.bstK_mem (g := g) (m := m) (wk := wk) k hk)
    simp only [List.length_nil] at this
    omega)
  have s0 := hb0.size
  have HB0 := Lib.hid hb0
  have HR0 := Lib.hid hr0
  have HC0 := Lib.hid hc0
  have HVL := Lib.hid hvl
  have i0 : (0 : Int) < (vs.length : Int) := by omega
  have C6 := Lib.hid (C3.out N0 cN0 (Bs.nth Ls 0) _ _ W0 hb0 hr0 (Nat.le_refl _) (HLB.out 0 (by omega)).2)
  clear hos hsl hb2 hb0 hcell hr0 C5 HB HORD HOL
  generalize (w1.alloc (.cells #[] 3)).heap.size = B0 at *
  go_wp2_with fail
  with_reducible refine (C6.out).mono ?_
  rintro e w2 hr2
  obtain ⟨⟨A3, c3, rfl, o3⟩, hb3⟩ := hr2
  have q3 := o3.ri
  have hb03 := HB0.out.trans (hb3.mono s0)
  have C7 := Lib.hid (C4.out A3 c3 (Bs.nth Ls 0) _ _ w2 hb03 q3 (HLB.out 0 (by omega)).2)
  have HB3 := Lib.hid hb3
  clear q3 o3 hb3 hb03 C6
  go_wp2_with fail
  with_reducible refine (C7.out).mono ?_
  rintro e w3 ⟨rfl, hb4⟩
  have HB4 := Lib.hid (HB3.out.trans (hb4.mono HB3.out.size))
  clear hb4 C7 HB3 hc0
  go_wp2
  go_loopw [8, 9, 10] (fun vo vn i wr => ∃ (k : Nat) (N : Option Addr) (cN : Nat) (o : List Int), k + 1 ≤ Ls.length ∧ i = .int .i64 ((k : Int) + 1) ∧ o = Bs.bstK g m wk Ls k ∧ vo = .slice N o.length cN ∧ vn = .int .i64 (Bs.enO g m wk o) ∧ RI W0 B0 W0.heap.size N o ∧ Below W0.heap.size W0 wr) (fun _ _ i _ => Ls.length - (intOf i).toNat)
  case atStart => exact ⟨0, N0, cN0, _, by omega, rfl, rfl, rfl, rfl, HR0.out, HB4.out⟩
  case round =>
    obtain ⟨k, N, cN, o, hk, rfl, ho, rfl, rfl, hR, hb⟩ := hrel
    clear HR0 HB4 HC0
    have s1 := hb.size
    have hvl := HVL.out
    have hob := HOB.out
    by_cases hlt : k + 1 < Ls.length
    · obtain ⟨N2, cN2, hc, hr⟩ := HCELL.out (k + 1) hlt
      replace hc := (hb.cell (p := ⟨b, k + 1, none⟩) hbl).trans hc
      have hb01 := HB0.out.trans (hb.mono s0)
      have hrW := hr.below hb (Nat.le_refl _)
      have hln := (HLB.out (k + 1) hlt).1
      have C6 := Lib.hid (C3.out N2 cN2 (Bs.nth Ls (k + 1)) _ _ wr hb01 hrW s1 (HLB.out (k + 1) hlt).2)
      have C7 := Lib.hid (fun A3 c3 lo3 hi3 W h1 h2 => C4.out A3 c3 (Bs.nth Ls (k + 1)) lo3 hi3 W h1 h2 (HLB.out (k + 1) hlt).2)
      have HYES := Lib.hid (fun h => Bs.bstK_yes (g := g) (m := m) (wk := wk) (Ls := Ls) (k := k) h)
      have HNO := Lib.hid (fun h => Bs.bstK_no (g := g) (m := m) (wk := wk) (Ls := Ls) (k := k) h)
      rw [← ho] at HYES HNO
      have HRN := Lib.hid hr
      have HRO := Lib.hid hR
      have HB1 := Lib.hid hb
      have HB01 := Lib.hid hb01
      have HO := Lib.hid ho
      obtain ⟨E1, hE1⟩ : ∃ E1, E1 = Bs.enO g m wk (Bs.nth Ls (k + 1)) := ⟨_, rfl⟩
      obtain ⟨E0, hE0⟩ : ∃ E0, E0 = Bs.enO g m wk o := ⟨_, rfl⟩
      rw [← hE1] at C7 HYES HNO
      rw [← hE0] at HYES HNO ⊢
      obtain ⟨O2, hO2⟩ : ∃ O2, O2 = Bs.nth Ls (k + 1) := ⟨_, rfl⟩
      rw [← hO2] at hc hln C6 C7 HYES HRN hE1
      have HE1 := Lib.hid hE1
      have HE0 := Lib.hid hE0
      have j0 : (0 : Int) ≤ (k : Int) + 1 := by omega
      have j1 : (k : Int) + 1 < (vs.length : Int) := by omega
      have j2 : decide ((k : Int) + 1 < (vs.length : Int)) = true := by simp; omega
      clear hR hb hb01 hrW hr ho hE1 hE0 hO2
      go_wp2_with fail
      with_reducible refine (C6.out).mono ?_
      rintro e w2 hr2
      obtain ⟨⟨A3, c3, rfl, o3⟩, hb3⟩ := hr2
      have q3 := o3.ri
      have C8 := Lib.hid (C7.out A3 c3 _ _ w2 (HB01.out.trans (hb3.mono HB01.out.size)) q3)
      have HBX := Lib.hid hb3
      have HB3 := Lib.hid (HB1.out.trans (hb3.mono s1))
      clear q3 o3 hb3 C6 C7
      go_wp2_with fail
      with_reducible refine (C8.out).mono ?_
      rintro e w3 ⟨rfl, hb4⟩
      have HB4 := Lib.hid (HB3.out.trans (hb4.mono HB3.out.size))
      have hc4 := (hb4.cell (p := ⟨b, k + 1, none⟩) (Nat.lt_of_lt_of_le hbl (Nat.le_trans s1 HBX.out.size))).trans ((HBX.out.cell (p := ⟨b, k + 1, none⟩) (Nat.lt_of_lt_of_le hbl s1)).trans hc)
      clear hb4 C8
      by_cases hE : E1 < E0
      · have d1 : decide (E1 < E0) = true := by simp [hE]
        have HS := Lib.hid (HYES.out (by omega))
        clear hE hc
        go_wp2
        go_roundw
        case rel => exact ⟨k + 1, N2, cN2, O2, by omega, by go_num, HS.out.symm, rfl, by rw [HE1.out], HRN.out, HB4.out⟩
        case measure => simp [intOf]; omega
      · have d1 : decide (E1 < E0) = false := by simp; omega
        have HS := Lib.hid (HNO.out (by omega))
        clear hE hc
        go_wp2
        go_roundw
        case rel => exact ⟨k + 1, N, cN, o, by omega, by go_num, by rw [HS.out], rfl, by rw [HE0.out], HRO.out, HB4.out⟩
        case measure => simp [intOf]; omega
    · obtain ⟨n, hn⟩ : ∃ n, n = Ls.length := ⟨_, rfl⟩
      have hkn : k = Ls.length - 1 := by omega
      have HBE := Lib.hid (show o = Bs.bestL g m wk from by rw [HV.out, HBC.out, ho, hkn])
      have hol : o.length ≤ 8 := by rw [ho]; exact HBM.out k (by omega)
      have C6 := Lib.hid (copyInts_ri N cN o _ _ wr (hR.below hb (Nat.le_refl _)) s1 (by omega))
      have j2 : decide ((k : Int) + 1 < (vs.length : Int)) = false := by simp; omega
      have HB1 := Lib.hid (HB0.out.trans (hb.mono s0))
      clear hR hb ho
      go_wp2_with fail
      with_reducible refine (C6.out).mono ?_
      intro e w2 hr
      obtain ⟨⟨A3, c3, rfl, ho3⟩, hb3⟩ := RetI.after HB1.out hr HBE.out
      go_wp2
      go_ret
      exact ⟨⟨A3, c3, rfl, ho3⟩, hb3⟩
theorem BestTimeS_any (A : Option Addr) (c : Nat) (g : List Bs.T) (A1 : Option Addr) (c1 : Nat) (m : List Int) (wk : Int) (lo hi l1 h1 : Nat) (w : World) (h : RG w lo hi A g) (hh : hi ≤ w.heap.size) (hm : RI w l1 h1 A1 m) (hh1 : h1 ≤ w.heap.size) (hl : g.length ≤ 9223372036854775807) (hml : m.length ≤ 9223372036854775807) :
    Calls Try.prog 31 #[.slice A g.length c, .slice A1 m.length c1, .int .i64 wk] w fun e w' => e = .returned (.int .i64 (Bs.timeL g m wk)) ∧ Below w.heap.size w w' := by
  have q1 := validSearchS_any A c g A1 c1 m wk lo hi l1 h1 w h hh hm hh1 hl hml
  cases hv : Bs.seaV g m wk
  · rw [hv] at q1
    have C1 := Lib.hid q1
    have HV := Lib.hid (Bs.timeL_no hv)
    clear q1 hv h hm
    go_enter Try.func31, Try.ntmps31
    go_wp2_with fail
    with_reducible refine (C1.out).mono ?_
    rintro e w1 ⟨rfl, hb⟩
    have HB := Lib.hid hb
    clear hb
    go_wp2
    go_ret
    exact ⟨ret_int HV.out.symm, HB.out⟩
  obtain ⟨hcan, h5⟩ := Bs.sea_can hv
  obtain ⟨hval, hroom, hw1, hw4⟩ := Bs.canV_iff.1 hcan
  have hF := valid_fine hval
  rw [hv] at q1
  have C1 := Lib.hid q1
  have HV := Lib.hid (Bs.timeL_yes hv)
  have q2 := fun W (hb : Below w.heap.size w W) => BestOrderS_any A c g A1 c1 m wk lo hi l1 h1 W (h.below hb hh) (Nat.le_trans hh hb.size) (hm.below hb hh1) (Nat.le_trans hh1 hb.size) hl hml
  rw [Bs.bestL_yes hv] at q2
  have C2 := Lib.hid q2
  obtain ⟨c3, c4⟩ := orderEnd_any A c g A1 c1 m wk lo hi l1 h1 w h hh hm hh1 hF hroom hw1
  have hor := Bs.ords_ord (Bs.best_ord (m := m) (wk := wk) hval)
  have C3 := Lib.hid (fun A2 c2 l2 h2 W hb hr hh2 => c3 A2 c2 (Bs.bestC g m wk) l2 h2 W hb hr hh2 hor)
  have C4 := Lib.hid (fun A2 c2 l2 h2 W hb hr => c4 A2 c2 (Bs.bestC g m wk) l2 h2 W hb hr hor)
  clear q1 q2 hv h hm hcan hval hroom hF c3 c4 hor
  generalize Bs.bestC g m wk = O at *
  go_enter Try.func31, Try.ntmps31
  go_wp2_with fail
  with_reducible refine (C1.out).mono ?_
  rintro e w1 ⟨rfl, hb⟩
  have C5 := Lib.hid (C2.out w1 hb)
  have HB := Lib.hid hb
  clear hb C2
  go_wp2_with fail
  with_reducible refine (C5.out).mono ?_
  rintro e w2 hr2
  obtain ⟨⟨A3, c3, rfl, o3⟩, hb3⟩ := hr2
  have hb2 := HB.out.trans (hb3.mono HB.out.size)
  have C6 := Lib.hid (C3.out A3 c3 _ _ w2 hb2 o3.ri (Nat.le_refl _))
  have HB2 := Lib.hid hb2
  clear hb3 hb2 o3 C5 C3
  go_wp2_with fail
  with_reducible refine (C6.out).mono ?_
  rintro e w3 hr3
  obtain ⟨⟨A4, c4, rfl, o4⟩, hb4⟩ := hr3
  have hb3 := HB2.out.trans (hb4.mono HB2.out.size)
  have C7 := Lib.hid (C4.out A4 c4 _ _ w3 hb3 o4.ri)
  have HB3 := Lib.hid hb3
  clear hb3 hb4 o4 C6 C4
  go_wp2_with fail
  with_reducible refine (C7.out).mono ?_
  rintro e w4 ⟨rfl, hb5⟩
  have HB4 := Lib.hid (HB3.out.trans (hb5.mono HB3.out.size))
  clear hb5 C7
  go_wp2
  go_ret
  exact ⟨ret_int HV.out.symm, HB4.out⟩
end Go.Proofs.Ytgpmnfnliifegaa
