/-
  WALKS: all orders of tasks, of the model.
-/
import Derived.Test.YtoaakidapgbhhaaK4
import Derived.Test.YtoaakidapgbhhaaMem5
import Derived.Test.YtoaakidapgbhhaaK20
namespace Go.Proofs.Ytoaakidapgbhhaa
open Go.RowKit
def RetOS (w : World) (Ls : List (List Int)) (e : Ending) (w' : World) : Prop := (∃ A c vs, e = .returned (.slice A (List.length vs) c) ∧ OS w' w.heap.size A c vs ∧ SLs w' w.heap.size vs Ls) ∧ Below w.heap.size w w'
theorem okNext_split {g : List Bs.T} {l : List Int} {k : Nat} (hk : k < g.length) : Bs.okNext g l k = (!l.contains (k : Int) && g[k].needs.all fun x => l.contains x) := Bs.okNext_eq hk
set_option maxRecDepth 20000 in
set_option maxHeartbeats 1600000 in
theorem ordersS_any (A : Option Addr) (c : Nat) (g : List Bs.T) (lo hi : Nat) (h8 : g.length ≤ 8) (hnl : ∀ i (hi : i < g.length), g[i].needs.length ≤ 100) : ∀ (r : Nat) (A1 : Option Addr) (c1 : Nat) (l : List Int) (l1 h1 : Nat) (w : World), RG w lo hi A g → hi ≤ w.heap.size → RI w l1 h1 A1 l → h1 ≤ w.heap.size → l.length + r = g.length →
    Calls Try.prog 57 #[.slice A g.length c, .slice A1 l.length c1] w (RetOS w (Bs.ordsF g r l)) := by
  intro r
  induction r with
  | zero =>
    intro A1 c1 l l1 h1 w h hh hl hh1 hr
    have hq : ((l.length : Int) == (g.length : Int)) = true := by rw [beq_iff_eq]; omega
    have hq2 : (l.length == g.length) = true := by rw [beq_iff_eq]; omega
    have C1 := Lib.hid (copyInts_ri A1 c1 l l1 h1 w hl hh1 (by omega))
    clear hl h hr
    go_enter Try.func57, Try.ntmps57
    go_wp2_with fail
    with_reducible refine (C1.out).mono ?_
    rintro e w2 ⟨⟨A2, c2, rfl, ho2⟩, hb2⟩
    have s2 := hb2.size
    have HO := Lib.hid (OS.one w2 w.heap.size s2 (.slice A2 l.length c2))
    have HS := Lib.hid ((SLs.one ho2).alloc (.cells #[.slice A2 l.length c2] 25))
    have HB := Lib.hid (hb2.alloc s2 (.cells #[.slice A2 l.length c2] 25))
    clear ho2 hb2 C1
    go_wp2
    go_ret
    exact ⟨⟨some ⟨w2.heap.size, 0, none⟩, 1, [.slice A2 l.length c2], rfl, HO.out, HS.out⟩, HB.out⟩
  | succ r ih =>
    intro A1 c1 l l1 h1 w h hh hl hh1 hr
    have hq : ((l.length : Int) == (g.length : Int)) = false := by rw [beq_eq_false_iff_ne]; omega
    have hq2 : (l.length == g.length) = false := by rw [beq_eq_false_iff_ne]; omega
    have HG := Lib.hid h
    have HI := Lib.hid hl
    have HNL := Lib.hid hnl
    have CR := Lib.hid (fun (A2 : Option Addr) (c2 : Nat) (l' : List Int) (l2 h2 : Nat) W (hb : Below w.heap.size w W) (hr2 : RI W l2 h2 A2 l') (hh2 : h2 ≤ W.heap.size) (hlen : l'.length + r = g.length) => ih A2 c2 l' l2 h2 W (h.below hb hh) (Nat.le_trans hh hb.size) hr2 hh2 hlen)
    have HK := Lib.hid (Bs.ordsK_succ g r l)
    have HE := Lib.hid (Bs.ordsF_succ g r l)
    have hlb : l.length ≤ 8 := by omega
    have HLR := Lib.hid hr
    have HOB := Lib.hid (fun l' k (hk : k ≤ g.length) (hr8 : r ≤ 8) => And.intro (Bs.ords_b (g := g) h8 hr8 l').1 ((Bs.ords_b (g := g) h8 hr8 l').2 k hk))
    have HO0 := Lib.hid (OS.new w w.heap.size (Nat.le_refl _))
    have HB0 := Lib.hid ((Below.refl w.heap.size w).alloc (Nat.le_refl _) (.cells #[] 25))
    have hr8 : r ≤ 8 := by omega
    clear ih h hl hnl hr
    go_enter Try.func57, Try.ntmps57
    go_wp2
    go_loopw [5, 6] (fun vo i wr => ∃ (k : Nat) (A' : Option Addr) (c' : Nat) (vs : List Value), k ≤ g.length ∧ vo = .slice A' vs.length c' ∧ i = .int .i64 k ∧ OS wr w.heap.size A' c' vs ∧ SLs wr w.heap.size vs (Bs.ordsK g r l k) ∧ Below w.heap.size w wr) (fun _ i _ => g.length - (intOf i).toNat)
    case atStart => exact ⟨0, _, _, [], Nat.zero_le _, rfl, rfl, HO0.out, SLs.nil _ _, HB0.out⟩
    case round =>
      clear HO0 HB0
      obtain ⟨k, A', c', vs, hk, rfl, rfl, hO, hS, hb⟩ := hrel
      have s0 := hb.size
      by_cases hlt : k < g.length
      · have hIr := HI.out.below hb hh1
        have hGr := HG.out.below hb hh
        have q1 := isIn_any A1 c1 l (k : Int) l1 h1 wr hIr (by omega)
        obtain ⟨bg, og, N, cN, rfl, _, hgh, _, n1, _, _, hnc, hcN, hN⟩ := hGr k hlt
        have q2 := allDone_any N cN g[k].needs A1 c1 l lo hi l1 h1 wr hN hIr (by have := HNL.out k hlt; omega) (by omega)
        have hok := okNext_split (l := l) hlt
        have hks := HK.out k
        have HO := Lib.hid hO
        have HS := Lib.hid hS
        have HB := Lib.hid hb
        have HIr := Lib.hid hIr
        have i0 : (0 : Int) ≤ (k : Int) := by omega
        have i1 : (k : Int) < (g.length : Int) := by omega
        clear hO hS hb hIr hGr hN
        generalize l.contains (k : Int) = b1 at *
        generalize (g[k].needs.all fun x => l.contains x) = b2 at *
        have C1 := Lib.hid q1
        have C2 := Lib.hid q2
        clear q1 q2
        cases b1
        · cases b2
          · rw [hok] at hks
            have HKS := Lib.hid (show Bs.ordsK g r l (k + 1) = Bs.ordsK g r l k from by rw [hks]; simp)
            clear hks hok
            go_wp2_with fail
            with_reducible refine (C1.out).mono ?_
            rintro e w2 ⟨rfl, rfl⟩
            go_wp2_with fail
            with_reducible refine (C2.out).mono ?_
            rintro e w2 ⟨rfl, rfl⟩
            go_wp2
            go_roundw
            case rel => exact ⟨k + 1, A', c', vs, by omega, rfl, by go_num, HO.out, by rw [HKS.out]; exact HS.out, HB.out⟩
            case measure => simp [intOf]; omega
          · rw [hok] at hks
            have HKS := Lib.hid (show Bs.ordsK g r l (k + 1) = Bs.ordsK g r l k ++ Bs.ordsF g r (l ++ [(k : Int)]) from by rw [hks]; simp)
            have hob := HOB.out l k hk hr8
            have hob2 := HOB.out (l ++ [(k : Int)]) k hk hr8
            have hvl := HS.out.1
            have HVL := Lib.hid hvl
            have HOB1 := Lib.hid hob
            have HOB2 := Lib.hid hob2
            clear hks hok hob hob2 hvl
            have C3 := Lib.hid (copyInts_ri A1 c1 l l1 h1 wr HIr.out (Nat.le_trans hh1 s0) (by omega))
            go_wp2_with fail
            with_reducible refine (C1.out).mono ?_
            rintro e w2 ⟨rfl, rfl⟩
            go_wp2_with fail
            with_reducible refine (C2.out).mono ?_
            rintro e w2 ⟨rfl, rfl⟩
            go_wp2_with fail
            with_reducible refine (C3.out).mono ?_
            rintro e w3 ⟨⟨A3, c3, rfl, ho3⟩, hb3⟩
            have s3 := hb3.size
            have HP3 := Lib.hid (ho3.alloc (.cells #[.int .i64 (k : Int)] 3))
            have HB3 := Lib.hid ((HB.out.trans (hb3.mono s0)).alloc (Nat.le_trans s0 s3) (.cells #[.int .i64 (k : Int)] 3))
            have HX3 := Lib.hid (hb3.alloc s3 (.cells #[.int .i64 (k : Int)] 3))
            clear ho3 hb3 C3 C1 C2
            go_wp2_with (first
              | (at_builtin; refine push_int rfl _ _ rfl wr.heap.size A3 c3 l (k : Int) rfl HP3.out w3.heap.size 1 rfl (by simp [go_sem]) (by omega) (by simp; omega) ?_; intro A4 c4 w4 ho4 hb4 hg4; have s4 := hb4.size; rw [World.size_alloc] at s4; have HO4 := Lib.hid ho4; have HB4 := Lib.hid (HB3.out.trans (hb4.mono s0)); have HX4 := Lib.hid (HX3.out.trans hb4); clear ho4 hb4 hg4))
            have hla : (l ++ [(k : Int)]).length = l.length + 1 := by simp
            have c5 := CR.out A4 c4 (l ++ [(k : Int)]) _ _ w4 HB4.out HO4.out.ri (Nat.le_refl _) (by rw [hla]; have := HLR.out; omega)
            rw [hla] at c5
            have C5 := Lib.hid c5
            clear c5 hla
            with_reducible refine (C5.out).mono ?_
            rintro e w5 ⟨⟨A5, c5, us, rfl, ho5, hs5⟩, hb5⟩
            have s5 := hb5.size
            have s45 : wr.heap.size ≤ w4.heap.size := by omega
            have HX5 := Lib.hid (HX4.out.trans (hb5.mono s45))
            have HO5 := Lib.hid (HO.out.below HX5.out (Nat.le_refl _))
            have HS5 := Lib.hid (HS.out.below HX5.out (Nat.le_refl _))
            have HB5 := Lib.hid (HB4.out.trans (hb5.mono (Nat.le_trans s0 s45)))
            have HU5 := Lib.hid ho5
            have HV5 := Lib.hid hs5
            have HONE := Lib.hid hs5.oneCell
            have hul : us.length ≤ 16777216 := by rw [hs5.1]; exact HOB2.out.1
            have hvl : vs.length ≤ 134217728 := by rw [HVL.out]; exact HOB1.out.2
            have s05 : w.heap.size ≤ w5.heap.size := by omega
            clear ho5 hs5 hb5 C5 HO HS
            go_wp2_with (first
              | (at_builtin; refine push_vs rfl _ _ rfl w.heap.size A' c' vs us rfl HO5.out A5 c5 w4.heap.size rfl HU5.out HONE.out (by omega) s05 ?_; intro A6 c6 w6 ho6 hb6 hg6 s6; have HO6 := Lib.hid ho6; have HS6 := Lib.hid ((HS5.out.kept HO5.out hg6).append ((HV5.out.kept HO5.out hg6).base (Nat.le_trans s0 s45))); have HB6 := Lib.hid (HB5.out.trans hb6); clear ho6 hb6 hg6))
            go_roundw
            case rel => exact ⟨k + 1, A6, c6, vs ++ us, by omega, by rw [List.length_append], by go_num, HO6.out, by rw [HKS.out]; exact HS6.out, HB6.out⟩
            case measure => simp [intOf]; omega
        · rw [hok] at hks
          have HKS := Lib.hid (show Bs.ordsK g r l (k + 1) = Bs.ordsK g r l k from by rw [hks]; simp)
          clear hks hok C2
          go_wp2_with fail
          with_reducible refine (C1.out).mono ?_
          rintro e w2 ⟨rfl, rfl⟩
          go_wp2
          go_roundw
          case rel => exact ⟨k + 1, A', c', vs, by omega, rfl, by go_num, HO.out, by rw [HKS.out]; exact HS.out, HB.out⟩
          case measure => simp [intOf]; omega
      · obtain rfl : k = g.length := by omega
        have HO := Lib.hid hO
        have HS := Lib.hid hS
        have HB := Lib.hid hb
        clear hO hS hb
        go_wp2
        go_ret
        rw [HE.out]
        exact ⟨⟨A', c', vs, rfl, HO.out, HS.out⟩, HB.out⟩
theorem CountOrdersS_any (A : Option Addr) (c : Nat) (g : List Bs.T) (lo hi : Nat) (w : World) (h : RG w lo hi A g) (hh : hi ≤ w.heap.size) (hl : g.length ≤ 9223372036854775807) :
    Calls Try.prog 37 #[.slice A g.length c] w fun e w' => e = .returned (.int .i64 (Bs.cntC g)) ∧ Below w.heap.size w w' := by
  have q1 := validGraphS_any A c g lo hi w h hh hl
  cases hv : Bs.valid g
  · rw [hv] at q1
    have C1 := Lib.hid q1
    have HV := Lib.hid (Bs.cnt_no1 hv)
    clear q1 hv h
    go_enter Try.func37, Try.ntmps37
    go_wp2_with fail
    with_reducible refine (C1.out).mono ?_
    rintro e w1 ⟨rfl, hb⟩
    have HB := Lib.hid hb
    clear hb
    go_wp2
    go_ret
    exact ⟨ret_int HV.out.symm, HB.out⟩
  rw [hv] at q1
  have C1 := Lib.hid q1
  by_cases h5 : g.length ≤ 5
  rotate_left
  · have hd : decide ((g.length : Int) > 5) = true := by simp; omega
    have hd2 : decide ((5 : Int) < (g.length : Int)) = true := by simp; omega
    have hd3 : decide (5 < g.length) = true := by simp; omega
    have HV := Lib.hid (Bs.cnt_no2 h5)
    clear h5 h q1 hv
    go_enter Try.func37, Try.ntmps37
    go_wp2_with fail
    with_reducible refine (C1.out).mono ?_
    rintro e w1 ⟨rfl, hb⟩
    have HB := Lib.hid hb
    clear hb
    go_wp2
    go_ret
    exact ⟨ret_int HV.out.symm, HB.out⟩
  have hd : decide ((g.length : Int) > 5) = false := by simp; omega
  have hd2 : decide ((5 : Int) < (g.length : Int)) = false := by simp; omega
  have hd3 : decide (5 < g.length) = false := by simp; omega
  have HV := Lib.hid (Bs.cnt_yes hv h5)
  have hF := valid_fine hv
  have C2 := Lib.hid (fun W (hb : Below w.heap.size w W) => ordersS_any A c g lo hi (by omega) (fun i hi => by have := Bs.fine_needs_len hF hi; omega) g.length (some ⟨W.heap.size, 0, none⟩) 0 [] 0 0 (W.alloc (.cells #[] 3)) ((h.below hb hh).below ((Below.refl W.heap.size W).alloc (Nat.le_refl _) _) (Nat.le_trans hh hb.size)) (by have := hb.size; rw [World.size_alloc]; omega) RI.nil (Nat.zero_le _) (by simp))
  have HOB := Lib.hid (Bs.ords_b (g := g) (by omega) (r := g.length) (by omega) []).1
  clear q1 hv h hF
  go_enter Try.func37, Try.ntmps37
  go_wp2_with fail
  with_reducible refine (C1.out).mono ?_
  rintro e w1 ⟨rfl, hb⟩
  have C3 := Lib.hid (C2.out w1 hb)
  have HB := Lib.hid (hb.alloc hb.size (.cells #[] 3))
  clear hb C2
  simp only [List.length_nil] at C3
  go_wp2_with fail
  with_reducible refine (C3.out).mono ?_
  rintro e w2 ⟨⟨A2, c2, vs, rfl, ho2, hs2⟩, hb2⟩
  have HL := Lib.hid hs2.1
  have HB2 := Lib.hid (HB.out.trans (hb2.mono HB.out.size))
  clear ho2 hs2 hb2 C3
  go_wp2
  go_ret
  exact ⟨ret_int (by rw [HV.out, HL.out]), HB2.out⟩
end Go.Proofs.Ytoaakidapgbhhaa
