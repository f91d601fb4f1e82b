/-
  MERGED TEXTS: R1 R2 R3 R4 R5 R6.
-/
import Derived.Test.YtmdmemompjpmkaaK1
import Derived.Test.YtmdmemompjpmkaaK2
namespace Go.Proofs.Ytmdmemompjpmkaa
open Go.RowKit
set_option maxHeartbeats 1600000 in
theorem validDoneS_any (A : Option Addr) (c : Nat) (g : List Bs.T) (A' : Option Addr) (c' : Nat) (d : List Int) (lo hi lo' hi' : Nat) (w : World) (h : RG w lo hi A g) (hh : hi ≤ w.heap.size) (h' : RI w lo' hi' A' d) (hh' : hi' ≤ w.heap.size) (hl : g.length ≤ 9223372036854775807) (hd : d.length ≤ 9223372036854775807) :
    Calls Try.prog 46 #[.slice A g.length c, .slice A' d.length c'] w fun e w' => e = .returned (.bool (Bs.vdone g d)) ∧ Below w.heap.size w w' := by
  have c1 := validGraphS_any A c g lo hi w h hh hl
  cases hv : Bs.valid g
  · rw [hv] at c1
    have C1 := Lib.hid c1
    have HV := Lib.hid (Bs.vdone_no1 (d := d) hv)
    clear c1 hv
    go_enter Try.func46, Try.ntmps46
    go_wp2_with fail
    refine (C1.out).mono ?_
    rintro e w1 ⟨rfl, hb⟩
    have HB := Lib.hid hb
    clear hb
    go_wp2
    go_ret
    exact ⟨ret_bool HV.out.symm, HB.out⟩
  · have h8 := Bs.fine_len (valid_fine hv)
    have c2 := fun W (hb : Below w.heap.size w W) => ascends_any A' c' d lo' hi' W (h'.below hb hh') hd
    have c3 := fun W (hb : Below w.heap.size w W) => allIn_any A' c' d 0 ((g.length : Int) - 1) lo' hi' W (h'.below hb hh') hd
    rw [hv] at c1
    cases ha : Bs.asc d
    · rw [ha] at c2
      have C1 := Lib.hid c1
      have C2 := Lib.hid c2
      have HV := Lib.hid (Bs.vdone_no2 (g := g) ha)
      clear c1 c2 c3 hv ha
      go_enter Try.func46, Try.ntmps46
      go_wp2_with fail
      refine (C1.out).mono ?_
      rintro e w1 ⟨rfl, hb⟩
      have HB := Lib.hid hb
      clear hb
      go_wp2_with fail
      refine (C2.out _ HB.out).mono ?_
      rintro e w2 ⟨rfl, n2, rfl⟩
      have HB := Lib.hid (HB.out.drewN n2)
      go_wp2
      go_ret
      exact ⟨ret_bool HV.out.symm, HB.out⟩
    · rw [ha] at c2
      have hw : IntKind.i64.wrap ((g.length : Int) - 1) = (g.length : Int) - 1 := IntWalk.i64_in _ ⟨by omega, by omega⟩
      cases hin : Bs.allInB d 0 ((g.length : Int) - 1)
      · rw [hin] at c3
        have C1 := Lib.hid c1
        have C2 := Lib.hid c2
        have C3 := Lib.hid c3
        have HV := Lib.hid (Bs.vdone_no3 hin)
        clear c1 c2 c3 hv ha hin
        go_enter Try.func46, Try.ntmps46
        go_wp2_with fail
        refine (C1.out).mono ?_
        rintro e w1 ⟨rfl, hb⟩
        have HB := Lib.hid hb
        clear hb
        go_wp2_with fail
        refine (C2.out _ HB.out).mono ?_
        rintro e w2 ⟨rfl, n2, rfl⟩
        have HB := Lib.hid (HB.out.drewN n2)
        go_wp2_with fail
        refine (C3.out _ HB.out).mono ?_
        rintro e w3 ⟨rfl, rfl⟩
        go_wp2
        go_ret
        exact ⟨ret_bool HV.out.symm, HB.out⟩
      · rw [hin] at c3
        have C1 := Lib.hid c1
        have C2 := Lib.hid c2
        have C3 := Lib.hid c3
        have HV := Lib.hid (Bs.vdone_at hv ha hin)
        have HM := Lib.hid (fun x hx => Bs.allInB_mem hin (x := x) hx)
        have HG := Lib.hid h
        have HD := Lib.hid h'
        clear c1 c2 c3 hv ha hin h h'
        obtain ⟨p, hp⟩ : ∃ p : Int → Bool, p = fun x => (Bs.need g x.toNat).all fun y => d.contains y := ⟨_, rfl⟩
        rw [← hp] at HV
        have HP := Lib.hid hp
        clear hp
        go_enter Try.func46, Try.ntmps46
        go_wp2_with fail
        refine (C1.out).mono ?_
        rintro e w1 ⟨rfl, hb⟩
        have HB := Lib.hid hb
        clear hb
        go_wp2_with fail
        refine (C2.out _ HB.out).mono ?_
        rintro e w2 ⟨rfl, n2, rfl⟩
        have HB := Lib.hid (HB.out.drewN n2)
        go_wp2_with fail
        refine (C3.out _ HB.out).mono ?_
        rintro e w3 ⟨rfl, rfl⟩
        generalize w1.drewN n2 = W1 at *
        have HG1 := Lib.hid (HG.out.below HB.out hh)
        have HD1 := Lib.hid (HD.out.below HB.out hh')
        clear hw C1 C2 C3
        go_wp2
        go_loop [5] (fun i => ∃ k : Nat, k ≤ d.length ∧ i = .int .i64 k ∧ (d.take k).all p = true) (fun i => d.length - (intOf i).toNat)
        case atStart => exact ⟨0, Nat.zero_le _, rfl, by simp⟩
        case round =>
          obtain ⟨k, hk, rfl, hall⟩ := hrel
          by_cases hlt : k < d.length
          · obtain ⟨b, o, rfl, _, _, hc0⟩ := HD1.out k hlt
            have hx := HM.out d[k] (List.getElem_mem hlt)
            have hst := Bs.all_take d p k hlt
            have hpx : p d[k] = ((Bs.need g d[k].toNat).all fun y => d.contains y) := by rw [HP.out]
            have hfal := fun hf => Bs.all_false_at (p := p) hlt hf
            rw [hall] at hst
            have b0 : (0 : Int) ≤ (k : Int) := by omega
            have b1 : (k : Int) < (d.length : Int) := by omega
            generalize hxx : d[k] = x at *
            clear hxx
            obtain ⟨v, rfl⟩ : ∃ v : Nat, x = (v : Int) := ⟨x.toNat, by omega⟩
            have hv : v < g.length := by omega
            obtain ⟨bg, og, N, cN, rfl, _, _, k0, k1, k2, k3, hnc, hcN, hN⟩ := HG1.out v hv
            have c4 := allDone_any N cN g[v].needs (some ⟨b, o, none⟩) c' d _ _ _ _ W1 hN HD1.out (by omega) hd
            rw [Int.toNat_natCast, need_at hv] at hpx
            rw [← hpx] at c4
            have d0 : (0 : Int) ≤ (v : Int) := by omega
            have d1 : (v : Int) < (g.length : Int) := by omega
            have C4 := Lib.hid c4
            have HF := Lib.hid hfal
            have HST := Lib.hid hst
            clear c4 hpx k0 k2 k3 hN hst hfal hall hx hnc
            generalize p (v : Int) = pv at *
            cases pv
            · go_wp2_with fail
              refine (C4.out).mono ?_
              rintro e w4 ⟨rfl, rfl⟩
              go_wp2
              go_ret
              first | exact ⟨ret_bool (show false = _ from by rw [HV.out, HF.out trivial]), HB.out⟩ | exact ⟨ret_bool (show false = _ from by rw [HV.out, HF.out rfl]), HB.out⟩
            · go_wp2_with fail
              refine (C4.out).mono ?_
              rintro e w4 ⟨rfl, rfl⟩
              go_wp2
              go_round
              case rel => exact ⟨k + 1, by omega, by go_num, by rw [HST.out]; rfl⟩
              case measure => simp [intOf]; omega
          · have e : d.take k = d := List.take_of_length_le (by omega)
            rw [e] at hall
            have HA := Lib.hid hall
            clear hall e
            go_wp2
            go_ret
            exact ⟨ret_bool (show true = _ from by rw [HV.out, HA.out]), HB.out⟩
set_option maxHeartbeats 1600000 in
theorem ready_any (A : Option Addr) (c : Nat) (g : List Bs.T) (A' : Option Addr) (c' : Nat) (d : List Int) (lo hi lo' hi' : Nat) (w : World) (h : RG w lo hi A g) (hh : hi ≤ w.heap.size) (h' : RI w lo' hi' A' d) (hh' : hi' ≤ w.heap.size) (hl : g.length ≤ 1000) (hd : d.length ≤ 9223372036854775807) :
    Calls Try.prog 60 #[.slice A g.length c, .slice A' d.length c'] w (RetI w (Bs.readyC g d)) := by
  have hb0 : Below w.heap.size w (w.alloc (.cells #[] 3)) := (Below.refl _ _).alloc (Nat.le_refl _) _
  have HG := Lib.hid h
  have HD := Lib.hid h'
  clear h h'
  go_enter Try.func60, Try.ntmps60
  go_wp2
  go_loopw [5, 6] (fun v i wr => ∃ (k : Nat) (A2 : Option Addr) (c2 : Nat), k ≤ g.length ∧ i = .int .i64 k ∧ v = .slice A2 (Bs.pick k (Bs.okNext g d)).length c2 ∧ OI wr w.heap.size A2 c2 (Bs.pick k (Bs.okNext g d)) ∧ Below w.heap.size w wr) (fun _ i _ => g.length - (intOf i).toNat)
  case atStart => exact ⟨0, _, _, Nat.zero_le _, rfl, rfl, OI.new _ _ (Nat.le_refl _), hb0⟩
  case round =>
    obtain ⟨k, A2, c2, hk, rfl, rfl, ho, hb⟩ := hrel
    have sr := hb.size
    have HB := Lib.hid hb
    have HO := Lib.hid ho
    have hpl := Bs.pick_len k (Bs.okNext g d)
    clear hb ho
    by_cases hlt : k < g.length
    · obtain ⟨b, o, N, cN, rfl, h1, h2, q0, q1, q2, q3, hlN, hcN, hN⟩ := (HG.out.below HB.out hh) k hlt
      have hD := HD.out.below HB.out hh'
      have c3 := isIn_any A' c' d (k : Int) lo' hi' wr hD hd
      generalize hv1 : d.contains (k : Int) = b1 at c3
      have c4 := allDone_any N cN g[k].needs A' c' d _ _ _ _ wr hN hD (by omega) hd
      generalize hv2 : (g[k].needs.all fun x => d.contains x) = b2 at c4
      have hok : Bs.okNext g d k = (!b1 && b2) := by rw [Bs.okNext_eq hlt, hv1, hv2]
      have HP := Lib.hid (Bs.pick_snoc k (Bs.okNext g d))
      have HQ := Lib.hid (Bs.pick_skip k (Bs.okNext g d))
      have HOK := Lib.hid hok
      have C3 := Lib.hid c3
      have C4 := Lib.hid c4
      have d1 : (k : Int) < (g.length : Int) := by omega
      clear c3 c4 hv1 hv2 hok q0 q2 q3 hN hD hlN
      generalize Bs.pick k (Bs.okNext g d) = L at *
      cases b1
      · cases b2
        · have HQ := Lib.hid (HQ.out HOK.out)
          go_wp2_with (first | (go_at_call 56; refine (C3.out).mono ?_; rintro e w' ⟨rfl, rfl⟩) | (go_at_call 70; refine (C4.out).mono ?_; rintro e w' ⟨rfl, rfl⟩))
          go_roundw
          case rel => exact ⟨k + 1, A2, c2, by omega, by go_num, by rw [HQ.out], by rw [HQ.out]; exact HO.out, HB.out⟩
          case measure => simp [intOf]; omega
        · have HP := Lib.hid (HP.out HOK.out)
          go_wp2_with (first | (go_at_call 56; refine (C3.out).mono ?_; rintro e w' ⟨rfl, rfl⟩) | (go_at_call 70; refine (C4.out).mono ?_; rintro e w' ⟨rfl, rfl⟩) | (at_builtin; refine push_int rfl _ _ rfl w.heap.size A2 c2 L (k : Int) rfl (HO.out.alloc _) wr.heap.size 1 rfl (by simp [go_sem]) (by omega) (by simp; omega) ?_; intro A3 c3 w3 ho3 hb3 _))
          go_wp2
          go_roundw
          case rel => exact ⟨k + 1, A3, c3, by omega, by go_num, by rw [HP.out, List.length_append]; rfl, by rw [HP.out]; exact ho3, (HB.out.alloc sr _).trans hb3⟩
          case measure => simp [intOf]; omega
      · have HQ := Lib.hid (HQ.out (by rw [HOK.out]; rfl))
        go_wp2_with (first | (go_at_call 56; refine (C3.out).mono ?_; rintro e w' ⟨rfl, rfl⟩) | (go_at_call 70; refine (C4.out).mono ?_; rintro e w' ⟨rfl, rfl⟩))
        go_roundw
        case rel => exact ⟨k + 1, A2, c2, by omega, by go_num, by rw [HQ.out], by rw [HQ.out]; exact HO.out, HB.out⟩
        case measure => simp [intOf]; omega
    · obtain rfl : k = g.length := by omega
      go_wp2
      go_ret
      exact ⟨⟨A2, c2, rfl, HO.out⟩, HB.out⟩
end Go.Proofs.Ytmdmemompjpmkaa
namespace Go.Proofs.Ytmdmemompjpmkaa
open Go.RowKit
theorem readyL_no {g : List Bs.T} {d : List Int} (h : Bs.vdone g d = false) : Bs.readyL g d = [] := by unfold Bs.readyL; rw [h]; rfl
theorem readyL_yes {g : List Bs.T} {d : List Int} (h : Bs.vdone g d = true) : Bs.readyL g d = Bs.readyC g d := by unfold Bs.readyL; rw [h]; rfl
theorem ReadyTasksS_any (A : Option Addr) (c : Nat) (g : List Bs.T) (A' : Option Addr) (c' : Nat) (d : List Int) (lo hi lo' hi' : Nat) (w : World) (h : RG w lo hi A g) (hh : hi ≤ w.heap.size) (h' : RI w lo' hi' A' d) (hh' : hi' ≤ w.heap.size) (hl : g.length ≤ 9223372036854775807) (hd : d.length ≤ 9223372036854775807) :
    Calls Try.prog 78 #[.slice A g.length c, .slice A' d.length c'] w (RetI w (Bs.readyL g d)) := by
  have c1 := validDoneS_any A c g A' c' d lo hi lo' hi' w h hh h' hh' hl hd
  cases hv : Bs.vdone g d
  · rw [hv] at c1
    have C1 := Lib.hid c1
    have HV := Lib.hid (readyL_no hv)
    clear c1 hv h h'
    go_enter Try.func78, Try.ntmps78
    go_wp2_with fail
    refine (C1.out).mono ?_
    rintro e w1 ⟨rfl, hb⟩
    have HB := Lib.hid hb
    clear hb
    go_wp2
    go_ret
    exact RetI.nil HB.out HV.out
  · have h8 := Bs.fine_len (valid_fine (Bs.vdone_valid hv))
    have c2 := fun W (hb : Below w.heap.size w W) => ready_any A c g A' c' d lo hi lo' hi' W (h.below hb hh) (Nat.le_trans hh hb.size) (h'.below hb hh') (Nat.le_trans hh' hb.size) (by omega) hd
    rw [hv] at c1
    have C1 := Lib.hid c1
    have C2 := Lib.hid c2
    have HV := Lib.hid (readyL_yes hv)
    clear c1 c2 hv h h'
    go_enter Try.func78, Try.ntmps78
    go_wp2_with fail
    refine (C1.out).mono ?_
    rintro e w1 ⟨rfl, hb⟩
    have HB := Lib.hid hb
    have s1 := hb.size
    clear hb
    go_wp2_with fail
    refine (C2.out _ HB.out).mono ?_
    rintro e w2 ⟨⟨A2, c2, rfl, ho⟩, hb2⟩
    have HO := Lib.hid (ho.base s1)
    have HB2 := Lib.hid (HB.out.trans (hb2.mono s1))
    clear ho hb2
    go_wp2
    go_ret
    rw [HV.out]
    exact ⟨⟨A2, c2, rfl, HO.out⟩, HB2.out⟩
/-- a list and a bool -/
def RetIB (w : World) (L : List Int) (b : Bool) (e : Ending) (w' : World) : Prop := (∃ A c, e = .returned (.tuple #[.slice A L.length c, .bool b]) ∧ OI w' w.heap.size A c L) ∧ Below w.heap.size w w'
theorem RetIB.nil {w w' : World} {L : List Int} {b : Bool} (hb : Below w.heap.size w w') (h : L = []) (hf : b = false) : RetIB w L b (.returned (.tuple #[.slice none 0 0, .bool false])) w' := by
  subst h
  subst hf
  exact ⟨⟨none, 0, rfl, OI.nil _ _⟩, hb⟩
theorem finL_no {g : List Bs.T} {d : List Int} {a : Int} (h : Bs.finOk g d a = false) : Bs.finL g d a = [] := by unfold Bs.finL; rw [h]; rfl
theorem finL_yes {g : List Bs.T} {d : List Int} {a : Int} (h : Bs.finOk g d a = true) : Bs.finL g d a = Bs.finC g d a := by unfold Bs.finL; rw [h]; rfl
set_option maxHeartbeats 1600000 in
theorem FinishTaskS_any (A : Option Addr) (c : Nat) (g : List Bs.T) (A' : Option Addr) (c' : Nat) (d : List Int) (a : Int) (lo hi lo' hi' : Nat) (w : World) (h : RG w lo hi A g) (hh : hi ≤ w.heap.size) (h' : RI w lo' hi' A' d) (hh' : hi' ≤ w.heap.size) (hl : g.length ≤ 9223372036854775807) (hd : d.length ≤ 9223372036854775807) :
    Calls Try.prog 79 #[.slice A g.length c, .slice A' d.length c', .int .i64 a] w (RetIB w (Bs.finL g d a) (Bs.finOk g d a)) := by
  have hb0 : Below w.heap.size w (w.alloc (.cells #[] 3)) := (Below.refl _ _).alloc (Nat.le_refl _) _
  have c1 := fun W (hb : Below w.heap.size w W) => validDoneS_any A c g A' c' d lo hi lo' hi' W (h.below hb hh) (Nat.le_trans hh hb.size) (h'.below hb hh') (Nat.le_trans hh' hb.size) hl hd
  cases hv : Bs.vdone g d
  · rw [hv] at c1
    have C1 := Lib.hid c1
    have hf : Bs.finOk g d a = false := by unfold Bs.finOk; rw [hv]; rfl
    have HV := Lib.hid (finL_no hf)
    have HF := Lib.hid hf
    clear c1 hv h h' hf
    go_enter Try.func79, Try.ntmps79
    go_wp2_with fail
    refine (C1.out _ hb0).mono ?_
    rintro e w1 ⟨rfl, hb⟩
    have HB := Lib.hid (hb0.trans (hb.mono hb0.size))
    clear hb
    go_wp2
    go_ret2
    exact RetIB.nil HB.out HV.out HF.out
  · have h8 := Bs.fine_len (valid_fine (Bs.vdone_valid hv))
    have c2 := fun W (hb : Below w.heap.size w W) => ready_any A c g A' c' d lo hi lo' hi' W (h.below hb hh) (Nat.le_trans hh hb.size) (h'.below hb hh') (Nat.le_trans hh' hb.size) (by omega) hd
    rw [hv] at c1
    have hrl := Bs.readyC_len g d
    have hf : Bs.finOk g d a = (Bs.readyC g d).contains a := by unfold Bs.finOk; rw [hv]; rfl
    have HF := Lib.hid hf
    obtain ⟨R, hR⟩ : ∃ R, R = Bs.readyC g d := ⟨_, rfl⟩
    rw [← hR] at c2 HF hrl
    have C1 := Lib.hid c1
    have C2 := Lib.hid c2
    have HG := Lib.hid h
    have HD := Lib.hid h'
    clear c1 c2 hv h h' hf hR
    go_enter Try.func79, Try.ntmps79
    go_wp2_with fail
    refine (C1.out _ hb0).mono ?_
    rintro e w1 ⟨rfl, hb⟩
    have HB := Lib.hid (hb0.trans (hb.mono hb0.size))
    have ho1 : OI w1 w.heap.size (some ⟨w.heap.size, 0, none⟩) 0 [] := (OI.new w _ (Nat.le_refl _)).below hb (Nat.le_refl _)
    have s1 := HB.out.size
    have HO1 := Lib.hid ho1
    clear hb ho1
    go_wp2_with fail
    refine (C2.out _ HB.out).mono ?_
    rintro e w2 ⟨⟨A2, c2, rfl, ho⟩, hb2⟩
    have c3 := isIn_any A2 c2 R a _ _ w2 ho.ri (by omega)
    have s2 := hb2.size
    have HO2 := Lib.hid (HO1.out.below hb2 (Nat.le_refl _))
    have HB2 := Lib.hid (HB.out.trans (hb2.mono s1))
    cases hin : R.contains a
    · rw [hin] at c3 HF
      have HV := Lib.hid (finL_no HF.out)
      have C3 := Lib.hid c3
      clear c3 hin ho hb2
      go_wp2_with fail
      refine (C3.out).mono ?_
      rintro e w3 ⟨rfl, rfl⟩
      go_wp2
      go_ret2
      exact RetIB.nil HB2.out HV.out HF.out
    · rw [hin] at c3 HF
      have HV := Lib.hid (finL_yes HF.out)
      have C3 := Lib.hid c3
      clear c3 hin ho hb2 C1 C2 HO1
      go_wp2_with fail
      refine (C3.out).mono ?_
      rintro e w3 ⟨rfl, rfl⟩
      clear HG C3
      obtain ⟨q, hq⟩ : ∃ q : Nat → Bool, q = fun (i : Nat) => ((i : Int) == a) || d.contains (i : Int) := ⟨_, rfl⟩
      have HQ := Lib.hid (fun k => show q k = (((k : Int) == a) || d.contains (k : Int)) from by rw [hq])
      have HV := Lib.hid (show Bs.finL g d a = Bs.pick g.length q from by rw [HV.out, hq]; rfl)
      clear hq
      go_wp2
      go_loopw [8, 9] (fun v i wr => ∃ (k : Nat) (A3 : Option Addr) (c3 : Nat), k ≤ g.length ∧ i = .int .i64 k ∧ v = .slice A3 (Bs.pick k q).length c3 ∧ OI wr w.heap.size A3 c3 (Bs.pick k q) ∧ Below w.heap.size w wr) (fun _ i _ => g.length - (intOf i).toNat)
      case atStart => exact ⟨0, _, _, Nat.zero_le _, rfl, rfl, HO2.out, HB2.out⟩
      case round =>
        obtain ⟨k, A3, c3, hk, rfl, rfl, ho, hb⟩ := hrel
        have sr := hb.size
        have HBr := Lib.hid hb
        have HOr := Lib.hid ho
        have hpl := Bs.pick_len k q
        have c4 := isIn_any A' c' d (k : Int) lo' hi' wr (HD.out.below hb hh') hd
        clear hb ho
        by_cases hlt : k < g.length
        · have hqk := HQ.out k
          have hP := fun h => Bs.pick_snoc k q h
          have hK := fun h => Bs.pick_skip k q h
          generalize Bs.pick k q = L at *
          generalize d.contains (k : Int) = dc at *
          have C4 := Lib.hid c4
          clear c4
          by_cases hka : (k : Int) = a
          · have e1 : ((k : Int) == a) = true := by simp [hka]
            have HP := Lib.hid (hP (by rw [hqk, e1]; rfl))
            clear hka hP hK hqk
            go_wp2_with (at_builtin; go_loud (refine push_int rfl _ _ rfl w.heap.size A3 c3 L (k : Int) rfl (HOr.out.alloc _) wr.heap.size 1 rfl (by simp [go_sem]) (by omega) (by simp; omega) ?_; intro A4 c4 w4 ho4 hb4 _))
            go_wp2
            go_roundw
            case rel => exact ⟨k + 1, A4, c4, by omega, by go_num, by rw [HP.out, List.length_append]; rfl, by rw [HP.out]; exact ho4, (HBr.out.alloc sr _).trans hb4⟩
            case measure => simp [intOf]; omega
          · have e1 : ((k : Int) == a) = false := by simp [hka]
            rw [e1, Bool.false_or] at hqk
            cases dc
            · have HK := Lib.hid (hK hqk)
              clear hka hP hK hqk
              go_wp2_with fail
              refine (C4.out).mono ?_
              rintro e w4 ⟨rfl, rfl⟩
              go_wp2
              go_roundw
              case rel => exact ⟨k + 1, A3, c3, by omega, by go_num, by rw [HK.out], by rw [HK.out]; exact HOr.out, HBr.out⟩
              case measure => simp [intOf]; omega
            · have HP := Lib.hid (hP hqk)
              clear hka hP hK hqk
              go_wp2_with fail
              refine (C4.out).mono ?_
              rintro e w4 ⟨rfl, rfl⟩
              go_wp2_with (at_builtin; go_loud (refine push_int rfl _ _ rfl w.heap.size A3 c3 L (k : Int) rfl (HOr.out.alloc _) wr.heap.size 1 rfl (by simp [go_sem]) (by omega) (by simp; omega) ?_; intro A4 c4 w4 ho4 hb4 _))
              go_wp2
              go_roundw
              case rel => exact ⟨k + 1, A4, c4, by omega, by go_num, by rw [HP.out, List.length_append]; rfl, by rw [HP.out]; exact ho4, (HBr.out.alloc sr _).trans hb4⟩
              case measure => simp [intOf]; omega
        · obtain rfl : k = g.length := by omega
          go_wp2
          go_ret2
          rw [HV.out, HF.out]
          exact ⟨⟨A3, c3, rfl, HOr.out⟩, HBr.out⟩
end Go.Proofs.Ytmdmemompjpmkaa
namespace Go.Proofs.Ytmdmemompjpmkaa
open Go.RowKit
theorem usedL_no1 {g : List Bs.T} {r : List Int} (h : Bs.valid g = false) : Bs.usedL g r = [] := by unfold Bs.usedL; rw [h]; rfl
theorem usedL_no2 {g : List Bs.T} {r : List Int} (h : Bs.inG g r = false) : Bs.usedL g r = [] := by unfold Bs.usedL; rw [h]; simp
theorem usedL_yes {g : List Bs.T} {r : List Int} (hv : Bs.valid g = true) (h : Bs.inG g r = true) : Bs.usedL g r = (List.range 3).map (fun p => Bs.usedC g r ((p : Nat) : Int)) := by unfold Bs.usedL; rw [hv, h]; rfl
end Go.Proofs.Ytmdmemompjpmkaa
namespace Go.Proofs.Ytmdmemompjpmkaa
open Go.RowKit
theorem runOk_no1 {g : List Bs.T} {m r : List Int} (h : Bs.valid g = false) : Bs.runOk g m r = false := by unfold Bs.runOk; rw [h]; rfl
theorem runOk_no2 {g : List Bs.T} {m r : List Int} (h : Bs.roomOk m = false) : Bs.runOk g m r = false := by unfold Bs.runOk; rw [h]; simp
theorem runOk_no3 {g : List Bs.T} {m r : List Int} (h : Bs.inG g r = false) : Bs.runOk g m r = false := by unfold Bs.runOk; rw [h]; simp
theorem runOk_at {g : List Bs.T} {m r : List Int} (h1 : Bs.valid g = true) (h2 : Bs.roomOk m = true) (h3 : Bs.inG g r = true) : Bs.runOk g m r = Bs.fitsC g m r := by unfold Bs.runOk; rw [h1, h2, h3]; rfl
end Go.Proofs.Ytmdmemompjpmkaa
namespace Go.Proofs.Ytmdmemompjpmkaa
open Go.RowKit
theorem waitsL_no1 {g : List Bs.T} {d : List Int} {a : Int} (h : Bs.vdone g d = false) : Bs.waitsL g d a = [] := by unfold Bs.waitsL; rw [h]; rfl
theorem waitsL_no2 {g : List Bs.T} {d : List Int} {a : Int} (h : decide (0 ≤ a ∧ a ≤ (g.length : Int) - 1) = false) : Bs.waitsL g d a = [] := by unfold Bs.waitsL; rw [h]; simp
theorem waitsL_yes {g : List Bs.T} {d : List Int} {a : Int} (h : Bs.vdone g d = true) (h2 : decide (0 ≤ a ∧ a ≤ (g.length : Int) - 1) = true) : Bs.waitsL g d a = Bs.waitsC g d a := by unfold Bs.waitsL; rw [h, h2]; rfl
theorem filter_take {l : List Int} (p : Int → Bool) (k : Nat) (hk : k < l.length) : (l.take (k + 1)).filter p = (l.take k).filter p ++ (if p l[k] then [l[k]] else []) := by
  rw [List.take_succ_eq_append_getElem hk, List.filter_append]
  congr 1
  cases hp : p l[k] <;> simp [hp]
end Go.Proofs.Ytmdmemompjpmkaa
namespace Go.Proofs.Ytmdmemompjpmkaa
open Go.RowKit
end Go.Proofs.Ytmdmemompjpmkaa
