/-
  MERGED TEXTS: W30 W31 W32 W33.
-/
import Derived.Test.YtihgakbopkaemaaK8
import Derived.Test.YtihgakbopkaemaaK11
import Derived.Test.YtihgakbopkaemaaK4
import Derived.Test.YtihgakbopkaemaaK2
import Derived.Test.YtihgakbopkaemaaK5
namespace Go.Proofs.Ytihgakbopkaemaa
open Go.RowKit
set_option maxHeartbeats 1600000 in
theorem openNeeds_any (A : Option Addr) (c : Nat) (g : List Bs.T) (d : List Int) (lo hi : Nat) (w : World) (hG : RG w lo hi A g) (hh : hi ≤ w.heap.size) (hF : Bs.fine g = true) (hd : ∀ x ∈ d, 0 ≤ x ∧ x < 8) :
    Calls Try.prog 47 #[.slice A g.length c, .int .u64 (Bs.bits d : Nat)] w (RetI w (Bs.openC g d)) := by
  have h8 := Bs.fine_len hF
  have hd8 := Bs.bits_lt d hd
  have hD := fun i => Bs.bits_test d (fun x hx => (hd x hx).1) i
  have hmk := make_ints g.length (by omega) w
  have B1 : Arr (w.alloc (.cells (intsA (List.replicate g.length 0)) 3)) w.heap.size (Bs.openA g d 0 0) := by rw [Bs.openA_start]; exact Blk.new w 3 _
  have hb1 : Below w.heap.size w (w.alloc (.cells (intsA (List.replicate g.length 0)) 3)) := (Below.refl _ _).alloc (Nat.le_refl _) _
  have HT := Lib.hid hD
  have HF := Lib.hid hF
  generalize (.cells (intsA (List.replicate g.length 0)) 3 : Obj) = ob at *
  generalize Bs.bits d = D at *
  have HB1 := Lib.hid hb1
  have HA1 := Lib.hid B1
  clear hD hF hd hb1 B1
  go_enter Try.func47, Try.ntmps47
  go_wp2
  go_loopw [15] (fun i wr => ∃ k : Nat, k ≤ g.length ∧ i = .int .i64 k ∧ Arr wr w.heap.size (Bs.openA g d k 0) ∧ Below w.heap.size w wr) (fun i _ => g.length - (intOf i).toNat)
  case atStart => exact ⟨0, Nat.zero_le _, rfl, HA1.out, HB1.out⟩
  case round =>
    clear hmk
    obtain ⟨k, hk, rfl, hB, hb⟩ := hrel
    have sr := hb.size
    have sb := hB.lt
    by_cases hlt : k < g.length
    · obtain ⟨b, o, N, cN, rfl, h1, h2, q0, q1, q2, q3, hlN, hcN, hN⟩ := (hG.below hb hh) k hlt
      have HN := Lib.hid (fun w' (hb' : Below w.heap.size w w') => ((hG.below hb' hh) k hlt))
      have hne := Bs.need_eq hlt
      have HNE := Lib.hid hne
      have HN8 := Lib.hid (fun x hx => Bs.need_eight HF.out hlt x hx)
      have HNX := Lib.hid (Bs.openA_next g d k)
      have hsl := Bs.openA_len g d k
      have HB := Lib.hid hB
      have HBL := Lib.hid hb
      have HRN := Lib.hid (fun w' (hb' : Below wr.heap.size wr w') => hN.below hb' (Nat.le_trans hh sr))
      clear hne hB hb hN
      go_wp2
      go_loopw [23] (fun j wr2 => ∃ p : Nat, p ≤ g[k].needs.length ∧ j = .int .i64 p ∧ Arr wr2 w.heap.size (Bs.openA g d k p) ∧ Below w.heap.size w wr2 ∧ RI wr2 lo hi N g[k].needs) (fun j _ => g[k].needs.length - (intOf j).toNat)
      case atStart => exact ⟨0, Nat.zero_le _, rfl, HB.out.below (Below.alloc (Below.refl _ _) (Nat.le_refl _) _) sb, HBL.out.alloc sr _, HRN.out _ (Below.alloc (Below.refl _ _) (Nat.le_refl _) _)⟩
      case round =>
        obtain ⟨p, hp, rfl, hB, hb, hq⟩ := hrel
        have s2 := hb.size
        by_cases hlt2 : p < g[k].needs.length
        · obtain ⟨b3, o3, rfl, hb3, hb3', hc3⟩ := hq.at_ hlt2
          have hx8 := HN8.out _ (List.getElem_mem hlt2)
          have hpl : p < (Bs.need g k).length := by rw [HNE.out]; exact hlt2
          have he : (Bs.need g k)[p] = g[k].needs[p] := by simp only [HNE.out]
          have hyes := Bs.openA_yes (d := d) hpl
          have hno := Bs.openA_no (d := d) hlt hpl
          have hat := Bs.openA_at (d := d) (p := p) hlt
          have hsm := Bs.missC_small HF.out d p (Nat.le_of_lt hpl)
          have hsl := Bs.openA_len g d k p
          rw [he] at hyes hno
          obtain ⟨x, hx⟩ : ∃ x : Nat, g[k].needs[p] = (x : Int) := ⟨g[k].needs[p].toNat, by omega⟩
          rw [hx] at hc3 hx8 hyes hno
          have c1 := fun w' => hasTask_any D x w' hd8 (by omega)
          rw [HT.out x] at c1
          have e2 := hB.cell (i := k) (by omega)
          rw [hat] at e2
          have hfz := hB.frozen k
          have HB2 := Lib.hid (fun y => hB.set_ k y)
          have HB1 := Lib.hid hB
          have HQ := Lib.hid (fun u => hq.set_far (p := ⟨w.heap.size, k, none⟩) (.inr hh) u)
          have HQ0 := Lib.hid hq
          clear hat hx he hB hq
          generalize Bs.openA g d k p = L at *
          generalize Bs.missC g d k p = m at *
          cases hv : d.contains (x : Int)
          · rw [hv] at c1
            have HNO := Lib.hid (hno hv)
            have C1 := Lib.hid c1
            clear c1 hv hyes hno
            go_wp2_with (go_at_call 80; refine (C1.out _).mono ?_; rintro e w' ⟨rfl, rfl⟩)
            go_roundw
            case rel => exact ⟨p + 1, by omega, by go_num, by rw [HNO.out]; exact HB2.out _, hb.setCell (by show _ ≤ w.heap.size; omega) _, HQ.out _⟩
            case measure => simp [intOf]; omega
          · rw [hv] at c1
            have HY := Lib.hid (hyes hv)
            have C1 := Lib.hid c1
            clear c1 hv hyes hno
            go_wp2_with (go_at_call 80; refine (C1.out _).mono ?_; rintro e w' ⟨rfl, rfl⟩)
            go_roundw
            case rel => exact ⟨p + 1, by omega, by go_num, by rw [HY.out]; exact HB1.out, hb, HQ0.out⟩
            case measure => simp [intOf]; omega
        · obtain rfl : p = g[k].needs.length := by omega
          have hnx := HNX.out
          rw [HNE.out] at hnx
          rw [hnx] at hB
          go_wp2
          go_roundw
          case rel => exact ⟨k + 1, by omega, by go_num, hB, hb⟩
          case measure => simp [intOf]; omega
    · obtain rfl : k = g.length := by omega
      go_wp2
      go_ret
      have hsl := Bs.openC_len g d
      refine ⟨⟨some ⟨w.heap.size, 0, none⟩, g.length, ?_, ?_⟩, hb⟩
      · rw [hsl]
        rfl
      · have := hB.oi (Nat.le_refl _) (by rw [Bs.openA_len]; omega)
        rw [Bs.openA_len] at this
        exact this
end Go.Proofs.Ytihgakbopkaemaa
namespace Go.Proofs.Ytihgakbopkaemaa
open Go.RowKit
theorem inG_eight {g : List Bs.T} {d : List Int} (hF : Bs.fine g = true) (h : Bs.inG g d = true) : ∀ x ∈ d, 0 ≤ x ∧ x < 8 := by
  intro x hx
  have h1 := Bs.inG_mem h x hx
  have h2 := Bs.fine_len hF
  omega
theorem asc_flip (g : List Bs.T) (d : List Int) : (Bs.allInB d 0 ((g.length : Int) - 1) && Bs.asc d) = Bs.inG g d := by
  unfold Bs.inG
  exact Bool.and_comm _ _
theorem vdone_no {g : List Bs.T} {d : List Int} (h : Bs.inG g d = false) : Bs.vdone g d = false := by
  cases hv : Bs.vdone g d
  · rfl
  · rw [(Bs.vdone_iff.1 hv).2.1] at h; exact h
set_option maxHeartbeats 1600000 in
theorem ValidDone_any (A : Option Addr) (c : Nat) (g : List Bs.T) (A' : Option Addr) (c' : Nat) (d : List Int) (lo hi lo' hi' : Nat) (w : World) (h : RG w lo hi A g) (hh : hi ≤ w.heap.size) (h' : RI w lo' hi' A' d) (hh' : hi' ≤ w.heap.size) (hl : g.length ≤ 9223372036854775807) (hd : d.length ≤ 9223372036854775807) :
    Calls Try.prog 20 #[.slice A g.length c, .slice A' d.length c'] w fun e w' => e = .returned (.bool (Bs.vdone g d)) ∧ Below w.heap.size w w' := by
  have c1 := ValidGraph_any A c g lo hi w h hh hl
  cases hv : Bs.valid g
  · rw [hv] at c1
    have C1 := Lib.hid c1
    have HV := Lib.hid (Bs.vdone_no1 (d := d) hv)
    clear c1 hv
    go_enter Try.func20, Try.ntmps20
    go_wp2_with fail
    refine (C1.out).mono ?_
    rintro e w1 ⟨rfl, hb⟩
    have HB := Lib.hid hb
    clear hb
    go_wp2
    go_ret
    exact ⟨ret_bool HV.out.symm, HB.out⟩
  · have hF := valid_fine hv
    have h8 := Bs.fine_len hF
    have c2 := fun W (hb : Below w.heap.size w W) => ascendingTasks_any A g.length c A' c' d lo' hi' W (by omega) (h'.below hb hh') hd
    rw [asc_flip] at c2
    rw [hv] at c1
    cases ha : Bs.inG g d
    · rw [ha] at c2
      have C1 := Lib.hid c1
      have C2 := Lib.hid c2
      have HV := Lib.hid (vdone_no ha)
      clear c1 c2 hv ha
      go_enter Try.func20, Try.ntmps20
      go_wp2_with fail
      refine (C1.out).mono ?_
      rintro e w1 ⟨rfl, hb⟩
      have HB := Lib.hid hb
      clear hb
      go_wp2_with fail
      refine (C2.out _ HB.out).mono ?_
      rintro e w2 ⟨rfl, rfl⟩
      go_wp2
      go_ret
      exact ⟨ret_bool HV.out.symm, HB.out⟩
    · rw [ha] at c2
      have hd8 := inG_eight hF ha
      have hdl := Bs.inG_len ha
      have ha2 := ha
      unfold Bs.inG at ha2
      rw [Bool.and_eq_true] at ha2
      have c3 := fun W (hb : Below w.heap.size w W) => setOf_any A' c' d lo' hi' W (h'.below hb hh') hd hd8
      have c4 := fun W (hb : Below w.heap.size w W) => openNeeds_any A c g d lo hi W (h.below hb hh) (Nat.le_trans hh hb.size) hF hd8
      have HV := Lib.hid (Bs.vdone_at hv ha2.1 ha2.2)
      have HM := Lib.hid (Bs.inG_mem ha)
      have hoc := Bs.openC_len g d
      have HOA := Lib.hid (fun i hi => Bs.openC_at (g := g) (d := d) (i := i) hi)
      have HMP := Lib.hid (Bs.missC_pos g d)
      have HMS := Lib.hid (fun i => Bs.missC_small hF d (i := i) _ (Nat.le_refl _))
      have C1 := Lib.hid c1
      have C2 := Lib.hid c2
      have C3 := Lib.hid c3
      have C4 := Lib.hid c4
      have HD := Lib.hid h'
      clear c1 c2 c3 c4 hv ha ha2 hF hd8 h h'
      generalize Bs.openC g d = L at *
      generalize Bs.bits d = D at *
      go_enter Try.func20, Try.ntmps20
      go_wp2_with fail
      refine (C1.out).mono ?_
      rintro e w1 ⟨rfl, hb⟩
      have HB := Lib.hid hb
      clear hb
      go_wp2_with fail
      refine (C2.out _ HB.out).mono ?_
      rintro e w2 ⟨rfl, rfl⟩
      go_wp2_with fail
      refine (C3.out _ HB.out).mono ?_
      rintro e w2 ⟨rfl, rfl⟩
      go_wp2_with fail
      refine (C4.out _ HB.out).mono ?_
      rintro e w2 ⟨⟨A2, c2, rfl, ho⟩, hb2⟩
      have HB2 := Lib.hid (HB.out.trans (hb2.mono HB.out.size))
      have hr2 := ho.ri
      have HDr := Lib.hid (HD.out.below HB2.out hh')
      clear hb2 ho C1 C2 C3 C4
      go_wp2
      go_loop [23] (fun i => ∃ k : Nat, k ≤ d.length ∧ i = .int .i64 k ∧ (d.take k).all (fun x => (Bs.need g x.toNat).all fun y => d.contains y) = true) (fun i => d.length - (intOf i).toNat)
      case atStart => exact ⟨0, Nat.zero_le _, rfl, by simp⟩
      case round =>
        obtain ⟨k, hk, rfl, hall⟩ := hrel
        by_cases hlt : k < d.length
        · obtain ⟨b, o, rfl, _, _, hc⟩ := HDr.out.at_ hlt
          have hm := HM.out _ (List.getElem_mem hlt)
          have HT := Lib.hid (Bs.all_take d (fun x => (Bs.need g x.toNat).all fun y => d.contains y) k hlt)
          have HFA := Lib.hid (fun h => Bs.all_false_at (p := fun x => (Bs.need g x.toNat).all fun y => d.contains y) hlt h)
          have HA := Lib.hid hall
          clear hall
          obtain ⟨x, hx⟩ : ∃ x : Nat, d[k] = (x : Int) := ⟨d[k].toNat, by omega⟩
          rw [hx] at hc hm
          have hxl : x < L.length := by omega
          obtain ⟨b2, o2, rfl, _, _, hc2⟩ := hr2.at_ hxl
          have e1 := HOA.out x (by omega)
          rw [gi_at hxl] at e1
          rw [e1] at hc2
          have e2 := HMP.out x
          have e3 := HMS.out x
          simp only [hx, Int.toNat_natCast] at HT HFA
          clear e1 hx
          generalize Bs.missC g d x (Bs.need g x).length = m at *
          cases hp : ((Bs.need g x).all fun y => d.contains y)
          · rw [hp] at e2 HFA
            have HFB := Lib.hid (HFA.out rfl)
            clear HFA
            have e4 : decide (0 < m) = true := by rw [Bool.not_false, decide_eq_true_eq] at e2; simp; omega
            clear hp
            go_wp2
            go_ret
            exact ⟨ret_bool (by rw [HV.out, HFB.out]), HB2.out⟩
          · rw [hp] at e2 HT
            have e4 : m = 0 := by rw [Bool.not_true, decide_eq_false_iff_not] at e2; omega
            clear hp
            subst e4
            go_wp2
            go_round
            case rel => exact ⟨k + 1, by omega, by go_num, by rw [HT.out, HA.out]; rfl⟩
            case measure => simp [intOf]; omega
        · obtain rfl : k = d.length := by omega
          have HA := Lib.hid (show d.all _ = true from by rw [List.take_length] at hall; exact hall)
          clear hall
          go_wp2
          go_ret
          exact ⟨ret_bool (by rw [HV.out, HA.out]), HB2.out⟩
end Go.Proofs.Ytihgakbopkaemaa
namespace Go.Proofs.Ytihgakbopkaemaa
open Go.RowKit
theorem missC_dec (g : List Bs.T) (d : List Int) (k : Nat) : Bs.okNext g d k = (((Bs.missC g d k (Bs.need g k).length : Int) == 0) && !d.contains (k : Int)) := by
  rw [Bs.missC_all]
  unfold Bs.okNext
  exact Bool.and_comm _ _
set_option maxHeartbeats 1600000 in
theorem ReadyTasks_any (A : Option Addr) (c : Nat) (g : List Bs.T) (A' : Option Addr) (c' : Nat) (d : List Int) (lo hi lo' hi' : Nat) (w : World) (h : RG w lo hi A g) (hh : hi ≤ w.heap.size) (h' : RI w lo' hi' A' d) (hh' : hi' ≤ w.heap.size) (hl : g.length ≤ 9223372036854775807) (hd : d.length ≤ 9223372036854775807) :
    Calls Try.prog 106 #[.slice A g.length c, .slice A' d.length c'] w (RetI w (Bs.readyL g d)) := by
  have c1 := ValidDone_any A c g A' c' d lo hi lo' hi' w h hh h' hh' hl hd
  cases hv : Bs.vdone g d
  · rw [hv] at c1
    have C1 := Lib.hid c1
    have HV := Lib.hid (readyL_no hv)
    clear c1 hv h h'
    go_enter Try.func106, Try.ntmps106
    go_wp2_with fail
    refine (C1.out).mono ?_
    rintro e w1 ⟨rfl, hb⟩
    have HB := Lib.hid hb
    clear hb
    go_wp2
    go_ret
    exact RetI.nil HB.out HV.out
  · obtain ⟨hg, hin, _⟩ := Bs.vdone_iff.1 hv
    have hF := valid_fine hg
    have h8 := Bs.fine_len hF
    have hd8 := inG_eight hF hin
    have hdl := Bs.inG_len hin
    rw [hv] at c1
    have c3 := fun W (hb : Below w.heap.size w W) => setOf_any A' c' d lo' hi' W (h'.below hb hh') hd hd8
    have c4 := fun W (hb : Below w.heap.size w W) => openNeeds_any A c g d lo hi W (h.below hb hh) (Nat.le_trans hh hb.size) hF hd8
    have hoc := Bs.openC_len g d
    have HOA := Lib.hid (fun i hi => Bs.openC_at (g := g) (d := d) (i := i) hi)
    have HOK := Lib.hid (missC_dec g d)
    have HMS := Lib.hid (fun i => Bs.missC_small hF d (i := i) _ (Nat.le_refl _))
    have hD8 := Bs.bits_lt d hd8
    have HD := Lib.hid (Bs.bits_test d (fun x hx => (hd8 x hx).1))
    have HV := Lib.hid (readyL_yes hv)
    have C1 := Lib.hid c1
    have C3 := Lib.hid c3
    have C4 := Lib.hid c4
    clear c1 c3 c4 hv h h' hg hin hF hd8
    generalize Bs.openC g d = L at *
    generalize Bs.bits d = D at *
    go_enter Try.func106, Try.ntmps106
    go_wp2_with fail
    refine (C1.out).mono ?_
    rintro e w1 ⟨rfl, hb⟩
    have HB := Lib.hid hb
    have s1 := hb.size
    clear hb
    go_wp2_with fail
    refine (C3.out _ HB.out).mono ?_
    rintro e w2 ⟨rfl, rfl⟩
    have HB1 := Lib.hid (HB.out.alloc s1 (.cells #[] 3))
    have HO1 := Lib.hid (OI.new w1 w.heap.size s1)
    go_wp2_with fail
    refine (C4.out _ HB1.out).mono ?_
    rintro e w2 ⟨⟨A2, c2, rfl, ho⟩, hb2⟩
    have HB2 := Lib.hid (HB1.out.trans (hb2.mono HB1.out.size))
    have HO2 := Lib.hid (HO1.out.below hb2 (Nat.le_refl _))
    have hr2 := ho.ri
    clear hb2 ho C1 C3 C4 HO1
    have s2 := HB2.out.size
    go_wp2
    go_loopw [6, 20] (fun v i wr => ∃ (k : Nat) (A3 : Option Addr) (c3 : Nat), k ≤ g.length ∧ i = .int .i64 k ∧ v = .slice A3 (Bs.pick k (Bs.okNext g d)).length c3 ∧ OZ wr w2.heap.size A3 c3 (Bs.pick k (Bs.okNext g d)) ∧ OI wr w.heap.size A3 c3 (Bs.pick k (Bs.okNext g d)) ∧ Below w2.heap.size w2 wr) (fun _ i _ => g.length - (intOf i).toNat)
    case atStart => exact ⟨0, _, _, Nat.zero_le _, rfl, rfl, .inl ⟨rfl, rfl⟩, HO2.out, Below.refl _ _⟩
    case round =>
      obtain ⟨k, A3, c3, hk, rfl, rfl, hz, ho, hb⟩ := hrel
      have sr := hb.size
      have hrr := hr2.below hb (Nat.le_refl _)
      have HBr := Lib.hid hb
      have HZ := Lib.hid hz
      have HO := Lib.hid ho
      have hpl := Bs.pick_len k (Bs.okNext g d)
      clear hb hz ho
      by_cases hlt : k < g.length
      · obtain ⟨b2, o2, rfl, _, _, hc2⟩ := hrr.at_ (show k < L.length by omega)
        have e1 := HOA.out k hlt
        rw [gi_at (show k < L.length by omega)] at e1
        rw [e1] at hc2
        have e2 := HOK.out k
        have e3 := HMS.out k
        have c3 := fun W => hasTask_any D k W hD8 (by omega)
        rw [HD.out k] at c3
        have hP := fun h => Bs.pick_snoc k (Bs.okNext g d) h
        have hK := fun h => Bs.pick_skip k (Bs.okNext g d) h
        clear e1
        generalize Bs.missC g d k (Bs.need g k).length = m at *
        generalize Bs.pick k (Bs.okNext g d) = P at *
        by_cases hm : m = 0
        · subst hm
          cases hv : d.contains (k : Int)
          · rw [hv] at c3 e2
            have HP := Lib.hid (hP (by rw [e2]; rfl))
            have C3 := Lib.hid c3
            clear c3 hv e2 hP hK
            go_wp2_with (first | (go_at_call 80; refine (C3.out _).mono ?_; rintro e w' ⟨rfl, rfl⟩) | (at_builtin; go_loud (refine push_z rfl _ _ rfl w2.heap.size A3 _ P (k : Int) rfl (HZ.out.alloc _) wr.heap.size 1 rfl (by simp [go_sem]) (by omega) (by simp; omega) ?_; intro A4 c4 w4 ho4 hb4)))
            go_roundw
            case rel => exact ⟨k + 1, A4, c4, by omega, by go_num, by rw [HP.out, List.length_append]; rfl, .inr (by rw [HP.out]; exact ho4), by rw [HP.out]; exact ho4.base (by omega), (HBr.out.alloc sr _).trans hb4⟩
            case measure => simp [intOf]; omega
          · rw [hv] at c3 e2
            have HK := Lib.hid (hK (by rw [e2]; rfl))
            have C3 := Lib.hid c3
            clear c3 hv e2 hP hK
            go_wp2_with (go_at_call 80; refine (C3.out _).mono ?_; rintro e w' ⟨rfl, rfl⟩)
            go_roundw
            case rel => exact ⟨k + 1, A3, _, by omega, by go_num, by rw [HK.out], by rw [HK.out]; exact HZ.out, by rw [HK.out]; exact HO.out, HBr.out⟩
            case measure => simp [intOf]; omega
        · have e4 : ((m : Int) == 0) = false := by rw [beq_eq_false_iff_ne]; omega
          rw [e4] at e2
          have HK := Lib.hid (hK e2)
          clear e2 hP hK c3 hm
          go_wp2_with fail
          go_roundw
          case rel => exact ⟨k + 1, A3, _, by omega, by go_num, by rw [HK.out], by rw [HK.out]; exact HZ.out, by rw [HK.out]; exact HO.out, HBr.out⟩
          case measure => simp [intOf]; omega
      · obtain rfl : k = g.length := by omega
        go_wp2
        go_ret
        rw [HV.out]
        exact ⟨⟨A3, c3, rfl, HO.out⟩, HB2.out.trans (HBr.out.mono s2)⟩
end Go.Proofs.Ytihgakbopkaemaa
namespace Go.Proofs.Ytihgakbopkaemaa
open Go.RowKit
theorem pick_less {m n : Nat} (p : Nat → Bool) (h : n ≤ m) (hp : ∀ i, n ≤ i → i < m → p i = false) : Bs.pick m p = Bs.pick n p := by
  induction m with
  | zero =>
    have : n = 0 := by omega
    rw [this]
  | succ m ih =>
    by_cases e : n = m + 1
    · rw [e]
    · rw [Bs.pick_skip m p (hp m (by omega) (by omega)), ih (by omega) (fun i h1 h2 => hp i h1 (by omega))]
theorem fin_bits {g : List Bs.T} {d : List Int} {a : Nat} (hF : Bs.fine g = true) (hin : Bs.inG g d = true) (ha : a < g.length) :
    Bs.pick 8 (fun j => (Bs.bits d ||| Bs.bits [(a : Int)]).testBit j) = Bs.finC g d a := by
  have h8 := Bs.fine_len hF
  have hm := Bs.inG_mem hin
  have e : ∀ j : Nat, (Bs.bits d ||| Bs.bits [(a : Int)]).testBit j = (((j : Int) == (a : Int)) || d.contains (j : Int)) := by
    intro j
    rw [Nat.testBit_or, Bs.bits_test d (fun x hx => (hm x hx).1), Bs.bits_test [(a : Int)] (fun x hx => by simp at hx; omega), Bool.or_comm, List.contains_cons, List.contains_nil, Bool.or_false]
  rw [pick_less (n := g.length) _ h8 ?_]
  · exact Bs.pick_congr _ _ _ (fun i _ => e i)
  · intro i h1 _
    rw [e i]
    have h2 : ((i : Int) == (a : Int)) = false := by rw [beq_eq_false_iff_ne]; omega
    rw [h2, Bool.false_or]
    cases hc : d.contains (i : Int)
    · rfl
    · have := hm _ (by simpa using hc)
      omega
theorem finOk_eq (g : List Bs.T) (d : List Int) (a : Int) : Bs.finOk g d a = (Bs.readyL g d).contains a := by
  unfold Bs.finOk Bs.readyL
  cases Bs.vdone g d <;> simp
theorem readyL_len' (g : List Bs.T) (d : List Int) : (Bs.readyL g d).length ≤ g.length := by
  unfold Bs.readyL
  split
  · exact Bs.readyC_len g d
  · exact Nat.zero_le _
theorem wait_bits {g : List Bs.T} {d : List Int} {a : Nat} (hF : Bs.fine g = true) (hin : Bs.inG g d = true) (ha : a < g.length) :
    Bs.pick 8 (fun j => (Bs.bits g[a].needs &&& (18446744073709551615 - Bs.bits d)).testBit j) = Bs.waitsC g d a := by
  have hn := Bs.fine_inG hF ha
  have h8 := inG_eight hF hn
  have hd8 := inG_eight hF hin
  have hA : Bs.asc g[a].needs = true := by unfold Bs.inG at hn; rw [Bool.and_eq_true] at hn; exact hn.1
  unfold Bs.waitsC
  rw [Int.toNat_natCast, Bs.need_eq ha]
  refine Bs.pick_filter hA h8 ?_
  intro j
  rw [Bs.minus_test _ _ (Bs.bits_lt _ h8) (Bs.bits_lt _ hd8), Bs.bits_test _ (fun x hx => (h8 x hx).1), Bs.bits_test _ (fun x hx => (hd8 x hx).1)]
end Go.Proofs.Ytihgakbopkaemaa
