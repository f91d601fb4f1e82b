/-
  WALKS: outcomes, of the model.
-/
import Derived.Test.YthllincpbiafcaaK1
import Derived.Test.YthllincpbiafcaaK8
import Derived.Test.YthllincpbiafcaaMath61
namespace Go.Proofs.Ythllincpbiafcaa
open Go.RowKit
theorem validFailsS_any (A : Option Addr) (c : Nat) (g : List Bs.T) (A1 : Option Addr) (c1 : Nat) (F : List Int) (lo hi l1 h1 : Nat) (w : World) (h : RG w lo hi A g) (hh : hi ≤ w.heap.size) (hF : RI w l1 h1 A1 F) (hh1 : h1 ≤ w.heap.size) (hl : g.length ≤ 9223372036854775807) (hFl : F.length ≤ 9223372036854775807) :
    Calls Try.prog 31 #[.slice A g.length c, .slice A1 F.length c1] w fun e w' => e = .returned (.bool (Bs.valid g && Bs.inG g F)) ∧ Below w.heap.size w w' := by
  have q1 := validGraphS_any A c g lo hi w h hh hl
  have q2 := fun W (hb : Below w.heap.size w W) => ascends_any A1 c1 F l1 h1 W (hF.below hb hh1) hFl
  have q3 := fun W (hb : Below w.heap.size w W) => allIn_any A1 c1 F 0 ((g.length : Int) - 1) l1 h1 W (hF.below hb hh1) hFl
  have HE := Lib.hid (show Bs.inG g F = (Bs.asc F && Bs.allInB F 0 ((g.length : Int) - 1)) from rfl)
  clear h hF
  generalize Bs.valid g = v1 at *
  generalize Bs.asc F = v2 at *
  generalize Bs.allInB F 0 ((g.length : Int) - 1) = v3 at *
  have C1 := Lib.hid q1
  have C2 := Lib.hid q2
  have C3 := Lib.hid q3
  clear q1 q2 q3
  have hw : IntKind.i64.wrap ((g.length : Int) - 1) = (g.length : Int) - 1 := IntWalk.i64_in _ ⟨by omega, by omega⟩
  cases v1
  · go_enter Try.func31, Try.ntmps31
    go_wp2_with fail
    with_reducible refine (C1.out).mono ?_
    rintro e w1 ⟨rfl, hb⟩
    have HB := Lib.hid hb
    clear hb
    go_wp2
    go_ret
    exact ⟨ret_bool (by rw [HE.out]; rfl), HB.out⟩
  · cases v2
    · go_enter Try.func31, Try.ntmps31
      go_wp2_with fail
      with_reducible refine (C1.out).mono ?_
      rintro e w1 ⟨rfl, hb⟩
      have HB := Lib.hid hb
      clear hb
      go_wp2_with fail
      with_reducible refine (C2.out _ HB.out).mono ?_
      rintro e w2 ⟨rfl, n, rfl⟩
      go_wp2
      go_ret
      exact ⟨ret_bool (by rw [HE.out]; rfl), HB.out.drewN _⟩
    · go_enter Try.func31, Try.ntmps31
      go_wp2_with fail
      with_reducible refine (C1.out).mono ?_
      rintro e w1 ⟨rfl, hb⟩
      have HB := Lib.hid hb
      clear hb
      go_wp2_with fail
      with_reducible refine (C2.out _ HB.out).mono ?_
      rintro e w2 ⟨rfl, n, rfl⟩
      have HBn := Lib.hid (HB.out.drewN n)
      go_wp2_with fail
      with_reducible refine (C3.out _ HBn.out).mono ?_
      rintro e w3 ⟨rfl, rfl⟩
      go_wp2
      go_ret
      exact ⟨ret_bool (by rw [HE.out]; simp), HBn.out⟩
set_option maxHeartbeats 800000 in
theorem needsFine_any (A : Option Addr) (c : Nat) (l : List Int) (A1 : Option Addr) (c1 : Nat) (o : List Int) (lo hi l1 h1 : Nat) (w : World) (h : RI w lo hi A l) (h' : RI w l1 h1 A1 o) (hl : l.length ≤ 100) (hin : ∀ x ∈ l, 0 ≤ x ∧ x < o.length) :
    Calls Try.prog 58 #[.slice A l.length c, .slice A1 o.length c1] w fun e w' => e = .returned (.bool (l.all fun x => Bs.gi o x.toNat == 0)) ∧ w = w' := by
  have HN8 := Lib.hid (fun k (hk : k < l.length) => hin _ (List.getElem_mem hk))
  have HAT := Lib.hid (fun k (hk : k < l.length) => Bs.all_take l (fun x => Bs.gi o x.toNat == 0) k hk)
  have HAF := Lib.hid (fun k (hk : k < l.length) h => Bs.all_false_at (l := l) (p := fun x => Bs.gi o x.toNat == 0) (j := k) hk h)
  have HGA := Lib.hid (fun v (hv : v < o.length) => Bs.gi_at (l := o) hv)
  obtain ⟨V, hV⟩ : ∃ V, V = (l.all fun x => Bs.gi o x.toNat == 0) := ⟨_, rfl⟩
  rw [← hV]
  have HV := Lib.hid hV
  have HR := Lib.hid h
  have HO := Lib.hid h'
  clear hin hV h h'
  go_enter Try.func58, Try.ntmps58
  go_wp2
  go_loop [5] (fun i => ∃ k : Nat, k ≤ l.length ∧ i = .int .i64 k ∧ ((l.take k).all fun x => Bs.gi o x.toNat == 0) = true) (fun i => l.length - (intOf i).toNat)
  case atStart => exact ⟨0, Nat.zero_le _, rfl, rfl⟩
  case round =>
    obtain ⟨k, hk, rfl, hall⟩ := hrel
    by_cases hlt : k < l.length
    · obtain ⟨b, off, rfl, _, _, hc⟩ := HR.out.at_ hlt
      have hx := HN8.out k hlt
      have hat := HAT.out k hlt
      have haf := HAF.out k hlt
      rw [hall, Bool.true_and] at hat
      obtain ⟨v, hv⟩ : ∃ v : Nat, l[k] = (v : Int) := ⟨l[k].toNat, by omega⟩
      rw [hv] at hc hx
      rw [hv, Int.toNat_natCast] at hat haf
      have hvo : v < o.length := by omega
      obtain ⟨b2, off2, rfl, _, _, hc2⟩ := HO.out.at_ hvo
      rw [← HGA.out v hvo] at hc2
      have i0 : (0 : Int) ≤ (v : Int) := by omega
      have i1 : (v : Int) < (o.length : Int) := by omega
      have d1 : (k : Int) < (l.length : Int) := by omega
      have H1 := Lib.hid hat
      have H2 := Lib.hid haf
      clear hat haf hall hv hx HAT HAF HN8 HGA
      generalize Bs.gi o v = q at *
      by_cases hq : q = 0
      · subst hq
        clear H2
        go_wp2
        go_round
        case rel => exact ⟨k + 1, by omega, by go_num, by rw [H1.out]; rfl⟩
        case measure => simp [intOf]; omega
      · have d2 : (q == 0) = false := by rw [beq_eq_false_iff_ne]; exact hq
        have d3 : (q != 0) = true := by simp [hq]
        have HE := Lib.hid (H2.out (by simp [hq]))
        clear H1 H2 hq
        go_wp2
        go_ret
        exact ⟨ret_bool (by rw [HV.out, HE.out]), rfl⟩
    · obtain rfl : k = l.length := by omega
      rw [List.take_length] at hall
      have HE := Lib.hid hall
      clear hall
      go_wp2
      go_ret
      exact ⟨ret_bool (by rw [HV.out, HE.out]), rfl⟩
set_option maxHeartbeats 3200000 in
theorem outcomeS_any (A : Option Addr) (c : Nat) (g : List Bs.T) (A1 : Option Addr) (c1 : Nat) (F : List Int) (keep : Int) (lo hi l1 h1 : Nat) (w : World) (h : RG w lo hi A g) (hh : hi ≤ w.heap.size) (hF : RI w l1 h1 A1 F) (hh1 : h1 ≤ w.heap.size) (hFl : F.length ≤ 9223372036854775807) (hv : Bs.valid g = true) :
    Calls Try.prog 33 #[.slice A g.length c, .slice A1 F.length c1, .int .i64 keep] w (RetI w (Bs.outC g F keep)) := by
  obtain ⟨hf, hg⟩ := (Bs.valid_iff g).1 hv
  have h8 := Bs.fine_len hf
  have hmk := make_ints g.length (by omega) w
  have a1 : Arr (w.alloc (.cells (intsA (List.replicate g.length 0)) 3)) w.heap.size (List.replicate g.length 0) := Blk.new _ 3 _
  have hal : Below w.heap.size w (w.alloc (.cells (intsA (List.replicate g.length 0)) 3)) := (Below.refl _ _).alloc (Nat.le_refl _) _
  have hsz : (w.alloc (.cells (intsA (List.replicate g.length 0)) 3)).heap.size = w.heap.size + 1 := by simp
  have C2 := Lib.hid (topOrder_ret A c g lo hi _ (h.below hal hh) (by omega) h8)
  have C4 := Lib.hid (fun v W (hb : Below w.heap.size w W) => isIn_any A1 c1 F v l1 h1 W (hF.below hb hh1) hFl)
  have HNI := Lib.hid (fun v (hv : v < g.length) => And.intro (Bs.fine_needs_len hf hv) (fun x (hx : x ∈ g[v].needs) => Bs.fine_need hf (i := v) (x := x) (by rw [need_at hv]; exact hx)))
  have HFO := Lib.hid (fun o v (hv : v < g.length) => show Bs.fineO g o v = (g[v].needs.all fun x => Bs.gi o x.toNat == 0) from by unfold Bs.fineO; rw [need_at hv])
  have HKL := Lib.hid (fun k hk => Bs.outK_len g F keep k hk)
  have HKS := Lib.hid (fun k hk => show Bs.outK g F keep (k + 1) = ((Bs.outK g F keep k).1.set (Bs.top g)[k].toNat (Bs.outV g F keep (Bs.outK g F keep k).1 (Bs.outK g F keep k).2 (Bs.top g)[k].toNat), (Bs.outK g F keep k).2 + Bs.oneIf (Bs.outV g F keep (Bs.outK g F keep k).1 (Bs.outK g F keep k).2 (Bs.top g)[k].toNat)) from Bs.outK_succ g F keep k hk)
  have HTR := Lib.hid (fun k (hk : k < (Bs.top g).length) => Bs.top_range (g := g) hk)
  have HTL := Lib.hid (show (Bs.top g).length = g.length from hg)
  have HCC := Lib.hid (show (Bs.outK g F keep (Bs.top g).length).1 = Bs.outC g F keep from rfl)
  have HOV := Lib.hid (fun o fa v => show Bs.outV g F keep o fa v = if keep ≤ fa then 3 else if !Bs.fineO g o v then 2 else if F.contains (v : Int) then 1 else 0 from rfl)
  have HG := Lib.hid h
  have HA1 := Lib.hid a1
  have HAL := Lib.hid hal
  have H00 := Lib.hid (show List.replicate g.length 0 = (Bs.outK g F keep 0).1 ∧ (0 : Int) = (Bs.outK g F keep 0).2 from ⟨rfl, rfl⟩)
  clear hf hg h hF hv a1 hal
  go_enter Try.func33, Try.ntmps33
  generalize (.cells (intsA (List.replicate g.length 0)) 3 : Obj) = ob at *
  go_wp2_with fail
  with_reducible refine (C2.out).mono ?_
  rintro e w2 ⟨⟨A2, c2, rfl, ho2⟩, hb2⟩
  have hA2 := HA1.out.below hb2 HA1.out.lt
  have hB2 := HAL.out.trans (hb2.mono HAL.out.size)
  have hr2 := ho2.ri
  have hsz2 : w.heap.size + 1 ≤ w2.heap.size := by have := hb2.size; omega
  rw [hsz] at hr2
  rw [H00.out.1] at hA2
  have HA2 := Lib.hid hA2
  have HB2 := Lib.hid hB2
  have HR2 := Lib.hid hr2
  clear C2 ho2 hb2 hA2 hB2 hr2 HAL HA1 hmk
  generalize hT : Bs.top g = T at *
  clear hT
  go_wp2
  go_loopw [9, 10] (fun fv i wr => ∃ (k : Nat), k ≤ T.length ∧ fv = .int .i64 (Bs.outK g F keep k).2 ∧ i = .int .i64 k ∧ Arr wr w.heap.size (Bs.outK g F keep k).1 ∧ RI wr (w.heap.size + 1) w2.heap.size A2 T ∧ w2.heap.size ≤ wr.heap.size ∧ Below w.heap.size w wr) (fun _ i _ => T.length - (intOf i).toNat)
  case atStart => exact ⟨0, Nat.zero_le _, by rw [← H00.out.2], rfl, HA2.out, HR2.out, Nat.le_refl _, HB2.out⟩
  case round =>
    obtain ⟨k, hk, rfl, rfl, hA, hr, hs2, hb⟩ := hrel
    clear HA2 HR2 HB2 H00
    by_cases hlt : k < T.length
    · obtain ⟨bt, ot, rfl, hbl, hbt, hct⟩ := hr.at_ hlt
      have htr := HTR.out k hlt
      obtain ⟨v, hv⟩ : ∃ v : Nat, T[k] = (v : Int) := ⟨T[k].toNat, by omega⟩
      have hks := HKS.out k hlt
      have hkl := HKL.out k hk
      rw [hv] at hct htr hks
      rw [Int.toNat_natCast] at hks
      generalize (Bs.outK g F keep k).1 = o at *
      generalize (Bs.outK g F keep k).2 = fa at *
      have hvg : v < g.length := by omega
      have hk8' : k < 8 := by have := HTL.out; omega
      have hol : v < o.length := by omega
      have hov := HOV.out o fa v
      have kc := hA.cell (i := v) hol
      have kf := hA.frozen v
      have i0 : (0 : Int) ≤ (v : Int) := by omega
      have i1 : (v : Int) < (g.length : Int) := by omega
      have i2 : (v : Int) < (o.length : Int) := by omega
      have d1 : (k : Int) < (T.length : Int) := by omega
      have hwf : IntKind.i64.wrap (fa + 1) = fa + 1 := IntWalk.i64_in _ ⟨by omega, by omega⟩
      have HOL := Lib.hid hkl.1
      have hni := HNI.out v hvg
      have hst : ∀ (W : World) (x : Int), Below w.heap.size w W → Arr W w.heap.size o → RI W (w.heap.size + 1) w2.heap.size (some ⟨bt, ot, none⟩) T → w2.heap.size ≤ W.heap.size → Arr (W.setCell ⟨w.heap.size, v, none⟩ (.int .i64 x)) w.heap.size (o.set v x) ∧ RI (W.setCell ⟨w.heap.size, v, none⟩ (.int .i64 x)) (w.heap.size + 1) w2.heap.size (some ⟨bt, ot, none⟩) T ∧ w2.heap.size ≤ (W.setCell ⟨w.heap.size, v, none⟩ (.int .i64 x)).heap.size ∧ Below w.heap.size w (W.setCell ⟨w.heap.size, v, none⟩ (.int .i64 x)) := by
        intro W x h1 h2 h3 h4
        refine ⟨h2.set_ v x, h3.keep ?_, by simpa using h4, h1.setCell (by exact Nat.le_refl _) _⟩
        intro p p1 p2
        exact World.cell?_setCell_other _ _ _ _ (fun e => by rw [← e] at p1; simp at p1; omega)
      have HST := Lib.hid hst
      have HKN := Lib.hid hks
      have HA := Lib.hid hA
      have HR := Lib.hid hr
      have HB := Lib.hid hb
      have hfo := HFO.out o v hvg
      clear hst hA hr hb hks hv HKS HKL HTR HOV HFO HNI hsz
      by_cases hkp : keep ≤ fa
      · have hx := Lib.hid (show Bs.outV g F keep o fa v = 3 from by rw [hov, if_pos hkp])
        obtain ⟨t1, t2, t3, t4⟩ := HST.out wr 3 HB.out HA.out HR.out hs2
        have H1 := Lib.hid t1
        have H2 := Lib.hid t2
        have H3 := Lib.hid t3
        have H4 := Lib.hid t4
        clear t1 t2 t3 t4 HST hov hfo hni C4
        go_wp2
        go_roundw
        case rel => exact ⟨k + 1, by omega, by rw [HKN.out, hx.out]; simp [Bs.oneIf], by go_num, by rw [HKN.out, hx.out]; exact H1.out, H2.out, H3.out, H4.out⟩
        case measure => simp [intOf]; omega
      · rw [if_neg hkp, hfo] at hov
        obtain ⟨bg, og, N, cN, rfl, _, hgh, q0, q1, q2, q3, hlN, hcN, hN⟩ := (HG.out.below HB.out hh) v hvg
        have C5 := Lib.hid (needsFine_any N cN g[v].needs (some ⟨w.heap.size, 0, none⟩) o.length o lo hi _ _ wr hN (HA.out.oi (B := w.heap.size) (Nat.le_refl _) (by omega)).ri (by omega) (fun x hx => by have := hni.2 x hx; have := HOL.out; omega))
        rw [HOL.out] at C5
        have C6 := Lib.hid (C4.out (v : Int))
        have hct' := hct
        have hnlz : g[v].needs.length ≤ 100 := by omega
        generalize (g[v].needs.all fun x => Bs.gi o x.toNat == 0) = nd at *
        generalize F.contains (v : Int) = fc at *
        clear hfo hni hN q0 q2 q3 C4
        cases nd
        · have hx := Lib.hid (show Bs.outV g F keep o fa v = 2 from by rw [hov]; rfl)
          obtain ⟨t1, t2, t3, t4⟩ := HST.out wr 2 HB.out HA.out HR.out hs2
          have H1 := Lib.hid t1
          have H2 := Lib.hid t2
          have H3 := Lib.hid t3
          have H4 := Lib.hid t4
          clear t1 t2 t3 t4 HST hov C6
          go_wp2_with fail
          with_reducible refine (C5.out).mono ?_
          rintro e _ ⟨rfl, rfl⟩
          go_wp2
          go_roundw
          case rel => exact ⟨k + 1, by omega, by rw [HKN.out, hx.out]; simp [Bs.oneIf], by go_num, by rw [HKN.out, hx.out]; exact H1.out, H2.out, H3.out, H4.out⟩
          case measure => simp [intOf]; omega
        · cases fc
          · have hx := Lib.hid (show Bs.outV g F keep o fa v = 0 from by rw [hov]; rfl)
            obtain ⟨t1, t2, t3, t4⟩ := HST.out wr 0 HB.out HA.out HR.out hs2
            have H1 := Lib.hid t1
            have H2 := Lib.hid t2
            have H3 := Lib.hid t3
            have H4 := Lib.hid t4
            clear t1 t2 t3 t4 HST hov
            go_wp2_with fail
            with_reducible refine (C5.out).mono ?_
            rintro e _ ⟨rfl, rfl⟩
            go_wp2_with fail
            with_reducible refine (C6.out _ HB.out).mono ?_
            rintro e _ ⟨rfl, rfl⟩
            go_wp2
            go_roundw
            case rel => exact ⟨k + 1, by omega, by rw [HKN.out, hx.out]; simp [Bs.oneIf], by go_num, by rw [HKN.out, hx.out]; exact H1.out, H2.out, H3.out, H4.out⟩
            case measure => simp [intOf]; omega
          · have hx := Lib.hid (show Bs.outV g F keep o fa v = 1 from by rw [hov]; rfl)
            obtain ⟨t1, t2, t3, t4⟩ := HST.out wr 1 HB.out HA.out HR.out hs2
            have H1 := Lib.hid t1
            have H2 := Lib.hid t2
            have H3 := Lib.hid t3
            have H4 := Lib.hid t4
            clear t1 t2 t3 t4 HST hov
            go_wp2_with fail
            with_reducible refine (C5.out).mono ?_
            rintro e _ ⟨rfl, rfl⟩
            go_wp2_with fail
            with_reducible refine (C6.out _ HB.out).mono ?_
            rintro e _ ⟨rfl, rfl⟩
            go_wp2
            go_roundw
            case rel => exact ⟨k + 1, by omega, by rw [HKN.out, hx.out]; simp [Bs.oneIf], by go_num, by rw [HKN.out, hx.out]; exact H1.out, H2.out, H3.out, H4.out⟩
            case measure => simp [intOf]; omega
    · obtain rfl : k = T.length := by omega
      have hkl := HKL.out T.length hk
      have hO := hA.oi (B := w.heap.size) (Nat.le_refl _) (by omega)
      rw [HCC.out] at hO hkl
      rw [hkl.1] at hO
      have HL := Lib.hid hkl.1
      have HO := Lib.hid hO
      have HB := Lib.hid hb
      clear hA hO hb hr hkl HKS HKL HTR
      go_wp2
      go_ret
      refine ⟨⟨_, _, ?_, HO.out⟩, HB.out⟩
      rw [HL.out]
      rfl
theorem OutcomesS_any (A : Option Addr) (c : Nat) (g : List Bs.T) (A1 : Option Addr) (c1 : Nat) (F : List Int) (keep : Int) (lo hi l1 h1 : Nat) (w : World) (h : RG w lo hi A g) (hh : hi ≤ w.heap.size) (hF : RI w l1 h1 A1 F) (hh1 : h1 ≤ w.heap.size) (hl : g.length ≤ 9223372036854775807) (hFl : F.length ≤ 9223372036854775807) :
    Calls Try.prog 11 #[.slice A g.length c, .slice A1 F.length c1, .int .i64 keep] w (RetI w (Bs.outL g F keep)) := by
  have q1 := validFailsS_any A c g A1 c1 F lo hi l1 h1 w h hh hF hh1 hl hFl
  have q2 := fun W => inRange_any keep 1 8 W
  have he : Bs.canF g F keep = (Bs.valid g && Bs.inG g F && decide (1 ≤ keep ∧ keep ≤ 8)) := rfl
  cases h1' : (Bs.valid g && Bs.inG g F)
  · rw [h1'] at q1 he
    have C1 := Lib.hid q1
    have HV := Lib.hid (Bs.outL_no (by rw [he]; rfl))
    clear q1 q2 he h1' h hF
    go_enter Try.func11, Try.ntmps11
    go_wp2_with fail
    with_reducible refine (C1.out).mono ?_
    rintro e w1 ⟨rfl, hb⟩
    have HB := Lib.hid hb
    clear hb
    go_wp2
    go_ret
    exact RetI.nil HB.out HV.out
  · rw [h1'] at q1 he
    have C1 := Lib.hid q1
    cases h2' : decide (1 ≤ keep ∧ keep ≤ 8)
    · rw [h2'] at q2 he
      have C2 := Lib.hid q2
      have HV := Lib.hid (Bs.outL_no (by rw [he]; rfl))
      clear q1 q2 he h1' h2' h hF
      go_enter Try.func11, Try.ntmps11
      go_wp2_with fail
      with_reducible refine (C1.out).mono ?_
      rintro e w1 ⟨rfl, hb⟩
      have HB := Lib.hid hb
      clear hb
      go_wp2_with fail
      with_reducible refine (C2.out _).mono ?_
      rintro e w2 ⟨rfl, rfl⟩
      go_wp2
      go_ret
      exact RetI.nil HB.out HV.out
    · rw [h2'] at q2 he
      have C2 := Lib.hid q2
      have HV := Lib.hid (Bs.outL_yes (by rw [he]; rfl))
      have hval : Bs.valid g = true := by rw [Bool.and_eq_true] at h1'; exact h1'.1
      have C3 := Lib.hid (fun W (hb : Below w.heap.size w W) => outcomeS_any A c g A1 c1 F keep lo hi l1 h1 W (h.below hb hh) (Nat.le_trans hh hb.size) (hF.below hb hh1) (Nat.le_trans hh1 hb.size) hFl hval)
      clear q1 q2 he h1' h2' h hF hval
      go_enter Try.func11, Try.ntmps11
      go_wp2_with fail
      with_reducible refine (C1.out).mono ?_
      rintro e w1 ⟨rfl, hb⟩
      have HB := Lib.hid hb
      clear hb
      go_wp2_with fail
      with_reducible refine (C2.out _).mono ?_
      rintro e w2 ⟨rfl, rfl⟩
      go_wp2_with fail
      with_reducible refine (C3.out _ HB.out).mono ?_
      rintro e w3 ⟨⟨A3, c3, rfl, ho3⟩, hb3⟩
      have HO3 := Lib.hid (ho3.base HB.out.size)
      have HB3 := Lib.hid (HB.out.trans (hb3.mono HB.out.size))
      clear ho3 hb3
      go_wp2
      go_ret
      rw [HV.out]
      exact ⟨⟨A3, c3, rfl, HO3.out⟩, HB3.out⟩
end Go.Proofs.Ythllincpbiafcaa
