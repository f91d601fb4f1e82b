/-
  WALKS: beginnings by an order, of the model.
-/
import Derived.Test.YtfdaeomlgpflhaaR32
import Derived.Test.YtfdaeomlgpflhaaK15
namespace Go.Proofs.Ytfdaeomlgpflhaa
open Go.RowKit
set_option maxRecDepth 40000 in
set_option maxHeartbeats 3200000 in
theorem orderS_any (A : Option Addr) (c : Nat) (g : List Bs.T) (A1 : Option Addr) (c1 : Nat) (m : List Int) (wk : Int) (A2 : Option Addr) (c2 : Nat) (l : List Int) (lo hi l1 h1 l2 h2 : Nat) (w : World) (h : RG w lo hi A g) (hh : hi ≤ w.heap.size) (hm : RI w l1 h1 A1 m) (hh1 : h1 ≤ w.heap.size) (hs : RI w l2 h2 A2 l) (hh2 : h2 ≤ w.heap.size) (hF : Bs.fine g = true) (hroom : Bs.roomOk m = true) (hw1 : 1 ≤ wk) (ho : Bs.isOrd g l = true) :
    Calls Try.prog 67 #[.slice A g.length c, .slice A1 m.length c1, .int .i64 wk, .slice A2 l.length c2] w (RetI w (Bs.osK g m wk l l.length)) := by
  have h8 := Bs.fine_len hF
  have hmk := make_ints g.length (by omega) w
  obtain ⟨hlen, hat⟩ := Bs.isOrd_at ho
  have hl8 : l.length ≤ 8 := by omega
  have HP := Lib.hid (fun k (hk : k ≤ l.length) => Bs.Pla.all (m := m) (wk := wk) hF hroom hw1 ho k hk)
  have HFT := Lib.hid (fun (S : List Int) (hSl : S.length = g.length) (hSb : ∀ i, i < g.length → 0 ≤ Bs.giZ S i ∧ Bs.giZ S i ≤ 100000) (v : Nat) (hv : v < g.length) (t : Int) (ht : 0 ≤ t ∧ t ≤ 100000) W (hb : Below w.heap.size w W) (hA : Arr W w.heap.size S) => show Calls Try.prog 100 #[.slice A g.length c, .slice A1 m.length c1, .int .i64 wk, .slice (some ⟨w.heap.size, 0, none⟩) g.length g.length, .int .i64 (v : Int), .int .i64 t] W fun e w' => e = .returned (.bool (Bs.fitW g m wk S v t)) ∧ Below W.heap.size W w' from by
    have q := fitsS_any A c g A1 c1 m wk (some ⟨w.heap.size, 0, none⟩) g.length S v t lo hi l1 h1 _ _ W (h.below hb hh) (Nat.le_trans hh hb.size) (hm.below hb hh1) (Nat.le_trans hh1 hb.size) (hA.ri (by omega)) (Nat.le_refl _) hF hroom hSl hSb hv ht
    rw [hSl] at q
    exact q)
  have HLS := Lib.hid (fun (S L : List Int) (hp : Bs.Pla g m wk S L) (v : Nat) (hv : v < g.length) hn => hp.lst hF hroom hw1 (a := v) hv hn)
  have HPS := Lib.hid (fun (S L : List Int) (hp : Bs.Pla g m wk S L) => And.intro (hp.sm hF) (fun i => hp.b hF i))
  have HTT := Lib.hid (fun i (hi : i < g.length) => Bs.fine_time' hF hi)
  have HNI := Lib.hid (fun v (hv : v < g.length) => And.intro (Bs.inG_mem (Bs.fine_inG hF hv)) (Bs.fine_needs_len hF hv))
  have HAT := Lib.hid hat
  have HG := Lib.hid h
  have HL := Lib.hid hs
  have ha0 := Lib.hid (show Arr (w.alloc (.cells (intsA (List.replicate g.length 0)) 3)) w.heap.size (fillS g.length 0) from by unfold fillS; simp only [List.replicate_zero, List.nil_append, Nat.sub_zero]; exact Blk.new w _ _)
  have hb0 := Lib.hid (show Below w.heap.size w (w.alloc (.cells (intsA (List.replicate g.length 0)) 3)) from (Below.refl _ _).alloc (Nat.le_refl _) _)
  clear hF hroom ho hat hlen h hm hs
  generalize (.cells (intsA (List.replicate g.length 0)) 3 : Obj) = ob at *
  go_enter Try.func67, Try.ntmps67
  go_wp2
  go_loopw [10] (fun i wr => ∃ (k : Nat), k ≤ g.length ∧ i = .int .i64 k ∧ Arr wr w.heap.size (fillS g.length k) ∧ Below w.heap.size w wr) (fun i _ => g.length - (intOf i).toNat)
  case atStart => exact ⟨0, Nat.zero_le _, rfl, ha0.out, hb0.out⟩
  case round =>
    obtain ⟨k, hk, rfl, hA, hb⟩ := hrel
    clear ha0 hb0 hmk
    by_cases hlt : k < g.length
    · have hfl := fillS_len (n := g.length) (k := k) (by omega)
      have kc := hA.at_ (i := k) (by omega)
      have kf := hA.frozen k
      have hs := hA.set_ k 200
      rw [fillS_succ hlt] at hs
      have HS := Lib.hid hs
      have HB := Lib.hid hb
      have i0 : (0 : Int) ≤ (k : Int) := by omega
      have i1 : (k : Int) < (g.length : Int) := by omega
      clear hs hA hb hfl
      go_wp2
      go_roundw
      case rel => exact ⟨k + 1, by omega, by go_num, HS.out, HB.out.setCell (Nat.le_refl _) _⟩
      case measure => simp [intOf]; omega
    · obtain rfl : k = g.length := by omega
      have hA2 : Arr wr w.heap.size (Bs.osK g m wk l 0) := by
        have e : fillS g.length g.length = Bs.osK g m wk l 0 := by unfold fillS; simp [Bs.osK]
        rw [← e]
        exact hA
      have HA2 := Lib.hid hA2
      have HB2 := Lib.hid hb
      clear hA hA2 hb
      go_wp2
      go_loopw [11] (fun i wr => ∃ (k : Nat), k ≤ l.length ∧ i = .int .i64 k ∧ Arr wr w.heap.size (Bs.osK g m wk l k) ∧ Below w.heap.size w wr) (fun i _ => l.length - (intOf i).toNat)
      case atStart => exact ⟨0, Nat.zero_le _, rfl, HA2.out, HB2.out⟩
      case round =>
        clear HA2 HB2
        obtain ⟨k, hk, rfl, hA, hb⟩ := hrel
        have hpk := HP.out k hk
        by_cases hlt : k < l.length
        · obtain ⟨b, o, rfl, _, _, hc⟩ := (HL.out.below hb hh2).at_ hlt
          obtain ⟨hx, hok⟩ := HAT.out k hlt
          have hos := Bs.osK_succ (g := g) (m := m) (wk := wk) hlt
          have hstep : Bs.osStep g m wk (Bs.osK g m wk l k) l[k] = (Bs.osK g m wk l k).set l[k].toNat (Bs.seekT g m wk (Bs.osK g m wk l k) l[k].toNat) := rfl
          rw [hstep] at hos
          have hneed : ∀ y ∈ Bs.need g l[k].toNat, y ∈ l.take k := by
            intro y hy
            unfold Bs.okNext at hok
            rw [Bool.and_eq_true, List.all_eq_true] at hok
            simpa using hok.2 y hy
          obtain ⟨x, hxe⟩ : ∃ x, x = l[k] := ⟨_, rfl⟩
          rw [← hxe] at hc hx hos hneed
          obtain ⟨v, rfl⟩ : ∃ v : Nat, x = (v : Int) := ⟨x.toNat, by omega⟩
          rw [Int.toNat_natCast] at hos hneed
          have hv : v < g.length := by omega
          obtain ⟨hLst, hR0, hR1, ht0, ht1⟩ := HLS.out _ _ hpk v hv hneed
          obtain ⟨hsm, hSb⟩ := HPS.out _ _ hpk
          obtain ⟨hni, hnl⟩ := HNI.out v hv
          have hSl := hpk.len
          have hne : Bs.needsOv g (Bs.giZ (Bs.osK g m wk l k)) v = Bs.maxL (g[v].needs.map (Bs.ovF g (Bs.giZ (Bs.osK g m wk l k)))) := by rw [← need_at hv]; rfl
          generalize Bs.osK g m wk l k = S at *
          have hR160 : Bs.seekT g m wk S v ≤ 160 := by omega
          have ht160 : Bs.needsOv g (Bs.giZ S) v ≤ 160 := by omega
          have HOS := Lib.hid hos
          have HGE := Lib.hid hLst.ge
          have HFIT := Lib.hid hLst.fit
          have HNO := Lib.hid hLst.no
          have HNE := Lib.hid hne
          have HSB := Lib.hid hSb
          have HSL := Lib.hid hSl
          have HNI2 := Lib.hid hni
          have HA := Lib.hid hA
          have HB := Lib.hid hb
          have i0 : (0 : Int) ≤ (v : Int) := by omega
          have i1 : (v : Int) < (g.length : Int) := by omega
          have j0 : (0 : Int) ≤ (k : Int) := by omega
          have j1 : (k : Int) < (l.length : Int) := by omega
          obtain ⟨bg, og, N, cN, rfl, _, hgh, k0, k1, _, _, hlN, hcN, hN⟩ := (HG.out.below hb hh) v hv
          clear hxe hok hpk hneed hsm hni hos hLst hne hSb hSl hA hb hstep hN k0 hR1 ht1
          generalize Bs.seekT g m wk S v = R at *
          generalize Bs.needsOv g (Bs.giZ S) v = t0 at *
          go_wp2
          go_loopw [13, 14] (fun s i wr => ∃ (p : Nat) (t : Int), p ≤ g[v].needs.length ∧ s = .int .i64 t ∧ i = .int .i64 p ∧ t = Bs.maxL ((g[v].needs.take p).map (Bs.ovF g (Bs.giZ S))) ∧ Arr wr w.heap.size S ∧ Below w.heap.size w wr) (fun _ i _ => g[v].needs.length - (intOf i).toNat)
          case atStart => exact ⟨0, 0, Nat.zero_le _, rfl, rfl, by simp [Bs.maxL], HA.out, HB.out⟩
          case round =>
            clear HA HB k1 hc
            obtain ⟨p, t, hp, rfl, rfl, ht, hA, hb⟩ := hrel
            have hG := HG.out.below hb hh
            obtain ⟨bg', og', N', cN', hA', _, _, k0, k1, _, _, hlN, hcN, hN⟩ := hG v hv
            obtain ⟨rfl, rfl⟩ : bg' = bg ∧ og' = og := by injection hA' with e; injection e with e1 e2 _; exact ⟨e1.symm, e2.symm⟩
            by_cases hplt : p < g[v].needs.length
            · obtain ⟨bN, oN, rfl, _, _, hcN2⟩ := hN.at_ hplt
              have hx2 := HNI2.out _ (List.getElem_mem hplt)
              have hst : Bs.maxL ((g[v].needs.take (p + 1)).map (Bs.ovF g (Bs.giZ S))) = max t (Bs.ovF g (Bs.giZ S) g[v].needs[p]) := by
                rw [List.take_succ_eq_append_getElem hplt, List.map_append, ht]
                exact Bs.maxL_append _ _
              obtain ⟨y, hy⟩ : ∃ y : Nat, g[v].needs[p] = (y : Int) := ⟨g[v].needs[p].toNat, by omega⟩
              rw [hy] at hcN2 hx2 hst
              have hyl : y < g.length := by omega
              obtain ⟨bg2, og2, N2, cN2, hA2, _, _, y0, _⟩ := hG y hyl
              obtain ⟨rfl, rfl⟩ : bg2 = bg' ∧ og2 = og' := by injection hA2 with e; injection e with e1 e2 _; exact ⟨e1.symm, e2.symm⟩
              have ys := hA.at_ (i := y) (by rw [HSL.out]; exact hyl)
              have hyt := HTT.out y hyl
              have hys := HSB.out y
              have hov : Bs.ovF g (Bs.giZ S) (y : Int) = Bs.giZ S y + g[y].time := by unfold Bs.ovF; rw [Int.toNat_natCast, time_at hyl]
              rw [hov] at hst
              have HS := Lib.hid hst
              have HA := Lib.hid hA
              have HB := Lib.hid hb
              have e0 : (0 : Int) ≤ (y : Int) := by omega
              have e1 : (y : Int) < (g.length : Int) := by omega
              have f0 : (0 : Int) ≤ (p : Int) := by omega
              have f1 : (p : Int) < (g[v].needs.length : Int) := by omega
              clear ht hA hb hst hy hov hN hG hA' hA2 k0
              generalize g[y].time = ty at *
              generalize Bs.giZ S y = sy at *
              have hw : IntKind.i64.wrap (sy + ty) = sy + ty := IntWalk.i64_in _ ⟨by omega, by omega⟩
              go_wp2
              go_quiet (fail)
              go_wp2
              go_roundw
              case rel => exact ⟨p + 1, max t (sy + ty), by omega, by first | rfl | (congr 1; split <;> omega) | (congr 1; omega), by go_num, HS.out.symm, HA.out.drewN _, HB.out.drewN _⟩
              case measure => simp [intOf]; omega
            · have e : g[v].needs.take p = g[v].needs := List.take_of_length_le (by omega)
              rw [e, ← HNE.out] at ht
              have ht2 := ht.symm
              clear ht
              subst ht2
              have HA := Lib.hid hA
              have HB := Lib.hid hb
              have htR := HGE.out
              clear hA hb e hN hG hA' k0
              go_wp2
              go_loopw [13] (fun i wr => ∃ (t : Int), i = .int .i64 t ∧ t0 ≤ t ∧ t ≤ R ∧ Arr wr w.heap.size S ∧ Below w.heap.size w wr) (fun i _ => (R - intOf i).toNat)
              case atStart => exact ⟨t0, rfl, Int.le_refl _, htR, HA.out, HB.out⟩
              case round =>
                clear HA HB
                obtain ⟨t, rfl, h1t, h2t, hA, hb⟩ := hrel
                have c4 := HFT.out S HSL.out (fun i _ => by have := HSB.out i; omega) v hv t (by omega) wr hb hA
                cases hf : Bs.fitW g m wk S v t
                · have hneR : t ≠ R := by
                    rintro rfl
                    have := HFIT.out
                    rw [hf] at this
                    cases this
                  rw [hf] at c4
                  have C4 := Lib.hid c4
                  have HA := Lib.hid hA
                  have HB := Lib.hid hb
                  clear c4 hA hb hf
                  go_wp2_with fail
                  with_reducible refine (C4.out).mono ?_
                  rintro e w3 ⟨rfl, hb3⟩
                  have HA3 := Lib.hid (HA.out.below hb3 HA.out.lt)
                  have HB3 := Lib.hid (HB.out.trans (hb3.mono HB.out.size))
                  clear hb3 C4 HA HB
                  go_wp2
                  go_roundw
                  case rel => exact ⟨t + 1, by go_num, by omega, by omega, HA3.out, HB3.out⟩
                  case measure => simp [intOf]; omega
                · have htR2 : t = R := by
                    rcases Int.lt_or_le t R with e | e
                    · exfalso
                      have := HNO.out t h1t e
                      rw [hf] at this
                      cases this
                    · omega
                  rw [hf] at c4
                  have C4 := Lib.hid c4
                  have HA := Lib.hid hA
                  have HB := Lib.hid hb
                  clear c4 hA hb hf HFIT HNO HGE HFT
                  subst htR2
                  go_wp2_with fail
                  with_reducible refine (C4.out).mono ?_
                  rintro e w3 ⟨rfl, hb3⟩
                  have hA3 := HA.out.below hb3 HA.out.lt
                  have HB3 := Lib.hid (HB.out.trans (hb3.mono HB.out.size))
                  have kc := hA3.at_ (i := v) (by rw [HSL.out]; exact hv)
                  have kf := hA3.frozen v
                  have hs3 := hA3.set_ v t
                  rw [← HOS.out] at hs3
                  have HS3 := Lib.hid hs3
                  clear hb3 C4 HA HB hA3 hs3
                  go_wp2
                  go_roundw
                  case rel => exact ⟨k + 1, by omega, by go_num, HS3.out, HB3.out.setCell (Nat.le_refl _) _⟩
                  case measure => simp [intOf]; omega
        · obtain rfl : k = l.length := by omega
          have hlnn := hpk.len
          have hO := hA.oi (B := w.heap.size) (Nat.le_refl _) (by omega)
          have HO := Lib.hid hO
          have HB := Lib.hid hb
          clear hO hA hb hpk
          go_wp2
          go_ret
          refine ⟨⟨_, _, ?_, HO.out⟩, HB.out⟩
          rw [hlnn]
          rfl
theorem OrderStartsS_any (A : Option Addr) (c : Nat) (g : List Bs.T) (A1 : Option Addr) (c1 : Nat) (m : List Int) (A2 : Option Addr) (c2 : Nat) (l : List Int) (wk : Int) (lo hi l1 h1 l2 h2 : Nat) (w : World) (h : RG w lo hi A g) (hh : hi ≤ w.heap.size) (hm : RI w l1 h1 A1 m) (hh1 : h1 ≤ w.heap.size) (hs : RI w l2 h2 A2 l) (hh2 : h2 ≤ w.heap.size) (hl : g.length ≤ 9223372036854775807) (hml : m.length ≤ 9223372036854775807) (hlc : l.length ≤ c2) (_hsl : l.length ≤ 9223372036854775807) :
    Calls Try.prog 30 #[.slice A g.length c, .slice A1 m.length c1, .int .i64 wk, .slice A2 l.length c2] w (RetI w (Bs.osL g m wk l)) := by
  have q1 := validSearchS_any A c g A1 c1 m wk lo hi l1 h1 w h hh hm hh1 hl hml
  cases hv : Bs.seaV g m wk
  · rw [hv] at q1
    have C1 := Lib.hid q1
    have HV := Lib.hid (Bs.osL_no1 (l := l) hv)
    clear q1 hv h hm hs
    go_enter Try.func30, Try.ntmps30
    go_wp2_with fail
    with_reducible refine (C1.out).mono ?_
    rintro e w1 ⟨rfl, hb⟩
    have HB := Lib.hid hb
    clear hb
    go_wp2
    go_ret
    exact RetI.nil HB.out HV.out
  have hcv : Bs.canV g m wk = true := by unfold Bs.seaV at hv; rw [Bool.and_eq_true] at hv; exact hv.1
  obtain ⟨hval, hroom, hw1, hw4⟩ := Bs.canV_iff.1 hcv
  have hF := valid_fine hval
  have q2 := fun W (hb : Below w.heap.size w W) => isOrderS_any A c g A2 c2 l lo hi l2 h2 W (h.below hb hh) (hs.below hb hh2) hlc hF
  rw [hv] at q1
  have C1 := Lib.hid q1
  cases ho : Bs.isOrd g l
  · rw [ho] at q2
    have C2 := Lib.hid q2
    have HV := Lib.hid (Bs.osL_no2 (m := m) (wk := wk) ho)
    clear q1 q2 hv h hm hs hcv hval hroom hF ho
    go_enter Try.func30, Try.ntmps30
    go_wp2_with fail
    with_reducible refine (C1.out).mono ?_
    rintro e w1 ⟨rfl, hb⟩
    have HB := Lib.hid hb
    have C3 := Lib.hid (C2.out w1 hb)
    clear hb C2
    go_wp2_with fail
    with_reducible refine (C3.out).mono ?_
    rintro e w2 ⟨rfl, n, rfl⟩
    go_wp2
    go_ret
    exact RetI.nil (HB.out.drewN n) HV.out
  rw [ho] at q2
  have C2 := Lib.hid q2
  have HV := Lib.hid (Bs.osL_yes (m := m) (wk := wk) hv ho)
  have C4 := Lib.hid (fun W (hb : Below w.heap.size w W) => orderS_any A c g A1 c1 m wk A2 c2 l lo hi l1 h1 l2 h2 W (h.below hb hh) (Nat.le_trans hh hb.size) (hm.below hb hh1) (Nat.le_trans hh1 hb.size) (hs.below hb hh2) (Nat.le_trans hh2 hb.size) hF hroom hw1 ho)
  clear q1 q2 hv h hm hs hcv hval hroom hF ho
  go_enter Try.func30, Try.ntmps30
  go_wp2_with fail
  with_reducible refine (C1.out).mono ?_
  rintro e w1 ⟨rfl, hb⟩
  have HB := Lib.hid hb
  have C3 := Lib.hid (C2.out w1 hb)
  clear hb C2
  go_wp2_with fail
  with_reducible refine (C3.out).mono ?_
  rintro e w2 ⟨rfl, n, rfl⟩
  have HB2 := Lib.hid (HB.out.drewN n)
  clear HB C3
  go_wp2_with fail
  with_reducible refine (C4.out _ HB2.out).mono ?_
  intro e w3 hr
  obtain ⟨⟨A3, c3, rfl, ho3⟩, hb3⟩ := RetI.after HB2.out hr HV.out.symm
  go_wp2
  go_ret
  exact ⟨⟨A3, c3, rfl, ho3⟩, hb3⟩
end Go.Proofs.Ytfdaeomlgpflhaa
