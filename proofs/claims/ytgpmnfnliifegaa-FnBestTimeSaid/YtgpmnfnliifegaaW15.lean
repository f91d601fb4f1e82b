/-
  WALKS: head times of the model.
-/
import Derived.Test.YtgpmnfnliifegaaK8
namespace Go.Proofs.Ytgpmnfnliifegaa
open Go.RowKit
theorem Blk.far {w : World} {g : Nat} {t : TypeId} {cs : Array Value} (h : Blk w g t cs) {p : Addr} (hp : g ≠ p.block) (u : Value) : Blk (w.setCell p u) g t cs := (Below.heap_setCell w p u g hp).trans h
set_option maxRecDepth 40000 in
set_option maxHeartbeats 3200000 in
theorem headsS_any (A : Option Addr) (c : Nat) (g : List Bs.T) (lo hi : Nat) (w : World) (hG : RG w lo hi A g) (hh : hi ≤ w.heap.size) (hF : Bs.fine g = true) :
    Calls Try.prog 66 #[.slice A g.length c] w (RetI w (Bs.headsC g)) := by
  have h8 := Bs.fine_len hF
  have hb1a : Below w.heap.size w (w.alloc (.cells (intsA (List.replicate g.length 0)) 3)) := (Below.refl _ _).alloc (Nat.le_refl _) _
  have B1 : Arr (w.alloc (.cells (intsA (List.replicate g.length 0)) 3)) w.heap.size (List.replicate g.length 0) := Blk.new w 3 _
  have C2 := Lib.hid (fun W (hb : Below w.heap.size w W) => topOrder_ret A c g lo hi W (hG.below hb hh) (Nat.le_trans hh hb.size) h8)
  have HF := Lib.hid hF
  have hdl := (Bs.top_dist g).le
  have hmk := make_ints g.length (by omega)
  clear hF
  generalize (.cells (intsA (List.replicate g.length 0)) 3 : Obj) = ob at *
  go_enter Try.func66, Try.ntmps66
  go_wp2_with fail
  refine (C2.out _ hb1a).mono ?_; rintro e w2 ⟨⟨A2, c2, rfl, ho2⟩, hb2⟩
  have s2 := hb2.size
  simp only [World.size_alloc] at s2
  have hb02 := hb1a.trans (hb2.mono hb1a.size)
  have q2 := ho2.ri
  simp only [World.size_alloc] at q2
  have B2 := Lib.hid (B1.below hb2 (by simp))
  clear ho2 B1 hmk
  go_wp2
  go_loopw [5] (fun i wr => ∃ k : Nat, k ≤ (Bs.top g).length ∧ i = .int .i64 k ∧ Arr wr w.heap.size (Bs.headsK g k) ∧ RI wr (w.heap.size + 1) w2.heap.size A2 (Bs.top g) ∧ w2.heap.size ≤ wr.heap.size ∧ Below w.heap.size w wr) (fun i _ => (Bs.top g).length - (intOf i).toNat)
  case atStart => exact ⟨0, Nat.zero_le _, rfl, B2.out, q2, Nat.le_refl _, hb02⟩
  case round =>
    obtain ⟨k, hk, rfl, hB, hq, hs2, hb⟩ := hrel
    have hm := Bs.headsK_mid HF.out k hk
    have hsl := hm.len
    by_cases hlt : k < (Bs.top g).length
    · obtain ⟨b1, o1, rfl, _, _, hc1⟩ := hq.at_ hlt
      have hr1 := Bs.top_range hlt
      have hns := Bs.HeadMid.notSelf hlt
      have hnew := hm.new (Bs.top g)[k].toNat (by omega) (by rw [show (((Bs.top g)[k].toNat : Nat) : Int) = (Bs.top g)[k] from by omega]; exact Bs.top_take_not hlt)
      have hst := Bs.headsK_succ g k hlt
      obtain ⟨v, hv⟩ : ∃ v : Nat, (Bs.top g)[k] = (v : Int) := ⟨(Bs.top g)[k].toNat, by omega⟩
      unfold Bs.headStep at hst
      rw [hv, Int.toNat_natCast] at hst hns hnew
      rw [hv] at hc1 hr1
      have hvl : v < g.length := by omega
      have HN := Lib.hid (Bs.need_eq hvl)
      have HST := Lib.hid hst
      have HNS := Lib.hid hns
      have HM := Lib.hid hm
      have HV := Lib.hid hv
      obtain ⟨b, o, N, cN, rfl, h1, h2, t0, t1, t2, t3, hlN, hcN, hN⟩ := hG v hvl
      have t0 := (hb.cell (p := ⟨b, o + v * 4, none⟩) (by show b < _; omega)).trans t0
      have t1 := (hb.cell (p := ⟨b, o + v * 4 + 1, none⟩) (by show b < _; omega)).trans t1
      have t2 := (hb.cell (p := ⟨b, o + v * 4 + 2, none⟩) (by show b < _; omega)).trans t2
      have t3 := (hb.cell (p := ⟨b, o + v * 4 + 3, none⟩) (by show b < _; omega)).trans t3
      have HL : Arr wr w.heap.size ((Bs.headsK g k).set v (Bs.headAt g (Bs.headsK g k) v 0)) := by
        rw [Bs.headAt_zero, Bs.set_same _ _ _ (by omega) hnew]
        exact hB
      have hbt : ∀ cs, Blk (wr.alloc (.cells cs 40)) wr.heap.size 40 cs := fun cs => Blk.new wr _ cs
      obtain ⟨WO, rfl⟩ : ∃ WO, WO = wr := ⟨_, rfl⟩
      clear hv hst hns hr1 hm hB hnew
      go_wp2
      go_loopw [7] (fun j wr => ∃ p : Nat, p ≤ g[v].needs.length ∧ j = .int .i64 p ∧ Arr wr w.heap.size ((Bs.headsK g k).set v (Bs.headAt g (Bs.headsK g k) v p)) ∧ RI wr (w.heap.size + 1) w2.heap.size (some ⟨b1, o1, none⟩) (Bs.top g) ∧ Below w.heap.size w wr ∧ Blk wr WO.heap.size 40 #[.int .i64 g[v].time, .slice N g[v].needs.length cN, .int .i64 g[v].pool, .int .i64 g[v].units]) (fun j _ => g[v].needs.length - (intOf j).toNat)
      case atStart => exact ⟨0, Nat.zero_le _, rfl, Blk.alloc HL _, hq.below ((Below.refl w2.heap.size _).alloc hs2 _) (Nat.le_refl _), hb.alloc hb.size _, hbt _⟩
      case round =>
        clear t0 t1 t2 t3 hc1 HL hq
        obtain ⟨p, hp, rfl, hB, hq, hb', hT⟩ := hrel
        have sr := hb'.size
        have hT1 := Blk.cell hT 1
        simp only [List.getElem?_toArray, List.getElem?_cons_succ, List.getElem?_cons_zero] at hT1
        have HTT := Lib.hid hT
        clear hT
        by_cases hlt2 : p < g[v].needs.length
        · obtain ⟨b3, o3, rfl, _, _, hc3⟩ := (hN.below hb' hh).at_ hlt2
          obtain ⟨b1', o1', e1', _, _, hc1⟩ := hq.at_ hlt
          injection e1' with e1'
          injection e1' with e1' e2'
          subst e1'
          subst e2'
          rw [HV.out] at hc1
          have hpl : p < (Bs.need g v).length := by rw [HN.out]; exact hlt2
          have hxl := Bs.fine_need HF.out (List.getElem_mem hpl)
          have hxv := HNS.out _ (List.getElem_mem hpl)
          have hJ := Bs.headAt_succ g (Bs.headsK g k) v p hpl
          have he : (Bs.need g v)[p] = g[v].needs[p] := by simp only [HN.out]
          rw [he] at hxl hxv hJ
          obtain ⟨x, hx⟩ : ∃ x : Nat, g[v].needs[p] = (x : Int) := ⟨g[v].needs[p].toNat, by omega⟩
          rw [hx] at hc3 hxl hxv hJ
          rw [Int.toNat_natCast] at hJ hxv
          have hxg : x < g.length := by omega
          have hlen : ((Bs.headsK g k).set v (Bs.headAt g (Bs.headsK g k) v p)).length = g.length := by rw [List.length_set]; exact hsl
          have e1 := hB.cell (i := x) (by omega)
          have e2 := hB.cell (i := v) (by omega)
          rw [Bs.gi_set _ _ _ _ (by omega), if_neg hxv] at e1
          rw [Bs.gi_set _ _ _ _ (by omega), if_pos rfl] at e2
          have hfz := hB.frozen v
          obtain ⟨b4, o4, N4, c4, e4, _, _, t0, _, _, _, _, _, _⟩ := (hG.below hb' hh) x hxg
          injection e4 with e4
          injection e4 with e4 e5
          subst e4
          subst e5
          rw [← Bs.timeOf_eq hxg] at t0
          have hti := Bs.fine_time HF.out hxg
          have g0 := HM.out.lo x hxg
          have g1 := HM.out.hi x hxg
          have f0 := Bs.headAt_nonneg g (Bs.headsK g k) v p
          have f1 := Bs.headAt_le HF.out HM.out v p
          have HB2 := Lib.hid (fun y => by have := hB.set_ v y; rw [Bs.set_set_] at this; exact this)
          have HJ := Lib.hid hJ
          clear hx he hJ hxl hxv hlen hB
          generalize hhK : Bs.headsK g k = hk0 at *
          generalize hA0 : Bs.headAt g hk0 v p = a0 at *
          generalize hG0 : Bs.gi hk0 x = g0v at *
          generalize hT0 : Bs.timeOf g x = t0v at *
          have HX := Lib.hid (And.intro hhK (And.intro hA0 (And.intro hG0 hT0)))
          clear hhK hA0 hG0 hT0
          go_wp2
          go_still_tail 32, (by kernel_rfl)
          go_wp2
          go_roundw
          case rel =>
            have hmax : (if a0 < g0v + t0v then g0v + t0v else a0) = max a0 (g0v + t0v) := by split <;> omega
            rw [hmax]
            refine ⟨p + 1, by omega, by go_num, ?_, ?_, ?_, ?_⟩
            · rw [HJ.out]; exact HB2.out _
            · exact hq.set_far (.inl (by simp)) _
            · exact (hb'.setCell (Nat.le_refl _) _).drew
            · exact Blk.far HTT.out (by show WO.heap.size ≠ w.heap.size; omega) _
          case measure => simp [intOf]; omega
        · obtain rfl : p = g[v].needs.length := by omega
          have hst := HST.out
          rw [HN.out] at hst
          rw [← hst] at hB
          have s3 := (Blk.lt HTT.out)
          go_wp2
          go_roundw
          case rel => exact ⟨k + 1, by omega, by go_num, hB, hq, by omega, hb'⟩
          case measure => simp [intOf]; omega
    · obtain rfl : k = (Bs.top g).length := by omega
      go_wp2
      go_ret
      refine ⟨⟨some ⟨w.heap.size, 0, none⟩, g.length, ?_, ?_⟩, hb⟩
      · show _ = Ending.returned (.slice _ (Bs.headsK g (Bs.top g).length).length _)
        rw [hsl]
        rfl
      · have := hB.oi (Nat.le_refl _) (by omega)
        rw [hsl] at this
        exact this

end Go.Proofs.Ytgpmnfnliifegaa
