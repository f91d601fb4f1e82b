/-
  WALKS: tail times of the model.
-/
import Derived.Test.YtiokblodjhmjmabW14
namespace Go.Proofs.Ytiokblodjhmjmab
open Go.RowKit
set_option maxHeartbeats 1600000 in
theorem tailsS_any (A : Option Addr) (c : Nat) (g : List Bs.T) (lo hi : Nat) (w : World) (hG : RG w lo hi A g) (hh : hi ≤ w.heap.size) (hF : Bs.fine g = true) (hU : Bs.Full g) :
    Calls Try.prog 49 #[.slice A g.length c] w (RetI w (Bs.tailsC g)) := by
  have h8 := Bs.fine_len hF
  have hb1a : Below w.heap.size w (w.alloc (.cells (intsA (List.replicate g.length 0)) 3)) := (Below.refl _ _).alloc (Nat.le_refl _) _
  have B1 : Arr (w.alloc (.cells (intsA (List.replicate g.length 0)) 3)) w.heap.size (List.replicate g.length 0) := Blk.new w 3 _
  have C2 := Lib.hid (fun W (hb : Below w.heap.size w W) => topOrder_ret A c g lo hi W (hG.below hb hh) (Nat.le_trans hh hb.size) h8)
  have HF := Lib.hid hF
  have HU := Lib.hid hU
  have hdl := (Bs.top_dist g).le
  have hmk := make_ints g.length (by omega)
  have HS := Lib.hid (fun k (hk : k ≤ (Bs.top g).length) => Bs.tailsK_spec hF hU ((Bs.top g).length - k) k (by omega))
  have H0 := Lib.hid (Bs.tailsK_full g)
  clear hF hU
  generalize (.cells (intsA (List.replicate g.length 0)) 3 : Obj) = ob at *
  go_enter Try.func49, Try.ntmps49
  go_wp2_with fail
  refine (C2.out _ hb1a).mono ?_; rintro e w2 ⟨⟨A2, c2, rfl, ho2⟩, hb2⟩
  have s2 := hb2.size
  simp only [World.size_alloc] at s2
  have hb02 := hb1a.trans (hb2.mono hb1a.size)
  have q2 := ho2.ri
  simp only [World.size_alloc] at q2
  have B2 := Lib.hid (B1.below hb2 (by simp))
  clear ho2 B1 hmk
  go_wp2
  go_loopw [5] (fun i wr => ∃ k : Nat, k ≤ (Bs.top g).length ∧ i = .int .i64 ((k : Int) - 1) ∧ Arr wr w.heap.size (Bs.tailsK g k) ∧ RI wr (w.heap.size + 1) w2.heap.size A2 (Bs.top g) ∧ Below w.heap.size w wr) (fun i _ => (intOf i + 1).toNat)
  case atStart => exact ⟨(Bs.top g).length, Nat.le_refl _, rfl, by rw [H0.out]; exact B2.out, q2, hb02⟩
  case round =>
    obtain ⟨k, hk, rfl, hB, hq, hb⟩ := hrel
    have hsl := (HS.out k hk).len
    by_cases hlt : 0 < k
    · obtain ⟨k, rfl⟩ : ∃ m, k = m + 1 := ⟨k - 1, by omega⟩
      have hlt : k < (Bs.top g).length := by omega
      have hm := HS.out (k + 1) hk
      obtain ⟨b1, o1, rfl, _, _, hc1⟩ := hq.at_ hlt
      have hr1 := Bs.top_range hlt
      have hst := Bs.tailsK_pred g k hlt
      obtain ⟨v, hv⟩ : ∃ v : Nat, (Bs.top g)[k] = (v : Int) := ⟨(Bs.top g)[k].toNat, by omega⟩
      unfold Bs.tailStep at hst
      rw [hv, Int.toNat_natCast] at hst
      rw [hv] at hc1 hr1
      have hvl : v < g.length := by omega
      have HST := Lib.hid hst
      have HM := Lib.hid hm
      have ek : (((k + 1 : Nat) : Int) - 1) = (k : Int) := by omega
      rw [ek]
      clear hv hst hr1 hm ek
      have mb : ∀ p, p ≤ g.length → 0 ≤ Bs.most g (Bs.tailsK g (k + 1)) v p ∧ Bs.most g (Bs.tailsK g (k + 1)) v p ≤ 160 := by
        intro p hp
        refine ⟨Bs.most_nonneg _ _ _ _, Bs.maxL_le (by omega) ?_⟩
        intro y hy
        rw [List.mem_map] at hy
        obtain ⟨u, hu, rfl⟩ := hy
        simp only [List.mem_filter, List.mem_range] at hu
        have := HM.out.hi u (by omega)
        omega
      have MB := Lib.hid mb
      clear mb
      go_wp2
      go_loop [7, 8] (fun m j => ∃ p : Nat, p ≤ g.length ∧ j = .int .i64 p ∧ m = .int .i64 (Bs.most g (Bs.tailsK g (k + 1)) v p)) (fun _ j => g.length - (intOf j).toNat)
      case atStart => exact ⟨0, Nat.zero_le _, rfl, rfl⟩
      case round =>
        obtain ⟨p, hp, rfl, rfl⟩ := hrel
        by_cases hlt2 : p < g.length
        · obtain ⟨b, o, N, cN, rfl, h1, h2, _, t1, _, _, hlN, hcN, hN⟩ := (hG.below hb hh) p hlt2
          have c1 := isIn_any N cN g[p].needs (v : Int) _ _ wr hN (by omega)
          have hms := Bs.most_succ g (Bs.tailsK g (k + 1)) v p
          rw [Bs.need_eq hlt2] at hms
          have e1 := hB.cell (i := p) (by omega)
          have g0 := HM.out.lo p hlt2
          have g1 := HM.out.hi p hlt2
          obtain ⟨m0, m1⟩ := MB.out p hp
          have HB := Lib.hid hB
          clear hB
          generalize hhK : Bs.tailsK g (k + 1) = hk0 at *
          generalize hA0 : Bs.most g hk0 v p = a0 at *
          generalize hG0 : Bs.gi hk0 p = g0v at *
          have HX := Lib.hid (And.intro hhK (And.intro hA0 hG0))
          clear hhK hA0 hG0
          cases hv : g[p].needs.contains (v : Int)
          · rw [hv] at c1 hms
            have C1 := Lib.hid c1
            have HMS := Lib.hid hms
            clear c1 hv hms
            go_wp2_with (go_at_call 63; refine (C1.out).mono ?_; rintro e w' ⟨rfl, rfl⟩)
            go_round
            case rel => exact ⟨p + 1, by omega, by go_num, by rw [HMS.out]; rfl⟩
            case measure => simp [intOf]; omega
          · rw [hv] at c1 hms
            have C1 := Lib.hid c1
            have HMS := Lib.hid hms
            clear c1 hv hms
            go_wp2_with (go_at_call 63; refine (C1.out).mono ?_; rintro e w' ⟨rfl, rfl⟩)
            go_round
            case rel => exact ⟨p + 1, by omega, by go_num, by rw [HMS.out]; show Value.int _ _ = Value.int _ (max a0 g0v); congr 1; split <;> omega⟩
            case measure => simp [intOf]; omega
        · obtain rfl : p = g.length := by omega
          obtain ⟨b, o, N, cN, rfl, h1, h2, t0, _, _, _, _, _, _⟩ := (hG.below hb hh) v hvl
          rw [← Bs.timeOf_eq hvl] at t0
          have hti := Bs.fine_time HF.out hvl
          have e1 := hB.cell (i := v) (by omega)
          have hfz := hB.frozen v
          obtain ⟨m0, m1⟩ := MB.out g.length hp
          have HB2 := Lib.hid (fun y => hB.set_ v y)
          have HB := Lib.hid hB
          clear hB
          generalize hhK : Bs.tailsK g (k + 1) = hk0 at *
          generalize hA0 : Bs.most g hk0 v g.length = a0 at *
          generalize hT0 : Bs.timeOf g v = t0v at *
          generalize hG0 : Bs.gi hk0 v = g0v at *
          have HX := Lib.hid (And.intro hhK (And.intro hA0 (And.intro hG0 hT0)))
          clear hhK hA0 hG0 hT0
          go_wp2
          go_roundw
          case rel => exact ⟨k, by omega, rfl, by rw [HST.out]; exact HB2.out _, hq.set_far (.inl (by simp)) _, hb.setCell (Nat.le_refl _) _⟩
          case measure => simp [intOf]
    · obtain rfl : k = 0 := by omega
      go_wp2
      go_ret
      refine ⟨⟨some ⟨w.heap.size, 0, none⟩, g.length, ?_, ?_⟩, hb⟩
      · show _ = Ending.returned (.slice _ (Bs.tailsK g 0).length _)
        rw [hsl]
        rfl
      · have := hB.oi (Nat.le_refl _) (by omega)
        rw [hsl] at this
        exact this
end Go.Proofs.Ytiokblodjhmjmab
