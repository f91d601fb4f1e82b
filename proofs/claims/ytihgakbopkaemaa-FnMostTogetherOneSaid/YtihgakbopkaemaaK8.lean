/-
  MERGED TEXTS: W14 W16 W17 W18.
-/
import Derived.Test.YtihgakbopkaemaaK5
import Derived.Test.YtihgakbopkaemaaK2
import Derived.StillTailTactics
namespace Go.Proofs.Ytihgakbopkaemaa
open Go.RowKit
def intsA (l : List Int) : Array Value := (l.map (Value.int .i64)).toArray
theorem intsA_size (l : List Int) : (intsA l).size = l.length := by simp [intsA]
theorem intsA_set (l : List Int) (a : Nat) (v : Int) : (intsA l).setIfInBounds a (.int .i64 v) = intsA (l.set a v) := by
  unfold intsA
  rw [List.map_set, List.setIfInBounds_toArray]
theorem intsA_get {l : List Int} {a : Nat} (h : a < l.length) : (intsA l)[a]? = some (.int .i64 (Bs.gi l a)) := by
  simp [intsA, Bs.gi, h]
theorem intsA_zero (n : Nat) : intsA (List.replicate n 0) = madeCells #[.int .i64 0] n := by
  apply Array.ext
  · simp [intsA, madeCells]
  · intro i h1 h2
    simp [intsA, madeCells]
    have : i % 1 = 0 := by omega
    rw [this]
    rfl
/-- a block of integers of the call's own -/
def Arr (w : World) (b : Nat) (l : List Int) : Prop := Blk w b 3 (intsA l)
theorem Arr.cell {w : World} {b : Nat} {l : List Int} (h : Arr w b l) {i : Nat} (hi : i < l.length) : w.cell? ⟨b, i, none⟩ = some (.int .i64 (Bs.gi l i)) := (Blk.cell h i).trans (intsA_get hi)
theorem Arr.frozen {w : World} {b : Nat} {l : List Int} (h : Arr w b l) (i : Nat) : w.frozen? ⟨b, i, none⟩ = false := Blk.frozen h i
theorem Arr.set_ {w : World} {b : Nat} {l : List Int} (h : Arr w b l) (i : Nat) (v : Int) : Arr (w.setCell ⟨b, i, none⟩ (.int .i64 v)) b (l.set i v) := by
  unfold Arr
  rw [← intsA_set]
  exact Blk.set_ h i _
theorem Arr.below {w w' : World} {b B : Nat} {l : List Int} (h : Arr w b l) (hb : Below B w w') (hg : b < B) : Arr w' b l := Blk.below h hb hg
theorem Arr.lt {w : World} {b : Nat} {l : List Int} (h : Arr w b l) : b < w.heap.size := Blk.lt h
theorem Arr.drewN {w : World} {b : Nat} {l : List Int} (h : Arr w b l) (n : Nat) : Arr (w.drewN n) b l := h
theorem Arr.oi {w : World} {b B : Nat} {l : List Int} (h : Arr w b l) (hB : B ≤ b) (hl : l.length ≤ 1000000) : OI w B (some ⟨b, 0, none⟩) l.length l :=
  ⟨by simp, .inr ⟨b, l.length, intsA l, rfl, hB, h, Nat.le_refl _, by unfold maxLen; omega, by rw [intsA_size]; omega, by simp only [intsA, Nat.mul_one]; exact List.take_of_length_le (by simp)⟩⟩
theorem make_ints (n : Nat) (hn : n ≤ 1048576) (u : World) : (Instr.makeSlice 24 (.int .i64 (n : Int)) (.int .i64 (n : Int))).run Try.prog u =
      .ok (.slice (some ⟨u.heap.size, 0, none⟩) n n) (u.alloc (.cells (intsA (List.replicate n 0)) 3)) := by
  obtain ⟨i0, hi0, hz0, hz1, hz2⟩ := info_parts Try.info3
  have h := run_make (P := Try.prog) u 24 3 i0 (.int .i64 0) Try.underlying24 hi0 hz0 .i64 .i64 (n : Int) (n : Int) (by omega) (Int.le_refl _) (by rw [hz2]; omega) (by omega)
  rw [intsA_zero]
  simpa [hz1, Value.cells] using h

end Go.Proofs.Ytihgakbopkaemaa
namespace Go.Proofs.Ytihgakbopkaemaa
open Go.RowKit
set_option maxHeartbeats 1600000 in
theorem tailsS_any (A : Option Addr) (c : Nat) (g : List Bs.T) (lo hi : Nat) (w : World) (hG : RG w lo hi A g) (hh : hi ≤ w.heap.size) (hF : Bs.fine g = true) (hU : Bs.Full g) :
    Calls Try.prog 119 #[.slice A g.length c] w (RetI w (Bs.tailsC g)) := by
  have h8 := Bs.fine_len hF
  have hb1a : Below w.heap.size w (w.alloc (.cells (intsA (List.replicate g.length 0)) 3)) := (Below.refl _ _).alloc (Nat.le_refl _) _
  have B1 : Arr (w.alloc (.cells (intsA (List.replicate g.length 0)) 3)) w.heap.size (List.replicate g.length 0) := Blk.new w 3 _
  have C2 := Lib.hid (fun W (hb : Below w.heap.size w W) => topOrder_ret A c g lo hi W (hG.below hb hh) (Nat.le_trans hh hb.size) h8)
  have HF := Lib.hid hF
  have HU := Lib.hid hU
  have hdl := (Bs.top_dist g).le
  have hmk := make_ints g.length (by omega)
  have HS := Lib.hid (fun k (hk : k ≤ (Bs.top g).length) => Bs.tailsK_spec hF hU ((Bs.top g).length - k) k (by omega))
  have H0 := Lib.hid (Bs.tailsK_full g)
  clear hF hU
  generalize (.cells (intsA (List.replicate g.length 0)) 3 : Obj) = ob at *
  go_enter Try.func119, Try.ntmps119
  go_wp2_with fail
  refine (C2.out _ hb1a).mono ?_; rintro e w2 ⟨⟨A2, c2, rfl, ho2⟩, hb2⟩
  have s2 := hb2.size
  simp only [World.size_alloc] at s2
  have hb02 := hb1a.trans (hb2.mono hb1a.size)
  have q2 := ho2.ri
  simp only [World.size_alloc] at q2
  have B2 := Lib.hid (B1.below hb2 (by simp))
  clear ho2 B1 hmk
  go_wp2
  go_loopw [5] (fun i wr => ∃ k : Nat, k ≤ (Bs.top g).length ∧ i = .int .i64 ((k : Int) - 1) ∧ Arr wr w.heap.size (Bs.tailsK g k) ∧ RI wr (w.heap.size + 1) w2.heap.size A2 (Bs.top g) ∧ Below w.heap.size w wr) (fun i _ => (intOf i + 1).toNat)
  case atStart => exact ⟨(Bs.top g).length, Nat.le_refl _, rfl, by rw [H0.out]; exact B2.out, q2, hb02⟩
  case round =>
    obtain ⟨k, hk, rfl, hB, hq, hb⟩ := hrel
    have hsl := (HS.out k hk).len
    by_cases hlt : 0 < k
    · obtain ⟨k, rfl⟩ : ∃ m, k = m + 1 := ⟨k - 1, by omega⟩
      have hlt : k < (Bs.top g).length := by omega
      have hm := HS.out (k + 1) hk
      obtain ⟨b1, o1, rfl, _, _, hc1⟩ := hq.at_ hlt
      have hr1 := Bs.top_range hlt
      have hst := Bs.tailsK_pred g k hlt
      obtain ⟨v, hv⟩ : ∃ v : Nat, (Bs.top g)[k] = (v : Int) := ⟨(Bs.top g)[k].toNat, by omega⟩
      unfold Bs.tailStep at hst
      rw [hv, Int.toNat_natCast] at hst
      rw [hv] at hc1 hr1
      have hvl : v < g.length := by omega
      have HST := Lib.hid hst
      have HM := Lib.hid hm
      have ek : (((k + 1 : Nat) : Int) - 1) = (k : Int) := by omega
      rw [ek]
      clear hv hst hr1 hm ek
      have mb : ∀ p, p ≤ g.length → 0 ≤ Bs.most g (Bs.tailsK g (k + 1)) v p ∧ Bs.most g (Bs.tailsK g (k + 1)) v p ≤ 160 := by
        intro p hp
        refine ⟨Bs.most_nonneg _ _ _ _, Bs.maxL_le (by omega) ?_⟩
        intro y hy
        rw [List.mem_map] at hy
        obtain ⟨u, hu, rfl⟩ := hy
        simp only [List.mem_filter, List.mem_range] at hu
        have := HM.out.hi u (by omega)
        omega
      have MB := Lib.hid mb
      clear mb
      go_wp2
      go_loop [7, 8] (fun m j => ∃ p : Nat, p ≤ g.length ∧ j = .int .i64 p ∧ m = .int .i64 (Bs.most g (Bs.tailsK g (k + 1)) v p)) (fun _ j => g.length - (intOf j).toNat)
      case atStart => exact ⟨0, Nat.zero_le _, rfl, rfl⟩
      case round =>
        obtain ⟨p, hp, rfl, rfl⟩ := hrel
        by_cases hlt2 : p < g.length
        · obtain ⟨b, o, N, cN, rfl, h1, h2, _, t1, _, _, hlN, hcN, hN⟩ := (hG.below hb hh) p hlt2
          have c1 := isIn_any N cN g[p].needs (v : Int) _ _ wr hN (by omega)
          have hms := Bs.most_succ g (Bs.tailsK g (k + 1)) v p
          rw [Bs.need_eq hlt2] at hms
          have e1 := hB.cell (i := p) (by omega)
          have g0 := HM.out.lo p hlt2
          have g1 := HM.out.hi p hlt2
          obtain ⟨m0, m1⟩ := MB.out p hp
          have HB := Lib.hid hB
          clear hB
          generalize hhK : Bs.tailsK g (k + 1) = hk0 at *
          generalize hA0 : Bs.most g hk0 v p = a0 at *
          generalize hG0 : Bs.gi hk0 p = g0v at *
          have HX := Lib.hid (And.intro hhK (And.intro hA0 hG0))
          clear hhK hA0 hG0
          cases hv : g[p].needs.contains (v : Int)
          · rw [hv] at c1 hms
            have C1 := Lib.hid c1
            have HMS := Lib.hid hms
            clear c1 hv hms
            go_wp2_with (go_at_call 101; refine (C1.out).mono ?_; rintro e w' ⟨rfl, rfl⟩)
            go_round
            case rel => exact ⟨p + 1, by omega, by go_num, by rw [HMS.out]; rfl⟩
            case measure => simp [intOf]; omega
          · rw [hv] at c1 hms
            have C1 := Lib.hid c1
            have HMS := Lib.hid hms
            clear c1 hv hms
            go_wp2_with (go_at_call 101; refine (C1.out).mono ?_; rintro e w' ⟨rfl, rfl⟩)
            go_round
            case rel => exact ⟨p + 1, by omega, by go_num, by rw [HMS.out]; show Value.int _ _ = Value.int _ (max a0 g0v); congr 1; split <;> omega⟩
            case measure => simp [intOf]; omega
        · obtain rfl : p = g.length := by omega
          obtain ⟨b, o, N, cN, rfl, h1, h2, t0, _, _, _, _, _, _⟩ := (hG.below hb hh) v hvl
          rw [← Bs.timeOf_eq hvl] at t0
          have hti := Bs.fine_time HF.out hvl
          have e1 := hB.cell (i := v) (by omega)
          have hfz := hB.frozen v
          obtain ⟨m0, m1⟩ := MB.out g.length hp
          have HB2 := Lib.hid (fun y => hB.set_ v y)
          have HB := Lib.hid hB
          clear hB
          generalize hhK : Bs.tailsK g (k + 1) = hk0 at *
          generalize hA0 : Bs.most g hk0 v g.length = a0 at *
          generalize hT0 : Bs.timeOf g v = t0v at *
          generalize hG0 : Bs.gi hk0 v = g0v at *
          have HX := Lib.hid (And.intro hhK (And.intro hA0 (And.intro hG0 hT0)))
          clear hhK hA0 hG0 hT0
          go_wp2
          go_roundw
          case rel => exact ⟨k, by omega, rfl, by rw [HST.out]; exact HB2.out _, hq.set_far (.inl (by simp)) _, hb.setCell (Nat.le_refl _) _⟩
          case measure => simp [intOf]
    · obtain rfl : k = 0 := by omega
      go_wp2
      go_ret
      refine ⟨⟨some ⟨w.heap.size, 0, none⟩, g.length, ?_, ?_⟩, hb⟩
      · show _ = Ending.returned (.slice _ (Bs.tailsK g 0).length _)
        rw [hsl]
        rfl
      · have := hB.oi (Nat.le_refl _) (by omega)
        rw [hsl] at this
        exact this
end Go.Proofs.Ytihgakbopkaemaa
namespace Go.Proofs.Ytihgakbopkaemaa
open Go.RowKit
set_option maxHeartbeats 1600000 in
theorem TailTimes_any (A : Option Addr) (c : Nat) (g : List Bs.T) (lo hi : Nat) (w : World) (hG : RG w lo hi A g) (hh : hi ≤ w.heap.size) (hl : g.length ≤ 9223372036854775807) :
    Calls Try.prog 105 #[.slice A g.length c] w (RetI w (if Bs.valid g then Bs.tailsC g else [])) := by
  have c1 := ValidGraph_any A c g lo hi w hG hh hl
  cases hf : Bs.valid g
  · rw [hf] at c1
    have C1 := Lib.hid c1
    clear c1 hf
    go_enter Try.func105, Try.ntmps105
    go_wp2_with (go_at_call 31; refine (C1.out).mono ?_; rintro e w' ⟨rfl, hb⟩)
    go_ret
    exact RetI.nil hb rfl
  · rw [hf] at c1
    have C1 := Lib.hid c1
    have hF := valid_fine hf
    have h8 := Bs.fine_len hF
    have C2 := Lib.hid (fun W (hb : Below w.heap.size w W) => TopOrder_any A c g lo hi W (hG.below hb hh) (Nat.le_trans hh hb.size) hl)
    have HT := Lib.hid (topL_yes hf)
    have HF := Lib.hid hF
    have HU := Lib.hid (valid_full hf)
    have hdl := (Bs.top_dist g).le
    have hmk := make_ints g.length (by omega)
    clear c1 hf hF
    go_enter Try.func105, Try.ntmps105
    go_wp2_with fail
    refine (C1.out).mono ?_; rintro e w1 ⟨rfl, hb1⟩
    have s1 := hb1.size
    have hb1a : Below w.heap.size w (w1.alloc (.cells (intsA (List.replicate g.length 0)) 3)) := hb1.alloc s1 _
    have B1 : Arr (w1.alloc (.cells (intsA (List.replicate g.length 0)) 3)) w1.heap.size (List.replicate g.length 0) := Blk.new w1 3 _
    generalize (.cells (intsA (List.replicate g.length 0)) 3 : Obj) = ob at *
    go_wp2_with fail
    have c2 := C2.out _ hb1a
    rw [HT.out] at c2
    refine (c2).mono ?_; rintro e w2 ⟨⟨A2, c2, rfl, ho2⟩, hb2⟩
    have s2 := hb2.size
    simp only [World.size_alloc] at s2
    have hb02 := hb1a.trans (hb2.mono hb1a.size)
    have q2 := ho2.ri
    simp only [World.size_alloc] at q2
    have B2 := Lib.hid (B1.below hb2 (by simp))
    have S2 := Lib.hid (Bs.TailImpl.start HU.out)
    clear ho2 B1 hmk
    go_wp2
    go_loopw [5] (fun i wr => ∃ (k : Nat) (t : List Int), k ≤ (Bs.top g).length ∧ i = .int .i64 ((k : Int) - 1) ∧ Arr wr w1.heap.size t ∧ Bs.TailImpl g k t ∧ RI wr (w1.heap.size + 1) w2.heap.size A2 (Bs.top g) ∧ Below w.heap.size w wr) (fun i _ => (intOf i + 1).toNat)
    case atStart => exact ⟨(Bs.top g).length, _, Nat.le_refl _, rfl, B2.out, S2.out, q2, hb02⟩
    case round =>
      obtain ⟨k, t, hk, rfl, hB, hm, hq, hb⟩ := hrel
      have hsl := hm.len
      by_cases hlt : 0 < k
      · obtain ⟨k, rfl⟩ : ∃ m, k = m + 1 := ⟨k - 1, by omega⟩
        have hlt : k < (Bs.top g).length := by omega
        obtain ⟨b1, o1, rfl, _, _, hc1⟩ := hq.at_ hlt
        have hr1 := Bs.top_range hlt
        have hst := fun t' => hm.step (t' := t') HF.out HU.out hlt
        have hnu := Bs.notUser hlt
        obtain ⟨v, hv⟩ : ∃ v : Nat, (Bs.top g)[k] = (v : Int) := ⟨(Bs.top g)[k].toNat, by omega⟩
        rw [hv, Int.toNat_natCast] at hst hnu
        rw [hv] at hc1 hr1
        have hvl : v < g.length := by omega
        have HST := Lib.hid hst
        have HM := Lib.hid hm
        have HN := Lib.hid (Bs.need_eq hvl)
        have HNU := Lib.hid hnu
        have HND := Lib.hid (Bs.fine_nodup HF.out hvl)
        have ek : (((k + 1 : Nat) : Int) - 1) = (k : Int) := by omega
        rw [ek]
        obtain ⟨b, o, N, cN, rfl, h1, h2, t0, t1, _, _, hlN, hcN, hN⟩ := hG v hvl
        have t0 := (hb.cell (p := ⟨b, o + v * 4, none⟩) (by show b < _; omega)).trans t0
        have t1 := (hb.cell (p := ⟨b, o + v * 4 + 1, none⟩) (by show b < _; omega)).trans t1
        rw [← Bs.timeOf_eq hvl] at t0
        have hti := Bs.fine_time HF.out hvl
        have e1 := hB.cell (i := v) (by omega)
        have hfz := hB.frozen v
        have g0 := hm.lo v hvl
        have g1 := hm.hi v hvl
        have HP := Lib.hid (Bs.PushIn.start (g := g) (t := t) (a := v) (by omega))
        have HB2 := Lib.hid (hB.set_ v (Bs.gi t v + Bs.timeOf g v))
        have hne : b ≠ w1.heap.size := by omega
        clear hv hst hr1 hm ek hnu hB
        generalize hT0 : Bs.timeOf g v = t0v at *
        generalize hG0 : Bs.gi t v = g0v at *
        have HX := Lib.hid (And.intro hG0 hT0)
        clear hG0 hT0
        go_wp2
        go_region
        go_wp2
        go_loopw [45] (fun j wr => ∃ (p : Nat) (t' : List Int), p ≤ g[v].needs.length ∧ j = .int .i64 p ∧ Arr wr w1.heap.size t' ∧ Bs.PushIn g t v p t' ∧ RI wr (w1.heap.size + 1) w2.heap.size (some ⟨b1, o1, none⟩) (Bs.top g) ∧ Below w.heap.size w wr) (fun j _ => g[v].needs.length - (intOf j).toNat)
        case atStart =>
          refine ⟨0, t.set v (g0v + t0v), Nat.zero_le _, rfl, HB2.out, ?_, hq.set_far (.inl (by simp)) _, (hb.setCell (by show _ ≤ w1.heap.size; exact s1) _).drew⟩
          have := HP.out
          exact this
        case round =>
          clear t0 t1 hc1 hq hb e1 hfz
          obtain ⟨p, t', hp, rfl, hB, hP, hq, hb⟩ := hrel
          have sr := hb.size
          have htl : t'.length = g.length := hP.1.trans hsl
          by_cases hlt2 : p < g[v].needs.length
          · obtain ⟨b3, o3, rfl, _, _, hc3⟩ := (hN.below hb hh).at_ hlt2
            have hpl : p < (Bs.need g v).length := by rw [HN.out]; exact hlt2
            have hxl := Bs.fine_need HF.out (List.getElem_mem hpl)
            have hJ := hP.step HF.out hsl hpl HNU.out hvl HND.out
            have he : (Bs.need g v)[p] = g[v].needs[p] := by simp only [HN.out]
            rw [he] at hxl hJ
            obtain ⟨x, hx⟩ : ∃ x : Nat, g[v].needs[p] = (x : Int) := ⟨g[v].needs[p].toNat, by omega⟩
            rw [hx] at hc3 hxl hJ
            rw [Int.toNat_natCast] at hJ
            have hxg : x < g.length := by omega
            have e1 := hB.cell (i := x) (by omega)
            have e2 := hB.cell (i := v) (by omega)
            have hfz := hB.frozen x
            have HB3 := Lib.hid (hB.set_ x (Bs.gi t' v))
            have HB1 := Lib.hid hB
            have HJ := Lib.hid hJ
            clear hx he hJ hxl hB hP
            generalize hG1 : Bs.gi t' v = gv at *
            generalize hG2 : Bs.gi t' x = gx at *
            have HX2 := Lib.hid (And.intro hG1 hG2)
            clear hG1 hG2
            by_cases hcmp : gx < gv
            · have HC := Lib.hid hcmp
              go_wp2
              go_quiet (fail)
              go_wp2
              go_roundw
              case rel => exact ⟨p + 1, t'.set x gv, by omega, by go_num, HB3.out, by have := HJ.out; rw [if_pos HC.out] at this; exact this, hq.set_far (.inl (by simp)) _, (hb.drewN _).setCell (by show _ ≤ w1.heap.size; exact s1) _⟩
              case measure => simp [intOf]; omega
            · have HC := Lib.hid hcmp
              go_wp2
              go_quiet (fail)
              go_wp2
              go_roundw
              case rel => exact ⟨p + 1, t', by omega, by go_num, HB1.out, by have := HJ.out; rw [if_neg (by have := HC.out; omega)] at this; exact this, hq, hb.drewN _⟩
              case measure => simp [intOf]; omega
          · obtain rfl : p = g[v].needs.length := by omega
            rw [← HN.out] at hP
            have HS := Lib.hid (HST.out t' hP.done)
            clear hP
            go_wp2
            go_roundw
            case rel => exact ⟨k, t', by omega, rfl, hB, HS.out, hq, hb⟩
            case measure => simp [intOf]
      · obtain rfl : k = 0 := by omega
        have he := Bs.tails_eq HF.out HU.out hm
        subst he
        go_wp2
        go_ret
        refine ⟨⟨some ⟨w1.heap.size, 0, none⟩, g.length, ?_, ?_⟩, hb⟩
        · show _ = Ending.returned (.slice _ (Bs.tailsC g).length _)
          rw [hsl]
          rfl
        · have := hB.oi s1 (by omega)
          rw [hsl] at this
          exact this

theorem tailsS_ret (A : Option Addr) (c : Nat) (g : List Bs.T) (lo hi : Nat) (w : World) (hG : RG w lo hi A g) (hh : hi ≤ w.heap.size) (hf : Bs.valid g = true) :
    Calls Try.prog 119 #[.slice A g.length c] w (RetI w (Bs.tailsC g)) := tailsS_any A c g lo hi w hG hh (valid_fine hf) (valid_full hf)
theorem tails_len {g : List Bs.T} (hf : Bs.valid g = true) : (Bs.tailsC g).length = g.length := (Bs.tailsC_spec (valid_fine hf) (valid_full hf)).len
theorem TailTimes_len (g : List Bs.T) : (if Bs.valid g then Bs.tailsC g else []).length ≤ 1000 := by
  split
  · rename_i h
    have h1 := Bs.fine_len (valid_fine h)
    have h2 := tails_len h
    omega
  · simp
end Go.Proofs.Ytihgakbopkaemaa
namespace Go.Proofs.Ytihgakbopkaemaa
open Go.RowKit
def longC (g : List Bs.T) : Int := Bs.maxL (Bs.tailsC g)
def longL (g : List Bs.T) : Int := if Bs.valid g then longC g else -1
theorem maxL_take (l : List Int) (k : Nat) (hk : k < l.length) : Bs.maxL (l.take (k + 1)) = max (Bs.maxL (l.take k)) l[k] := by
  rw [show l.take (k + 1) = l.take k ++ [l[k]] from List.take_succ_eq_append_getElem hk, Bs.maxL_snoc]
theorem longL_no {g : List Bs.T} (h : Bs.valid g = false) : longL g = -1 := by unfold longL; rw [h]; rfl
theorem longL_yes {g : List Bs.T} (h : Bs.valid g = true) : longL g = longC g := by unfold longL; rw [h]; rfl
end Go.Proofs.Ytihgakbopkaemaa
