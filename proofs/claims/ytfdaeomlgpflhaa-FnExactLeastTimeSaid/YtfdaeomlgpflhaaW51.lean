/-
  WALKS: beginnings of tasks, of the program: when the needs are over, what runs, whether all fits.
-/
import Derived.Test.YtfdaeomlgpflhaaW50
import Derived.Test.YtfdaeomlgpflhaaW37
namespace Go.Proofs.Ytfdaeomlgpflhaa
open Go.RowKit
theorem bgw_load {ops : Array Oper} {rest : List Oper} {o : Oper} {a : Act} {w : World} {Q : Exit → Act → World → Prop} (hw : Region.wanted o (yielded ops a.tmps) = true) (x : Operand) (ho : o.op = .load 54 x)
    (b : Nat) (f : Nat → Int) (s : Nat) (hx : a.eval x = .pointer (some ⟨b, 0, none⟩)) (hb : BG w b f s) (h : wpList Try.prog ops Q rest (a.put o.dst (.agg (bgA f s))) w) : wpList Try.prog ops Q (o :: rest) a w :=
  BigFrame.wpList_want hw fun _ hK => wp_load_row 54 x ho b hx 54 (bgA f s) (0, 0) _ hb Try.underlying54 rfl bgSize (hK _ _ h)
set_option maxHeartbeats 800000 in
theorem bgRunning_any (f : Nat → Int) (b : Nat) (A : Option Addr) (c : Nat) (g : List Bs.T) (now : Int) (lo hi : Nat) (w : World) (h : RG w lo hi A g) (hh : hi ≤ w.heap.size) (hF : Bs.fine g = true) (hb8 : b < 256) (hf : ∀ i, i < 8 → 0 ≤ f i ∧ f i ≤ 100000) :
    Calls Try.prog 59 #[.agg (bgA f b), .slice A g.length c, .int .i64 now] w (RetI w (Bs.runB g f b now)) := by
  have hgl := Bs.fine_len hF
  have hb0 := BG.new w f b
  have hal : Below w.heap.size w (w.alloc (.cells (bgA f b) 54)) := (Below.refl _ _).alloc (Nat.le_refl _) _
  have hsz := bgA_size f b
  have hs1 : (w.alloc (.cells (bgA f b) 54)).heap.size = w.heap.size + 1 := by simp
  have HO0 := Lib.hid (OI.new (w.alloc (.cells (bgA f b) 54)) (w.heap.size + 1) (by simp))
  have HB0 := Lib.hid (hb0.alloc (.cells #[] 3))
  have HL0 := Lib.hid (hal.alloc (by simp) (.cells #[] 3))
  have C2 := Lib.hid (fun (v : Nat) (hv : v < g.length) W (hbW : Below w.heap.size w W) => over_any f b A c g v lo hi W (h.below hbW hh) (Nat.le_trans hh hbW.size) hF hv hf)
  have HE := Lib.hid (show Bs.runB g f b now = Bs.pick g.length (Bs.runBp g f b now) from rfl)
  clear hb0 hal h hf hF
  go_enter Try.func59, Try.ntmps59
  go_wp2
  go_loopw [7, 12] (fun vo i wr => ∃ (k : Nat) (A' : Option Addr) (c' : Nat) (o : List Int), k ≤ g.length ∧ vo = .slice A' o.length c' ∧ i = .int .i64 k ∧ o = Bs.pick k (Bs.runBp g f b now) ∧ OI wr (w.heap.size + 1) A' c' o ∧ BG wr w.heap.size f b ∧ Below w.heap.size w wr ∧ w.heap.size + 1 ≤ wr.heap.size) (fun _ i _ => g.length - (intOf i).toNat)
  case atStart => exact ⟨0, _, _, [], Nat.zero_le _, rfl, rfl, rfl, by have := HO0.out; rw [hs1] at this; exact this, HB0.out, HL0.out, by simp⟩
  case round =>
    obtain ⟨k, A', c', o, hk, rfl, rfl, ho, hO, hB, hb, hs⟩ := hrel
    clear HO0 HB0 HL0 hs1
    by_cases hlt : k < g.length
    · have hk8 : k < 8 := by omega
      have k8 := hB.b
      have kk := hB.at_ hk8
      have c1 := fun W => hasTask_any b k W hb8 hk8
      have C3 := Lib.hid (C2.out k hlt wr hb)
      have hp := Bs.pick_succ k (Bs.runBp g f b now)
      rw [← ho] at hp
      have hpe : Bs.runBp g f b now k = (b.testBit k && (decide (f k ≤ now) && decide (now < f k + Bs.timeOf g k))) := rfl
      rw [hpe] at hp
      have hol := Bs.pick_len k (Bs.runBp g f b now)
      rw [← ho] at hol
      have HOL := Lib.hid hol
      have HO := Lib.hid hO
      have HB := Lib.hid hB
      have HBb := Lib.hid hb
      have i0 : (0 : Int) ≤ (k : Int) := by omega
      have i1 : (k : Int) < 8 := by omega
      have i2 : (k : Int) < (g.length : Int) := by omega
      clear ho hpe hO hB hb hol C2
      cases hq : b.testBit k
      · rw [hq] at c1 hp
        simp only [Bool.false_and, Bool.false_eq_true, if_false] at hp
        have C1 := Lib.hid c1
        have HP := Lib.hid hp.symm
        clear c1 hp hq C3
        go_wp2_with fail
        with_reducible refine (C1.out _).mono ?_
        rintro e w2 ⟨rfl, rfl⟩
        go_wp2
        go_roundw
        case rel => exact ⟨k + 1, A', c', o, by omega, rfl, by go_num, HP.out, HO.out, HB.out, HBb.out, hs⟩
        case measure => simp [intOf]; omega
      · rw [hq] at c1 hp
        simp only [Bool.true_and] at hp
        have C1 := Lib.hid c1
        clear c1 hq
        generalize Bs.timeOf g k = tk at *
        generalize f k = fk at *
        by_cases h1 : fk ≤ now
        · have d1 : decide (fk ≤ now) = true := by simp [h1]
          by_cases h2 : now < fk + tk
          · have d2 : decide (now < fk + tk) = true := by simp [h2]
            rw [d1, d2] at hp
            simp only [Bool.and_self, if_true] at hp
            have HP := Lib.hid hp.symm
            clear hp
            go_wp2_with fail
            with_reducible refine (C1.out _).mono ?_
            rintro e w2 ⟨rfl, rfl⟩
            go_wp2_with (first | (refine bgw_load (by rfl) _ rfl w.heap.size f b rfl HB.out ?_))
            with_reducible refine (C3.out).mono ?_
            rintro e w2 ⟨rfl, hb2⟩
            have s2 := hb2.size
            have HO2 := Lib.hid ((HO.out.below hb2 (Nat.le_refl _)).alloc (.cells #[.int .i64 (k : Int)] 3))
            have HB2 := Lib.hid ((HB.out.below hb2 (by omega)).alloc (.cells #[.int .i64 (k : Int)] 3))
            have HBb2 := Lib.hid ((HBb.out.trans (hb2.mono HBb.out.size)).alloc (by omega) (.cells #[.int .i64 (k : Int)] 3))
            clear hb2 C3 C1
            go_wp2_with (first
              | (at_builtin; refine push_int rfl _ _ rfl (w.heap.size + 1) A' c' o (k : Int) rfl HO2.out w2.heap.size 1 rfl (by simp [go_sem]) (by have := HOL.out; omega) (by simp; omega) ?_; intro A6 c6 w6 ho6 hb6 _; have HO6 := Lib.hid ho6; have HB6 := Lib.hid (HB2.out.below hb6 (by omega)); have HBb6 := Lib.hid (HBb2.out.trans (hb6.mono (by omega))); have s6 := hb6.size; rw [World.size_alloc] at s6; clear ho6 hb6))
            go_roundw
            case rel => exact ⟨k + 1, A6, c6, o ++ [(k : Int)], by omega, by rw [List.length_append]; rfl, by go_num, HP.out, HO6.out, HB6.out, HBb6.out, by omega⟩
            case measure => simp [intOf]; omega
          · have d2 : decide (now < fk + tk) = false := by simp; omega
            rw [d1, d2] at hp
            simp only [Bool.and_false, Bool.false_eq_true, if_false] at hp
            have HP := Lib.hid hp.symm
            clear hp
            go_wp2_with fail
            with_reducible refine (C1.out _).mono ?_
            rintro e w2 ⟨rfl, rfl⟩
            go_wp2_with (first | (refine bgw_load (by rfl) _ rfl w.heap.size f b rfl HB.out ?_))
            with_reducible refine (C3.out).mono ?_
            rintro e w2 ⟨rfl, hb2⟩
            have s2 := hb2.size
            have HO2 := Lib.hid (HO.out.below hb2 (Nat.le_refl _))
            have HB2 := Lib.hid (HB.out.below hb2 (by omega))
            have HBb2 := Lib.hid (HBb.out.trans (hb2.mono HBb.out.size))
            clear hb2 C3 C1
            go_wp2
            go_roundw
            case rel => exact ⟨k + 1, A', c', o, by omega, rfl, by go_num, HP.out, HO2.out, HB2.out, HBb2.out, by omega⟩
            case measure => simp [intOf]; omega
        · have d1 : decide (fk ≤ now) = false := by simp; omega
          rw [d1] at hp
          simp only [Bool.false_and, Bool.false_eq_true, if_false] at hp
          have HP := Lib.hid hp.symm
          clear hp C3
          go_wp2_with fail
          with_reducible refine (C1.out _).mono ?_
          rintro e w2 ⟨rfl, rfl⟩
          go_wp2
          go_roundw
          case rel => exact ⟨k + 1, A', c', o, by omega, rfl, by go_num, HP.out, HO.out, HB.out, HBb.out, hs⟩
          case measure => simp [intOf]; omega
    · obtain rfl : k = g.length := by omega
      have HO := Lib.hid hO
      have HBb := Lib.hid hb
      have HQ := Lib.hid ho
      clear hO hB hb ho
      go_wp2
      go_ret
      rw [HE.out, ← HQ.out]
      exact ⟨⟨A', c', rfl, HO.out.base (by omega)⟩, HBb.out⟩
set_option maxHeartbeats 800000 in
theorem needsOver_any (f : Nat → Int) (b : Nat) (A : Option Addr) (c : Nat) (g : List Bs.T) (v : Nat) (lo hi : Nat) (w : World) (h : RG w lo hi A g) (hh : hi ≤ w.heap.size) (hF : Bs.fine g = true) (hv : v < g.length) (hf : ∀ i, i < 8 → 0 ≤ f i ∧ f i ≤ 100000) :
    Calls Try.prog 44 #[.agg (bgA f b), .slice A g.length c, .int .i64 (v : Int)] w fun e w' => e = .returned (.int .i64 (Bs.needsOv g f v)) ∧ Below w.heap.size w w' := by
  have hgl := Bs.fine_len hF
  have hb0 := BG.new w f b
  have hal : Below w.heap.size w (w.alloc (.cells (bgA f b) 54)) := (Below.refl _ _).alloc (Nat.le_refl _) _
  have hsz := bgA_size f b
  have HB0 := Lib.hid hb0
  have HL0 := Lib.hid hal
  have C2 := Lib.hid (fun (v : Nat) (hv : v < g.length) W (hbW : Below w.heap.size w W) => over_any f b A c g v lo hi W (h.below hbW hh) (Nat.le_trans hh hbW.size) hF hv hf)
  have HNI := Lib.hid (Bs.inG_mem (Bs.fine_inG hF hv))
  have hnl := Bs.fine_needs_len hF hv
  have HE := Lib.hid (show Bs.needsOv g f v = Bs.maxL (g[v].needs.map (Bs.ovF g f)) from by rw [← need_at hv]; rfl)
  obtain ⟨bg, og, N, cN, rfl, _, hgh, _, q1, _, _, hlN, hcN, hN⟩ := h v hv
  replace q1 := (hal.cell (p := ⟨bg, og + v * 4 + 1, none⟩) (by show bg < _; omega)).trans q1
  have HN0 := Lib.hid (fun W (hbW : Below w.heap.size w W) => hN.below hbW hh)
  have HTB := Lib.hid (fun i => Bs.time_b hF i)
  have Hf := Lib.hid hf
  have i0 : (0 : Int) ≤ (v : Int) := by omega
  have i1 : (v : Int) < (g.length : Int) := by omega
  clear hb0 hal hf hF h hN
  generalize hL : g[v].needs = L at *
  clear hL
  go_enter Try.func44, Try.ntmps44
  go_wp2
  go_loopw [7, 16] (fun s i wr => ∃ (k : Nat) (t : Int), k ≤ L.length ∧ s = .int .i64 t ∧ i = .int .i64 k ∧ t = Bs.maxL ((L.take k).map (Bs.ovF g f)) ∧ BG wr w.heap.size f b ∧ Below w.heap.size w wr) (fun _ i _ => L.length - (intOf i).toNat)
  case atStart => exact ⟨0, 0, Nat.zero_le _, rfl, rfl, by simp [Bs.maxL], HB0.out, HL0.out⟩
  case round =>
    obtain ⟨k, t, hk, rfl, rfl, ht, hB, hb⟩ := hrel
    clear HB0 HL0
    by_cases hlt : k < L.length
    · obtain ⟨b', o', rfl, _, _, hc⟩ := (HN0.out wr hb).at_ hlt
      have hx := HNI.out _ (List.getElem_mem hlt)
      have hst : Bs.maxL ((L.take (k + 1)).map (Bs.ovF g f)) = max t (Bs.ovF g f L[k]) := by
        rw [List.take_succ_eq_append_getElem hlt, List.map_append, ht]
        exact Bs.maxL_append _ _
      obtain ⟨x, hxv⟩ : ∃ x : Nat, L[k] = (x : Int) := ⟨L[k].toNat, by omega⟩
      rw [hxv] at hc hx hst
      have hxl : x < g.length := by omega
      have C3 := Lib.hid (C2.out x hxl wr hb)
      have HS := Lib.hid (show Bs.maxL ((L.take (k + 1)).map (Bs.ovF g f)) = max t (f x + Bs.timeOf g x) from by rw [hst]; unfold Bs.ovF; rw [Int.toNat_natCast])
      have HB := Lib.hid hB
      have HBb := Lib.hid hb
      clear ht hB hb hst hxv C2
      generalize f x + Bs.timeOf g x = y at *
      go_wp2_with (first | (refine bg_load rfl _ rfl w.heap.size f b rfl HB.out ?_))
      with_reducible refine (C3.out).mono ?_
      rintro e w2 ⟨rfl, hb2⟩
      have s2 := hb2.size
      have sB := HB.out.lt
      have HB2 := Lib.hid (HB.out.below hb2 (by omega))
      have HBb2 := Lib.hid (HBb.out.trans (hb2.mono HBb.out.size))
      clear hb2 C3
      go_wp2_with fail
      with_reducible refine (laterOf_any t y _).mono ?_
      rintro e w3 ⟨rfl, rfl⟩
      go_wp2
      go_roundw
      case rel => exact ⟨k + 1, max t y, by omega, rfl, by go_num, HS.out.symm, HB2.out, HBb2.out⟩
      case measure => simp [intOf]; omega
    · have e : L.take k = L := List.take_of_length_le (by omega)
      rw [e] at ht
      have HT := Lib.hid (show t = Bs.needsOv g f v from by rw [HE.out, ← ht])
      have HBb := Lib.hid hb
      clear ht hB hb e
      go_wp2
      go_ret
      exact ⟨ret_int HT.out, HBb.out⟩
end Go.Proofs.Ytfdaeomlgpflhaa
