/-
  WALKS: beginnings of tasks, of the program: whether all fits; of a list; as a list.
-/
import Derived.Test.YtfdaeomlgpflhaaW51
namespace Go.Proofs.Ytfdaeomlgpflhaa
open Go.RowKit
def fitK (g : List Bs.T) (m : List Int) (wk : Int) (f : Nat → Int) (b : Nat) (k : Nat) : Bool := (List.range k).all fun i => !b.testBit i || Bs.fitN g m wk (Bs.runB g f b (f i))
theorem fitK_succ (g : List Bs.T) (m : List Int) (wk : Int) (f : Nat → Int) (b : Nat) (k : Nat) : fitK g m wk f b (k + 1) = (fitK g m wk f b k && (!b.testBit k || Bs.fitN g m wk (Bs.runB g f b (f k)))) := by
  unfold fitK
  rw [List.range_succ, List.all_append]
  simp
theorem fitK_no {g : List Bs.T} {m : List Int} {wk : Int} {f : Nat → Int} {b k : Nat} (hk : k < g.length) (h : (!b.testBit k || Bs.fitN g m wk (Bs.runB g f b (f k))) = false) : Bs.fitB g m wk f b = false := by
  unfold Bs.fitB
  rw [List.all_eq_false]
  exact ⟨k, by simp [hk], by simp only [h]; simp⟩
set_option maxHeartbeats 800000 in
theorem bgFit_any (f : Nat → Int) (b : Nat) (A : Option Addr) (c : Nat) (g : List Bs.T) (A1 : Option Addr) (c1 : Nat) (m : List Int) (wk : Int) (lo hi l1 h1 : Nat) (w : World) (h : RG w lo hi A g) (hh : hi ≤ w.heap.size) (hm : RI w l1 h1 A1 m) (hh1 : h1 ≤ w.heap.size) (hF : Bs.fine g = true) (hm3 : m.length = 3) (hb8 : b < 256) (hf : ∀ i, i < 8 → 0 ≤ f i ∧ f i ≤ 100000) :
    Calls Try.prog 45 #[.agg (bgA f b), .slice A g.length c, .slice A1 m.length c1, .int .i64 wk] w fun e w' => e = .returned (.bool (Bs.fitB g m wk f b)) ∧ Below w.heap.size w w' := by
  have hgl := Bs.fine_len hF
  have hb0 := BG.new w f b
  have hal : Below w.heap.size w (w.alloc (.cells (bgA f b) 54)) := (Below.refl _ _).alloc (Nat.le_refl _) _
  have hsz := bgA_size f b
  have HB0 := Lib.hid hb0
  have HL0 := Lib.hid hal
  have C2 := Lib.hid (fun (now : Int) W (hbW : Below w.heap.size w W) => bgRunning_any f b A c g now lo hi W (h.below hbW hh) (Nat.le_trans hh hbW.size) hF hb8 hf)
  have C4 := Lib.hid (fun (A' : Option Addr) (c' : Nat) (r : List Int) (l2 h2 : Nat) W (hbW : Below w.heap.size w W) (hr : RI W l2 h2 A' r) (hh2 : h2 ≤ W.heap.size) (hin : ∀ x ∈ r, 0 ≤ x ∧ x < g.length) (hl : r.length ≤ 100) => countUnits_any A c g A' c' r lo hi l2 h2 W (h.below hbW hh) (Nat.le_trans hh hbW.size) hr hh2 hF hin hl)
  have C5 := Lib.hid (fun (x0 x1 x2 n : Int) W (hb : Below w.heap.size w W) => fits_any x0 x1 x2 n A1 c1 m l1 h1 W (hm.below hb hh1) (Nat.le_trans hh1 hb.size) hm3)
  have HE := Lib.hid (show fitK g m wk f b g.length = Bs.fitB g m wk f b from rfl)
  clear hb0 hal h hf hF hm hm3
  go_enter Try.func45, Try.ntmps45
  go_wp2
  go_loopw [13] (fun i wr => ∃ (k : Nat), k ≤ g.length ∧ i = .int .i64 k ∧ fitK g m wk f b k = true ∧ BG wr w.heap.size f b ∧ Below w.heap.size w wr ∧ w.heap.size + 1 ≤ wr.heap.size) (fun i _ => g.length - (intOf i).toNat)
  case atStart => exact ⟨0, Nat.zero_le _, rfl, rfl, HB0.out, HL0.out, by simp⟩
  case round =>
    obtain ⟨k, hk, rfl, hfk, hB, hb, hs⟩ := hrel
    clear HB0 HL0
    by_cases hlt : k < g.length
    · have hk8 : k < 8 := by omega
      have k8 := hB.b
      have kk := hB.at_ hk8
      have c1 := fun W => hasTask_any b k W hb8 hk8
      have hsu := fitK_succ g m wk f b k
      have hno := fun h => fitK_no (g := g) (m := m) (wk := wk) (f := f) (b := b) hlt h
      rw [hfk] at hsu
      have hrl := Bs.runB_len g f b (f k)
      have HRI := Lib.hid (Bs.runB_in (g := g) (f := f) (b := b) (now := f k))
      have hfe := fits_eq g m (Bs.runB g f b (f k))
      have c3 := fun W hW => C2.out (f k) W hW
      have sb1 : w.heap.size < wr.heap.size := hs
      have sb2 : ¬ w.heap.size = wr.heap.size := by omega
      have HX0 := Lib.hid (show Below w.heap.size w wr.drew from hb.drewN 1)
      have HX1 := Lib.hid (show Below w.heap.size w (wr.alloc (.cells #[.int .i64 0, .int .i64 0, .int .i64 0, .int .i64 0] 89)).drew from (hb.alloc hb.size _).drewN 1)
      have HP1 := Lib.hid (show Blk (wr.alloc (.cells #[.int .i64 0, .int .i64 0, .int .i64 0, .int .i64 0] 89)).drew wr.heap.size 89 #[.int .i64 0, .int .i64 0, .int .i64 0, .int .i64 0] from Blk.new wr _ _)
      unfold bgA at c3
      have C3 := Lib.hid c3
      have b0 := hB.at_ (i := 0) (by omega)
      have b1 := hB.at_ (i := 1) (by omega)
      have b2 := hB.at_ (i := 2) (by omega)
      have b3 := hB.at_ (i := 3) (by omega)
      have b4 := hB.at_ (i := 4) (by omega)
      have b5 := hB.at_ (i := 5) (by omega)
      have b6 := hB.at_ (i := 6) (by omega)
      have b7 := hB.at_ (i := 7) (by omega)
      clear c3
      have HB := Lib.hid hB
      have HBb := Lib.hid hb
      have i0 : (0 : Int) ≤ (k : Int) := by omega
      have i1 : (k : Int) < 8 := by omega
      clear hfk hB hb C2
      cases hq : b.testBit k
      · rw [hq] at c1 hsu
        have C1 := Lib.hid c1
        have HS := Lib.hid hsu
        clear c1 hsu hno hq hfe C3 HRI hrl b0 b1 b2 b3 b4 b5 b6 b7
        go_wp2_with fail
        with_reducible refine (C1.out _).mono ?_
        rintro e w2 ⟨rfl, rfl⟩
        go_wp2
        go_roundw
        case rel => exact ⟨k + 1, by omega, by go_num, by rw [HS.out]; rfl, HB.out, HBb.out, hs⟩
        case measure => simp [intOf]; omega
      · rw [hq] at c1 hsu hno
        have hfn : Bs.fitN g m wk (Bs.runB g f b (f k)) = (decide (((Bs.runB g f b (f k)).length : Int) ≤ wk) && Bs.fitsC g m (Bs.runB g f b (f k))) := rfl
        rw [hfn] at hsu hno
        clear hfn
        have C1 := Lib.hid c1
        rw [hfe] at hsu hno
        clear c1 hq hfe
        generalize f k = fk at *
        generalize hR : Bs.runB g f b fk = R at *
        have C6 := Lib.hid (fun (A' : Option Addr) (c' : Nat) (l2 h2 : Nat) W (hbW : Below w.heap.size w W) (hr : RI W l2 h2 A' R) (hh2 : h2 ≤ W.heap.size) => C4.out A' c' R l2 h2 W hbW hr hh2 HRI.out (by omega))
        clear C4 hR HRI
        unfold pcV at C6
        generalize Bs.usedC g R 0 = x0 at *
        generalize Bs.usedC g R 1 = x1 at *
        generalize Bs.usedC g R 2 = x2 at *
        obtain ⟨n, hn⟩ : ∃ n : Int, n = (R.length : Int) := ⟨_, rfl⟩
        rw [← hn] at hsu hno C6
        have HS := Lib.hid hsu
        have HNO := Lib.hid hno
        have HN := Lib.hid hn
        clear hsu hno hn hrl
        go_wp2_with fail
        with_reducible refine (C1.out _).mono ?_
        rintro e w2 ⟨rfl, rfl⟩
        go_wp2_with fail
        go_region_law (first
          | (go_simp; (go_at_call 59; (with_reducible refine (C3.out _ (by first | exact HX0.out | exact HX1.out)).mono ?_); rintro e w5 ⟨⟨A5, c5, rfl, ho5⟩, hb5⟩; have s5 : wr.heap.size ≤ w5.heap.size := Nat.le_trans (by simp) hb5.size; have HO5 := Lib.hid (ho5.ri); have HBb5 := Lib.hid (show Below w.heap.size w w5 from by first | exact HX0.out.trans (hb5.mono HX0.out.size) | exact HX1.out.trans (hb5.mono HX1.out.size)); have HB5 := Lib.hid (show BG w5 w.heap.size f b from by first | exact (HB.out.drewN 1).below hb5 hs | exact ((HB.out.alloc _).drewN 1).below hb5 (by simp; omega)); try have HP5 := Lib.hid (show Blk w5 wr.heap.size 89 #[.int .i64 0, .int .i64 0, .int .i64 0, .int .i64 0] from HP1.out.below hb5 (by simp)); clear hb5 ho5))
          | (go_simp; (go_at_call 83; (with_reducible refine (C6.out _ _ _ _ _ (by first | exact HBb5.out | exact HBb5.out.alloc HBb5.out.size _) (by first | exact HO5.out | exact HO5.out.keep fun p _ hp => World.cell?_alloc_lt w5 _ p hp) (by first | exact Nat.le_refl _ | simp)).mono ?_); rintro e w6 ⟨rfl, hb6⟩; have s6 : w5.heap.size ≤ w6.heap.size := Nat.le_trans (by simp) hb6.size; have HBb6 := Lib.hid (show Below w.heap.size w w6 from by first | exact HBb5.out.trans (hb6.mono HBb5.out.size) | exact (HBb5.out.alloc HBb5.out.size _).trans (hb6.mono (Nat.le_trans HBb5.out.size (by simp)))); have HB6 := Lib.hid (show BG w6 w.heap.size f b from by first | exact HB5.out.below hb6 HB5.out.lt | exact (HB5.out.alloc _).below hb6 (Nat.lt_of_lt_of_le HB5.out.lt (by simp))); (first | have HP6 := Lib.hid (show Blk w6 wr.heap.size 89 #[.int .i64 0, .int .i64 0, .int .i64 0, .int .i64 0] from HP5.out.below hb6 HP5.out.lt) | (have HP6 := Lib.hid (show Blk w6 w5.heap.size 89 #[.int .i64 0, .int .i64 0, .int .i64 0, .int .i64 0] from (Blk.new w5 _ _).below hb6 (by simp))) | skip); try (have e0 := HP6.out.cell 0; have e1 := HP6.out.cell 1; have e2 := HP6.out.cell 2; have e3 := HP6.out.cell 3; have e4 := HP6.out.frozen 0; have e5 := HP6.out.frozen 1; have e6 := HP6.out.frozen 2; have e7 := HP6.out.frozen 3); clear hb6)))
        all_goals
          try clear e0 e1 e2 e3 e4 e5 e6 e7
          clear b0 b1 b2 b3 b4 b5 b6 b7 kk k8 C3 C6
          first
            | (have hP := pc_block (show Blk w6 wr.heap.size 89 #[.int .i64 0, .int .i64 0, .int .i64 0, .int .i64 0] from HP6.out) (.int .i64 x0) (.int .i64 x1) (.int .i64 x2) (.int .i64 n); have HP7 := Lib.hid hP; have HB7 := Lib.hid (((((HB6.out.far (p := ⟨wr.heap.size, 0, none⟩) (by show _ ≠ wr.heap.size; omega) (.int .i64 x0)).far (p := ⟨wr.heap.size, 1, none⟩) (by show _ ≠ wr.heap.size; omega) (.int .i64 x1)).far (p := ⟨wr.heap.size, 2, none⟩) (by show _ ≠ wr.heap.size; omega) (.int .i64 x2)).far (p := ⟨wr.heap.size, 3, none⟩) (by show _ ≠ wr.heap.size; omega) (.int .i64 n))); have HBb7 := Lib.hid (((((HBb6.out.setCell (p := ⟨wr.heap.size, 0, none⟩) (by show _ ≤ wr.heap.size; omega) (.int .i64 x0)).setCell (p := ⟨wr.heap.size, 1, none⟩) (by show _ ≤ wr.heap.size; omega) (.int .i64 x1)).setCell (p := ⟨wr.heap.size, 2, none⟩) (by show _ ≤ wr.heap.size; omega) (.int .i64 x2)).setCell (p := ⟨wr.heap.size, 3, none⟩) (by show _ ≤ wr.heap.size; omega) (.int .i64 n))); have s7 : w.heap.size + 1 ≤ w6.heap.size := by omega)
            | (have hP := pc_block (show Blk w6 w5.heap.size 89 #[.int .i64 0, .int .i64 0, .int .i64 0, .int .i64 0] from HP6.out) (.int .i64 x0) (.int .i64 x1) (.int .i64 x2) (.int .i64 n); have HP7 := Lib.hid hP; have HB7 := Lib.hid (((((HB6.out.far (p := ⟨w5.heap.size, 0, none⟩) (by show _ ≠ w5.heap.size; omega) (.int .i64 x0)).far (p := ⟨w5.heap.size, 1, none⟩) (by show _ ≠ w5.heap.size; omega) (.int .i64 x1)).far (p := ⟨w5.heap.size, 2, none⟩) (by show _ ≠ w5.heap.size; omega) (.int .i64 x2)).far (p := ⟨w5.heap.size, 3, none⟩) (by show _ ≠ w5.heap.size; omega) (.int .i64 n))); have HBb7 := Lib.hid (((((HBb6.out.setCell (p := ⟨w5.heap.size, 0, none⟩) (by show _ ≤ w5.heap.size; omega) (.int .i64 x0)).setCell (p := ⟨w5.heap.size, 1, none⟩) (by show _ ≤ w5.heap.size; omega) (.int .i64 x1)).setCell (p := ⟨w5.heap.size, 2, none⟩) (by show _ ≤ w5.heap.size; omega) (.int .i64 x2)).setCell (p := ⟨w5.heap.size, 3, none⟩) (by show _ ≤ w5.heap.size; omega) (.int .i64 n))); have s7 : w.heap.size + 1 ≤ w6.heap.size := by omega)
            | (have hP := Blk.new w6 89 #[.int .i64 x0, .int .i64 x1, .int .i64 x2, .int .i64 n]; have HP7 := Lib.hid hP; have HB7 := Lib.hid (HB6.out.alloc (.cells #[.int .i64 x0, .int .i64 x1, .int .i64 x2, .int .i64 n] 89)); have HBb7 := Lib.hid (HBb6.out.alloc HBb6.out.size (.cells #[.int .i64 x0, .int .i64 x1, .int .i64 x2, .int .i64 n] 89)); have s7 : w.heap.size + 1 ≤ w6.heap.size := by omega)
          have p0 := hP.cell 0
          have p1 := hP.cell 1
          have p2 := hP.cell 2
          have p3 := hP.cell 3
          have C7 := Lib.hid (C5.out x0 x1 x2 n _ HBb7.out)
          clear hP
          have HFF := Lib.hid (show fit3 x0 x1 x2 m = true ∨ fit3 x0 x1 x2 m = false from by cases fit3 x0 x1 x2 m <;> simp)
          by_cases hn : wk < n
          · have HNN := Lib.hid (HNO.out (by simp; omega))
            have hn2 : decide (n > wk) = true := by simp; omega
            go_wp2
            go_ret
            exact ⟨ret_bool HNN.out.symm, HBb7.out⟩
          · have hn2 : decide (n > wk) = false := by simp; omega
            have hn3 : decide (wk < n) = false := by simp; omega
            rcases HFF.out with hff | hff
            · rw [hff] at C7 HS
              have HS2 := Lib.hid (show fitK g m wk f b (k + 1) = true from by rw [HS.out]; simp; omega)
              clear HNO HS hff
              go_wp2_with fail
              with_reducible refine (C7.out).mono ?_
              rintro e w8 ⟨rfl, hb8⟩
              have s8 := hb8.size
              have HB8 := Lib.hid (HB7.out.below hb8 HB7.out.lt)
              have HBb8 := Lib.hid (HBb7.out.trans (hb8.mono HBb7.out.size))
              have s9 := HBb8.out.size
              have s10 := HB8.out.lt
              clear hb8
              go_wp2
              go_roundw
              case rel => exact ⟨k + 1, by omega, by go_num, HS2.out, HB8.out, HBb8.out, by omega⟩
              case measure => simp [intOf]; omega
            · rw [hff] at C7 HNO
              have HNN := Lib.hid (HNO.out (by simp))
              clear HS HNO hff
              go_wp2_with fail
              with_reducible refine (C7.out).mono ?_
              rintro e w8 ⟨rfl, hb8⟩
              have HBb8 := Lib.hid (HBb7.out.trans (hb8.mono HBb7.out.size))
              clear hb8
              go_wp2
              go_ret
              exact ⟨ret_bool HNN.out.symm, HBb8.out⟩
    · obtain rfl : k = g.length := by omega
      have HBb := Lib.hid hb
      have HQ := Lib.hid hfk
      clear hB hb hfk
      go_wp2
      go_ret
      exact ⟨ret_bool (by rw [← HE.out, HQ.out]), HBb.out⟩
end Go.Proofs.Ytfdaeomlgpflhaa
