/-
  WALKS: outcomes of all tasks, of the program.
-/
import Derived.Test.YthllincpbiafcaaW73
import Derived.Test.YthllincpbiafcaaK2
namespace Go.Proofs.Ythllincpbiafcaa
open Go.RowKit
theorem canFail_any (A : Option Addr) (c : Nat) (g : List Bs.T) (A1 : Option Addr) (c1 : Nat) (F : List Int) (keep : Int) (lo hi l1 h1 : Nat) (w : World) (h : RG w lo hi A g) (hh : hi ≤ w.heap.size) (hF : RI w l1 h1 A1 F) (hh1 : h1 ≤ w.heap.size) (hl : g.length ≤ 9223372036854775807) (hFl : F.length ≤ 9223372036854775807) :
    Calls Try.prog 25 #[.slice A g.length c, .slice A1 F.length c1, .int .i64 keep] w fun e w' => e = .returned (.bool (Bs.canF g F keep)) ∧ Below w.heap.size w w' := by
  have q1 := ValidGraph_any A c g lo hi w h hh hl
  have q2 := fun W (hb : Below w.heap.size w W) => ascendingTasks_any A g.length c A1 c1 F l1 h1 W hl (hF.below hb hh1) hFl
  have e2 : (Bs.allInB F 0 ((g.length : Int) - 1) && Bs.asc F) = Bs.inG g F := by unfold Bs.inG; rw [Bool.and_comm]
  rw [e2] at q2
  have HE := Lib.hid (show Bs.canF g F keep = (Bs.valid g && Bs.inG g F && decide (1 ≤ keep ∧ keep ≤ 8)) from rfl)
  clear h hF e2
  generalize Bs.valid g = v1 at *
  generalize Bs.inG g F = v2 at *
  have C1 := Lib.hid q1
  have C2 := Lib.hid q2
  clear q1 q2
  cases v1
  · go_enter Try.func25, Try.ntmps25
    go_wp2_with fail
    with_reducible refine (C1.out).mono ?_
    rintro e w1 ⟨rfl, hb⟩
    have HB := Lib.hid hb
    clear hb
    go_wp2
    go_ret
    exact ⟨ret_bool (by rw [HE.out]; rfl), HB.out⟩
  · cases v2
    · go_enter Try.func25, Try.ntmps25
      go_wp2_with fail
      with_reducible refine (C1.out).mono ?_
      rintro e w1 ⟨rfl, hb⟩
      have HB := Lib.hid hb
      clear hb
      go_wp2_with fail
      with_reducible refine (C2.out _ HB.out).mono ?_
      rintro e w2 ⟨rfl, rfl⟩
      go_wp2
      go_ret
      exact ⟨ret_bool (by rw [HE.out]; rfl), HB.out⟩
    · by_cases h3 : 1 ≤ keep
      · by_cases h4 : keep ≤ 8
        · have HV := Lib.hid (show Bs.canF g F keep = true from by rw [HE.out]; simp; omega)
          go_enter Try.func25, Try.ntmps25
          go_wp2_with fail
          with_reducible refine (C1.out).mono ?_
          rintro e w1 ⟨rfl, hb⟩
          have HB := Lib.hid hb
          clear hb
          go_wp2_with fail
          with_reducible refine (C2.out _ HB.out).mono ?_
          rintro e w2 ⟨rfl, rfl⟩
          go_wp2
          go_ret
          exact ⟨ret_bool HV.out.symm, HB.out⟩
        · have HV := Lib.hid (show Bs.canF g F keep = false from by rw [HE.out]; simp; omega)
          go_enter Try.func25, Try.ntmps25
          go_wp2_with fail
          with_reducible refine (C1.out).mono ?_
          rintro e w1 ⟨rfl, hb⟩
          have HB := Lib.hid hb
          clear hb
          go_wp2_with fail
          with_reducible refine (C2.out _ HB.out).mono ?_
          rintro e w2 ⟨rfl, rfl⟩
          go_wp2
          go_ret
          exact ⟨ret_bool (by first | exact HV.out.symm | (rw [HV.out, decide_eq_false_iff_not]; omega)), HB.out⟩
      · have HV := Lib.hid (show Bs.canF g F keep = false from by rw [HE.out]; simp; omega)
        go_enter Try.func25, Try.ntmps25
        go_wp2_with fail
        with_reducible refine (C1.out).mono ?_
        rintro e w1 ⟨rfl, hb⟩
        have HB := Lib.hid hb
        clear hb
        go_wp2_with fail
        with_reducible refine (C2.out _ HB.out).mono ?_
        rintro e w2 ⟨rfl, rfl⟩
        go_wp2
        go_ret
        exact ⟨ret_bool HV.out.symm, HB.out⟩
set_option maxHeartbeats 800000 in
theorem stList_any (o : List Int) (fa : Int) (A : Option Addr) (c : Nat) (g : List Bs.T) (w : World) (hg : g.length ≤ 8) (ho : o.length = g.length) :
    Calls Try.prog 30 #[.agg (stA (Bs.gi o) fa), .slice A g.length c] w (RetI w o) := by
  have b1 := ST.new w (Bs.gi o) fa
  have hbl : Below w.heap.size w (w.alloc (.cells (stA (Bs.gi o) fa) 54)) := (Below.refl _ _).alloc (Nat.le_refl _) _
  have hmk := make_ints g.length (by omega) (w.alloc (.cells (stA (Bs.gi o) fa) 54))
  have hsz : (w.alloc (.cells (stA (Bs.gi o) fa) 54)).heap.size = w.heap.size + 1 := by simp
  have a1 : Arr ((w.alloc (.cells (stA (Bs.gi o) fa) 54)).alloc (.cells (intsA (List.replicate g.length 0)) 3)) (w.heap.size + 1) (List.replicate g.length 0) := by
    rw [← hsz]
    exact Blk.new _ 3 _
  rw [hsz] at hmk
  have HB1 := Lib.hid (b1.alloc (.cells (intsA (List.replicate g.length 0)) 3))
  have HA1 := Lib.hid a1
  have HBL := Lib.hid (hbl.alloc (by omega) (.cells (intsA (List.replicate g.length 0)) 3))
  have hbs := stA_size (Bs.gi o) fa
  have HO := Lib.hid ho
  clear b1 hbl a1 ho
  generalize (.cells (intsA (List.replicate g.length 0)) 3 : Obj) = ob at *
  go_enter Try.func30, Try.ntmps30
  go_wp2
  go_loopw [12] (fun i wr => ∃ (k : Nat) (L : List Int), k ≤ g.length ∧ i = .int .i64 k ∧ L.length = g.length ∧ (∀ i, i < k → Bs.gi L i = Bs.gi o i) ∧ ST wr w.heap.size (Bs.gi o) fa ∧ Arr wr (w.heap.size + 1) L ∧ Below w.heap.size w wr) (fun i _ => g.length - (intOf i).toNat)
  case atStart => exact ⟨0, List.replicate g.length 0, Nat.zero_le _, rfl, by simp, fun i hi => by omega, HB1.out, HA1.out, HBL.out⟩
  case round =>
    clear HB1 HA1 HBL hmk
    obtain ⟨k, L, hk, rfl, hL, heq, hB, hA, hb⟩ := hrel
    by_cases hlt : k < g.length
    · have kv := hB.at_ (i := k) (by omega)
      have kc := hA.cell (i := k) (by omega)
      have kf := hA.frozen k
      have hs := hA.set_ k (Bs.gi o k)
      have HQ := Lib.hid (show ∀ i, i < k + 1 → Bs.gi (L.set k (Bs.gi o k)) i = Bs.gi o i from by
        intro i hi
        rw [Bs.gi_set _ _ _ _ (by omega)]
        by_cases e : i = k
        · rw [if_pos e, e]
        · rw [if_neg e]; exact heq i (by omega))
      have HL := Lib.hid (show (L.set k (Bs.gi o k)).length = g.length from by rw [List.length_set, hL])
      have HS := Lib.hid hs
      have HB := Lib.hid hB
      have HBb := Lib.hid hb
      have i0 : (0 : Int) ≤ (k : Int) := by omega
      have i1 : (k : Int) < (g.length : Int) := by omega
      have i2 : (k : Int) < 8 := by omega
      clear hs hA hB hb heq hL
      go_wp2
      go_roundw
      case rel => exact ⟨k + 1, L.set k (Bs.gi o k), by omega, by go_num, HL.out, HQ.out, HB.out.far (by simp) _, HS.out, HBb.out.setCell (by simp) _⟩
      case measure => simp [intOf]; omega
    · obtain rfl : k = g.length := by omega
      have e : L = o := Bs.list_gi (by rw [hL, HO.out]) (fun i hi => heq i (by omega))
      subst e
      have hO := hA.oi (B := w.heap.size) (by omega) (by omega)
      rw [hL] at hO
      have HOO := Lib.hid hO
      have HB := Lib.hid hb
      clear hA hO hB hb heq hL
      go_wp2
      go_ret
      refine ⟨⟨_, _, ?_, HOO.out⟩, HB.out⟩
      rw [HO.out]
      rfl
/-- a state stored cell by cell -/
def nine (w : World) (a : Nat) (f : Nat → Int) (b : Int) : World := ((((((((w.setCell ⟨a, 0, none⟩ (.int .i64 (f 0))).setCell ⟨a, 1, none⟩ (.int .i64 (f 1))).setCell ⟨a, 2, none⟩ (.int .i64 (f 2))).setCell ⟨a, 3, none⟩ (.int .i64 (f 3))).setCell ⟨a, 4, none⟩ (.int .i64 (f 4))).setCell ⟨a, 5, none⟩ (.int .i64 (f 5))).setCell ⟨a, 6, none⟩ (.int .i64 (f 6))).setCell ⟨a, 7, none⟩ (.int .i64 (f 7))).setCell ⟨a, 8, none⟩ (.int .i64 b)
theorem nine_st {w : World} {a : Nat} {f : Nat → Int} {b : Int} (h : ST w a f b) (f' : Nat → Int) (b' : Int) : ST (nine w a f' b') a f' b' := by
  have h9 := ((((((((h.setP (i := 0) (by omega) (f' 0)).setP (i := 1) (by omega) (f' 1)).setP (i := 2) (by omega) (f' 2)).setP (i := 3) (by omega) (f' 3)).setP (i := 4) (by omega) (f' 4)).setP (i := 5) (by omega) (f' 5)).setP (i := 6) (by omega) (f' 6)).setP (i := 7) (by omega) (f' 7)).setB b'
  unfold ST at h9 ⊢
  rw [stA_congr (f' := f') b' (by
    intro i hi
    rcases eight hi with rfl | rfl | rfl | rfl | rfl | rfl | rfl | rfl <;> simp [Bs.upd])] at h9
  exact h9
theorem nine_below {B : Nat} {w w' : World} (h : Below B w w') {a : Nat} (ha : B ≤ a) (f : Nat → Int) (b : Int) : Below B w (nine w' a f b) :=
  ((((((((h.setCell (p := ⟨a, 0, none⟩) ha _).setCell (p := ⟨a, 1, none⟩) ha _).setCell (p := ⟨a, 2, none⟩) ha _).setCell (p := ⟨a, 3, none⟩) ha _).setCell (p := ⟨a, 4, none⟩) ha _).setCell (p := ⟨a, 5, none⟩) ha _).setCell (p := ⟨a, 6, none⟩) ha _).setCell (p := ⟨a, 7, none⟩) ha _).setCell (p := ⟨a, 8, none⟩) ha _
theorem nine_size (w : World) (a : Nat) (f : Nat → Int) (b : Int) : (nine w a f b).heap.size = w.heap.size := by unfold nine; simp only [World.size_setCell]
theorem nine_cell (w : World) {a : Nat} (f : Nat → Int) (b : Int) {p : Addr} (hp : p.block ≠ a) : (nine w a f b).cell? p = w.cell? p := by
  have hn : ∀ j, (⟨a, j, none⟩ : Addr) ≠ p := fun j e => hp (by rw [← e])
  unfold nine
  rw [World.cell?_setCell_other _ _ _ _ (hn 8), World.cell?_setCell_other _ _ _ _ (hn 7), World.cell?_setCell_other _ _ _ _ (hn 6), World.cell?_setCell_other _ _ _ _ (hn 5), World.cell?_setCell_other _ _ _ _ (hn 4), World.cell?_setCell_other _ _ _ _ (hn 3), World.cell?_setCell_other _ _ _ _ (hn 2), World.cell?_setCell_other _ _ _ _ (hn 1), World.cell?_setCell_other _ _ _ _ (hn 0)]
theorem nine_ri {w : World} {lo hi a : Nat} {A : Option Addr} {l : List Int} (h : RI w lo hi A l) (ha : a < lo ∨ hi ≤ a) (f : Nat → Int) (b : Int) : RI (nine w a f b) lo hi A l :=
  h.keep fun p h1 h2 => nine_cell w f b (by omega)
set_option maxRecDepth 20000 in
set_option maxHeartbeats 3200000 in
theorem Outcomes_any (A : Option Addr) (c : Nat) (g : List Bs.T) (A1 : Option Addr) (c1 : Nat) (F : List Int) (keep : Int) (lo hi l1 h1 : Nat) (w : World) (h : RG w lo hi A g) (hh : hi ≤ w.heap.size) (hF : RI w l1 h1 A1 F) (hh1 : h1 ≤ w.heap.size) (hl : g.length ≤ 9223372036854775807) (hFl : F.length ≤ 9223372036854775807) :
    Calls Try.prog 9 #[.slice A g.length c, .slice A1 F.length c1, .int .i64 keep] w (RetI w (Bs.outL g F keep)) := by
  have q1 := canFail_any A c g A1 c1 F keep lo hi l1 h1 w h hh hF hh1 hl hFl
  cases hc : Bs.canF g F keep
  · rw [hc] at q1
    have C1 := Lib.hid q1
    have HV := Lib.hid (Bs.outL_no hc)
    clear q1 hc h hF
    go_enter Try.func9, Try.ntmps9
    go_wp2_with fail
    with_reducible refine (C1.out).mono ?_
    rintro e w1 ⟨rfl, hb⟩
    have HB := Lib.hid hb
    clear hb
    go_wp2
    go_ret
    exact RetI.nil HB.out HV.out
  · rw [hc] at q1
    have C1 := Lib.hid q1
    have HV := Lib.hid (Bs.outL_yes hc)
    obtain ⟨hv, hin, hk1, hk8⟩ := Bs.canF_iff.1 hc
    obtain ⟨hf, hg⟩ := (Bs.valid_iff g).1 hv
    have h8 := Bs.fine_len hf
    have hF8 : ∀ x ∈ F, 0 ≤ x ∧ x < 8 := fun x hx => by have := Bs.inG_mem hin x hx; omega
    have q2 := fun W (hb : Below w.heap.size w W) => TopOrder_any A c g lo hi W (h.below hb hh) (Nat.le_trans hh hb.size) hl
    rw [show Bs.topL g = Bs.top g from topL_yes hv] at q2
    have C2 := Lib.hid q2
    have C3 := Lib.hid (fun W (hb : Below w.heap.size w W) => setOf_any A1 c1 F l1 h1 W (hF.below hb hh1) hFl hF8)
    have c4 := fun o fa v (hv : v < g.length) W (hb : Below w.heap.size w W) => outcomeOf_any o fa A c g F keep v lo hi W (h.below hb hh) (Nat.le_trans hh hb.size) hf hF8 hv
    unfold stA at c4
    have C4 := Lib.hid c4
    have C6 := Lib.hid (fun (f : Nat → Int) (b : Int) (v : Nat) (t : Int) W (hb : 0 ≤ b ∧ b ≤ 1000) (hv : v < 8) => show Calls Try.prog 27 #[.agg #[.int .i64 (f 0), .int .i64 (f 1), .int .i64 (f 2), .int .i64 (f 3), .int .i64 (f 4), .int .i64 (f 5), .int .i64 (f 6), .int .i64 (f 7), .int .i64 b], .int .i64 (v : Int), .int .i64 t] W fun e w' => e = .returned (.agg #[.int .i64 (Bs.upd f v t 0), .int .i64 (Bs.upd f v t 1), .int .i64 (Bs.upd f v t 2), .int .i64 (Bs.upd f v t 3), .int .i64 (Bs.upd f v t 4), .int .i64 (Bs.upd f v t 5), .int .i64 (Bs.upd f v t 6), .int .i64 (Bs.upd f v t 7), .int .i64 (b + Bs.oneIf t)]) ∧ Below W.heap.size W w' from stWith_any f b v t W hb hv)
    have C5 := Lib.hid (fun o fa (ho : o.length = g.length) W => stList_any o fa A c g W h8 ho)
    have HKL := Lib.hid (fun k hk => Bs.outK_len g F keep k hk)
    have HKS := Lib.hid (fun k hk => show Bs.outK g F keep (k + 1) = ((Bs.outK g F keep k).1.set (Bs.top g)[k].toNat (Bs.outV g F keep (Bs.outK g F keep k).1 (Bs.outK g F keep k).2 (Bs.top g)[k].toNat), (Bs.outK g F keep k).2 + Bs.oneIf (Bs.outV g F keep (Bs.outK g F keep k).1 (Bs.outK g F keep k).2 (Bs.top g)[k].toNat)) from Bs.outK_succ g F keep k hk)
    have HTR := Lib.hid (fun k (hk : k < (Bs.top g).length) => Bs.top_range (g := g) hk)
    have HTL := Lib.hid (show (Bs.top g).length = g.length from hg)
    have HCC := Lib.hid (show (Bs.outK g F keep (Bs.top g).length).1 = Bs.outC g F keep from rfl)
    have HK0 := Lib.hid (show stA z8 0 = stA (Bs.gi (Bs.outK g F keep 0).1) (Bs.outK g F keep 0).2 from by
      rw [Bs.outK_zero]
      show stA z8 0 = stA (Bs.gi (List.replicate g.length 0)) 0
      rw [show Bs.gi (List.replicate g.length 0) = z8 from by funext i; rw [Bs.gi_zero]; rfl])
    clear q1 q2 c4 hc hv hin hf hg h hF hF8
    go_enter Try.func9, Try.ntmps9
    go_wp2_with fail
    with_reducible refine (C1.out).mono ?_
    rintro e w1 ⟨rfl, hb1⟩
    have s1 := hb1.size
    have hal := hb1.alloc s1 (.cells (stA z8 0) 54)
    have hst := ST.new w1 z8 0
    rw [z9A] at hal
    have hst' : ST (w1.alloc (.cells #[.int .i64 0, .int .i64 0, .int .i64 0, .int .i64 0, .int .i64 0, .int .i64 0, .int .i64 0, .int .i64 0, .int .i64 0] 54)) w1.heap.size z8 0 := hst
    have HAL := Lib.hid hal
    have HST := Lib.hid hst'
    have C2' := Lib.hid (C2.out _ hal)
    clear hb1 hal hst hst' C1 C2
    go_wp2_with fail
    with_reducible refine (C2'.out).mono ?_
    rintro e w2 ⟨⟨A2, c2, rfl, ho2⟩, hb2⟩
    have hst2 := HST.out.below hb2 HST.out.lt
    have hB2 := HAL.out.trans (hb2.mono HAL.out.size)
    have hr2 := ho2.ri
    have hsz1 : w1.heap.size + 1 ≤ w2.heap.size := by have := hb2.size; simpa using this
    rw [show (w1.alloc (.cells #[.int .i64 0, .int .i64 0, .int .i64 0, .int .i64 0, .int .i64 0, .int .i64 0, .int .i64 0, .int .i64 0, .int .i64 0] 54)).heap.size = w1.heap.size + 1 from by simp] at hr2
    have HST2 := Lib.hid (show ST w2 w1.heap.size (Bs.gi (Bs.outK g F keep 0).1) (Bs.outK g F keep 0).2 from by unfold ST at hst2 ⊢; rw [← HK0.out]; exact hst2)
    have HB2 := Lib.hid hB2
    have HR2 := Lib.hid hr2
    clear C2' ho2 hb2 hst2 hB2 hr2 HAL HST HK0
    generalize hT : Bs.top g = T at *
    clear hT
    go_wp2
    go_loopw [19] (fun i wr => ∃ (k : Nat), k ≤ T.length ∧ i = .int .i64 k ∧ ST wr w1.heap.size (Bs.gi (Bs.outK g F keep k).1) (Bs.outK g F keep k).2 ∧ RI wr (w1.heap.size + 1) w2.heap.size A2 T ∧ w2.heap.size ≤ wr.heap.size ∧ Below w.heap.size w wr) (fun i _ => T.length - (intOf i).toNat)
    case atStart => exact ⟨0, Nat.zero_le _, rfl, HST2.out, HR2.out, Nat.le_refl _, HB2.out⟩
    case round =>
      obtain ⟨k, hk, rfl, hst, hr, hs2, hb⟩ := hrel
      clear HST2 HR2 HB2
      by_cases hlt : k < T.length
      · obtain ⟨bt, ot, rfl, _, hbt, hct⟩ := hr.at_ hlt
        have htr := HTR.out k hlt
        obtain ⟨v, hv⟩ : ∃ v : Nat, T[k] = (v : Int) := ⟨T[k].toNat, by omega⟩
        have hks := HKS.out k hlt
        have hkl := HKL.out k hk
        rw [hv] at hct htr hks
        rw [Int.toNat_natCast] at hks
        generalize (Bs.outK g F keep k).1 = o at *
        generalize (Bs.outK g F keep k).2 = fa at *
        have hvg : v < g.length := by omega
        have hk8' : k < 8 := by have := HTL.out; omega
        have hol : v < o.length := by omega
        have HX0 := Lib.hid (show Below w.heap.size w wr.drew from hb.drewN 1)
        have C7 := Lib.hid (C4.out o fa v hvg)
        have C8 := Lib.hid (fun W => C6.out (Bs.gi o) fa v (Bs.outV g F keep o fa v) W (by omega) (by omega))
        have HUG := Lib.hid (upd_gi hol (Bs.outV g F keep o fa v))
        generalize Bs.outV g F keep o fa v = x at *
        have HKN := Lib.hid hks
        have H0 := Lib.hid hst
        have HR0 := Lib.hid hr
        have HB0 := Lib.hid hb
        have c0 := hst.at_ (i := 0) (by omega)
        have c1 := hst.at_ (i := 1) (by omega)
        have c2 := hst.at_ (i := 2) (by omega)
        have c3 := hst.at_ (i := 3) (by omega)
        have c4 := hst.at_ (i := 4) (by omega)
        have c5 := hst.at_ (i := 5) (by omega)
        have c6 := hst.at_ (i := 6) (by omega)
        have c7 := hst.at_ (i := 7) (by omega)
        have c8 := hst.b
        have hl0 := hst.lt
        clear hst hr hb hks hv C4 C6 HKS HKL HTR
        go_wp2_with fail
        generalize Bs.upd (Bs.gi o) v x = f' at *
        generalize fa + Bs.oneIf x = z' at *
        go_region_law (first
          | (go_simp; (go_at_call 29; (with_reducible refine (C3.out _ (by first | exact HX0.out | exact HX1.out)).mono ?_); rintro e w4 ⟨rfl, rfl⟩))
          | (go_simp; (go_at_call 28; (with_reducible refine (C7.out _ HX0.out).mono ?_); rintro e w5 ⟨rfl, hb5⟩; have HX1 := Lib.hid (HX0.out.trans (hb5.mono HX0.out.size)); have hw5 := Lib.hid (((Below.refl _ wr).drewN 1).trans hb5); have h5 := (H0.out.drewN 1).below hb5 hl0; have d0 := h5.at_ (i := 0) (by omega); have d1 := h5.at_ (i := 1) (by omega); have d2 := h5.at_ (i := 2) (by omega); have d3 := h5.at_ (i := 3) (by omega); have d4 := h5.at_ (i := 4) (by omega); have d5 := h5.at_ (i := 5) (by omega); have d6 := h5.at_ (i := 6) (by omega); have d7 := h5.at_ (i := 7) (by omega); have d8 := h5.b; have H5 := Lib.hid h5; clear hb5 h5))
          | (go_simp; (go_at_call 27; (with_reducible refine (C8.out _).mono ?_); rintro e w6 ⟨rfl, hb6⟩; have HX2 := Lib.hid (HX1.out.trans (hb6.mono HX1.out.size)); have hw6 := Lib.hid (hw5.out.trans (hb6.mono hw5.out.size)); have h6 := H5.out.below hb6 H5.out.lt; have e0 := h6.at_ (i := 0) (by omega); have e1 := h6.at_ (i := 1) (by omega); have e2 := h6.at_ (i := 2) (by omega); have e3 := h6.at_ (i := 3) (by omega); have e4 := h6.at_ (i := 4) (by omega); have e5 := h6.at_ (i := 5) (by omega); have e6 := h6.at_ (i := 6) (by omega); have e7 := h6.at_ (i := 7) (by omega); have e8 := h6.b; have g0 := h6.frozen 0; have g1 := h6.frozen 1; have g2 := h6.frozen 2; have g3 := h6.frozen 3; have g4 := h6.frozen 4; have g5 := h6.frozen 5; have g6 := h6.frozen 6; have g7 := h6.frozen 7; have g8 := h6.frozen 8; have H6 := Lib.hid h6; clear hb6 h6)))
        all_goals
          have hN := nine_st H6.out f' z'
          have hR := nine_ri (a := w1.heap.size) (HR0.out.below hw6.out hs2) (.inl (Nat.lt_succ_self _)) f' z'
          have hZ : w2.heap.size ≤ (nine w6 w1.heap.size f' z').heap.size := by rw [nine_size]; exact Nat.le_trans hs2 hw6.out.size
          have hB := nine_below HX2.out s1 f' z'
          have HN := Lib.hid (show ST (nine w6 w1.heap.size f' z') w1.heap.size (Bs.gi (Bs.outK g F keep (k + 1)).1) (Bs.outK g F keep (k + 1)).2 from by rw [HKN.out]; simp only; rw [← HUG.out]; exact hN)
          have HR := Lib.hid hR
          have HZ := Lib.hid hZ
          have HB := Lib.hid hB
          clear hN hR hZ hB c0 c1 c2 c3 c4 c5 c6 c7 c8 d0 d1 d2 d3 d4 d5 d6 d7 d8 e0 e1 e2 e3 e4 e5 e6 e7 e8 g0 g1 g2 g3 g4 g5 g6 g7 g8
          go_wp2
          go_roundw
          case rel => exact ⟨k + 1, by omega, by go_num, HN.out, HR.out, HZ.out, HB.out⟩
          case measure => simp [intOf]; omega
      · obtain rfl : k = T.length := by omega
        have hkl := HKL.out T.length hk
        have C7 := Lib.hid (C5.out (Bs.outK g F keep T.length).1 (Bs.outK g F keep T.length).2 hkl.1)
        have H0 := Lib.hid hst
        have HB0 := Lib.hid hb
        rw [HCC.out] at C7
        rw [show (Bs.outK g F keep T.length).1 = Bs.outC g F keep from HCC.out] at H0
        clear hst hb hr C4 C5 C6 HKS HKL HTR hkl
        go_wp2_with (first | (refine st_load rfl _ rfl w1.heap.size (Bs.gi (Bs.outC g F keep)) (Bs.outK g F keep T.length).2 rfl H0.out ?_))
        with_reducible refine (C7.out _).mono ?_
        rintro e w5 ⟨⟨A5, c5, rfl, ho5⟩, hb5⟩
        have HO5 := Lib.hid (ho5.base HB0.out.size)
        have HB5 := Lib.hid (HB0.out.trans (hb5.mono HB0.out.size))
        clear hb5 ho5
        go_wp2
        go_ret
        rw [HV.out]
        exact ⟨⟨A5, c5, rfl, HO5.out⟩, HB5.out⟩
end Go.Proofs.Ythllincpbiafcaa
