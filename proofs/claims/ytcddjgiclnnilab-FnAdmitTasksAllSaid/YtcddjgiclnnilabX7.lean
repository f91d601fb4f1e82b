/-
  WALKS: the draw of chapter 4 with five results.
-/
import Derived.Test.YtcddjgiclnnilabX6
import Derived.Test.YtcddjgiclnnilabMem4
import Derived.Test.YtcddjgiclnnilabCp
import Derived.Test.YtcddjgiclnnilabK4
import Derived.Deep.RegionHeld
namespace Go.Proofs.Ytcddjgiclnnilab
open Go.RowKit
theorem results_five {fn : Func} {t u v x y : Tmp} (h : fn.results = #[.tmp t, .tmp u, .tmp v, .tmp x, .tmp y]) (tmps : Array Value) (P : Program) (w : World) :
    (results fn tmps).run P w = .ok (.tuple #[tmps.getD t undef, tmps.getD u undef, tmps.getD v undef, tmps.getD x undef, tmps.getD y undef]) w := by
  simp [results, h]
macro "go_ret5" : tactic => `(tactic| ((try simp only [Exit.inBlock, Exit.then]); refine bodyPost_ret (results_five rfl _ _ _) rfl ?_))
theorem RI.set_ {w : World} {lo hi b : Nat} {l : List Int} (h : RI w lo hi (some ⟨b, 0, none⟩) l) {k : Nat} (hk : k < l.length) (x : Int) : RI (w.setCell ⟨b, k, none⟩ (.int .i64 x)) lo hi (some ⟨b, 0, none⟩) (l.set k x) := by
  intro j hj
  rw [List.length_set] at hj
  obtain ⟨b', o', e, h1, h2, hcj⟩ := h j hj
  cases e
  rw [Nat.zero_add] at hcj
  refine ⟨b, 0, rfl, h1, h2, ?_⟩
  rw [Nat.zero_add]
  by_cases e : j = k
  · subst e
    rw [World.cell?_setCell_same _ _ _ hcj]
    simp
  · rw [World.cell?_setCell_other _ _ _ _ (fun e2 => e (by cases e2; rfl)), hcj]
    simp [List.getElem_set_ne (Ne.symm e)]
/-- a graph, three lists and a number -/
def DrawG3 (w : World) (e : Ending) (w' : World) : Prop := (∃ A c g A2 c2 m A3 c3 r A4 c4 l x, e = .returned (.tuple #[.slice A (List.length g) c, .slice A2 (List.length m) c2, .slice A3 (List.length r) c3, .slice A4 (List.length l) c4, .int .i64 x]) ∧ RG w' w.heap.size w'.heap.size A g ∧ g.length ≤ 16 ∧ g.length ≤ c ∧ c ≤ maxLen ∧
  RI w' w.heap.size w'.heap.size A2 m ∧ m.length ≤ 100 ∧ m.length ≤ c2 ∧ c2 ≤ maxLen ∧ RI w' w.heap.size w'.heap.size A3 r ∧ r.length ≤ 100 ∧ r.length ≤ c3 ∧ c3 ≤ maxLen ∧ RI w' w.heap.size w'.heap.size A4 l ∧ l.length ≤ 100 ∧ l.length ≤ c4 ∧ c4 ≤ maxLen) ∧ Below w.heap.size w w'
set_option maxRecDepth 20000 in
set_option maxHeartbeats 3200000 in
theorem DrawAdmitTasks_any (A : Option Addr) (c : Nat) (l : List Int) (w : World) (hb : RB w 0 w.heap.size A l) (hl : l.length ≤ c) (hc : c ≤ maxLen) :
    Calls Try.prog 15 #[.slice A l.length c] w (DrawG3 w) := by
  have C1 := Lib.hid (newReader_any A c l w hb hl hc)
  clear hb
  go_enter Try.func15, Try.ntmps15
  go_wp2_with fail
  refine (C1.out).mono ?_
  rintro e w1 ⟨rb, rfl, hs1, hf1⟩
  have hrlo := hs1.rd.1
  have C2 := Lib.hid (anyGraph_any w.heap.size rb 0 w1 hs1 (by omega))
  have HF := Lib.hid hf1
  clear hs1 hf1 C1
  go_wp2_with fail
  refine (C2.out).mono ?_
  rintro e w2 hG
  obtain ⟨A2, c2, g, rfl, hg, hg16, hgc, hcm, hrd, hf2⟩ := hG.open_
  have hrb := hrd.lt
  have s2 := hf2.1.size
  have HG := Lib.hid hg
  have HF2 := Lib.hid (HF.out.1.trans hf2.1)
  have HRD := Lib.hid hrd
  have s0 := HF2.out.size
  clear hG hg hrd hf2 C2
  have C3 := Lib.hid (someRoomX w.heap.size rb _ w2 HRD.out (by omega))
  go_wp2_with fail
  refine (C3.out).mono ?_
  rintro e w3 ⟨⟨A3, c3, l3, rfl, hl3, hlc3, hcm3, hlm3⟩, hs3, hf3⟩
  have s3 := hf3.size
  have hrb3 : rb < w3.heap.size := by omega
  have HF3 := Lib.hid hf3
  have HL3 := Lib.hid hl3
  have hal := Below.alloc (Below.refl w3.heap.size w3) (Nat.le_refl _) (.cells #[] 3)
  have hal2 := Below.alloc hal (by simp) (.cells #[] 3)
  have HS0 := Lib.hid (hs3.after hal2)
  have HF0 := Lib.hid (Fx.of (rb := rb) hal2)
  have hap : Apart (some (⟨w3.heap.size, 0, none⟩ : Addr)) (some (⟨w3.heap.size + 1, 0, none⟩ : Addr)) := by intro a a' h1 h2; cases h1; cases h2; simp
  have HAP := Lib.hid hap
  have HO0 := Lib.hid ((OI.new w3 w3.heap.size (Nat.le_refl _)).alloc (.cells #[] 3))
  have hq0 := OI.new (w3.alloc (.cells #[] 3)) w3.heap.size (by simp)
  rw [show (w3.alloc (.cells #[] 3)).heap.size = w3.heap.size + 1 from by simp] at hq0
  have HQ0 := Lib.hid hq0
  clear hl3 hs3 hf3 C3 HRD hal hal2 hap hq0
  obtain ⟨P, hP⟩ : ∃ P : Nat, P = 1000 + 7 := ⟨_, rfl⟩
  rw [← hP] at HS0
  have hPb : P ≤ 2000 := by omega
  clear hP
  obtain ⟨W3, rfl⟩ : ∃ W3, W3 = w3 := ⟨_, rfl⟩
  go_wp2
  go_loopw [10, 11, 12] (fun sr sl i  wr => ∃ (k : Nat) (A1 : Option Addr) (c1 : Nat) (r : List Int) (A4 : Option Addr) (c4 : Nat) (q : List Int), i = .int .i64 (k : Int) ∧ sr = .slice A1 r.length c1 ∧ sl = .slice A4 q.length c4 ∧ k ≤ g.length ∧ r.length ≤ k ∧ q.length ≤ k ∧ OI wr W3.heap.size A1 c1 r ∧ OI wr W3.heap.size A4 c4 q ∧ Apart A1 A4 ∧ RD wr w.heap.size rb (P + k) ∧ Fx rb W3 wr) (fun _ _ i  _ => g.length - (intOf i).toNat)
  case atStart => exact ⟨0, _, _, [], _, _, [], rfl, rfl, rfl, Nat.zero_le _, Nat.zero_le _, Nat.zero_le _, HO0.out, HQ0.out, HAP.out, HS0.out, HF0.out⟩
  case round =>
    obtain ⟨k, A1, c1, r, A4, c4, q, rfl, rfl, rfl, hk, hrk, hqk, ho, hq, hap, hs, hf⟩ := hrel
    have sr := hf.size
    have HO := Lib.hid ho
    have HQ := Lib.hid hq
    have HA := Lib.hid hap
    have HS := Lib.hid hs
    have HFx := Lib.hid hf
    clear ho hq hap hs hf HS0 HF0 HO0 HQ0 HAP
    by_cases hlt : k < g.length
    · have C4 := Lib.hid (pickX 4 w.heap.size rb (P + k) wr HS.out (by omega) (by omega))
      have d1 : decide ((k : Int) < (g.length : Int)) = true := by simp; omega
      go_wp2_with fail
      refine (C4.out).mono ?_
      rintro e w5 ⟨⟨z, rfl, hz4, _⟩, hs5, hf5⟩
      have hz4 := hz4 (by omega)
      have s5 := hf5.size
      have HS5 := Lib.hid hs5
      have HF5 := Lib.hid (HFx.out.trans hf5)
      have HO5 := Lib.hid (HO.out.fx hf5 hrb3)
      have HQ5 := Lib.hid (HQ.out.fx hf5 hrb3)
      clear hs5 hf5 C4 HO HQ HS HFx
      have hz : z = 0 ∨ z = 1 ∨ z = 2 ∨ z = 3 := by omega
      clear hz4
      rcases hz with rfl | rfl | rfl | rfl
      · have C5 := Lib.hid (copyInts_ri A1 c1 r W3.heap.size w5.heap.size w5 HO5.out.ri (Nat.le_refl _) (by omega))
        go_wp2_with fail
        with_reducible refine (C5.out).mono ?_
        rintro e w6 ⟨⟨A6, c6, rfl, ho6⟩, hb6⟩
        have s6 := hb6.size
        have HP6 := Lib.hid (ho6.alloc (.cells #[.int .i64 (k : Int)] 3))
        have HB6 := Lib.hid hb6
        clear ho6 hb6 C5
        have KV := Lib.hid (fun (A7 : Option Addr) (c7 : Nat) (W : World) (hb : Below w5.heap.size w5 W) (hh : OI W w5.heap.size A7 c7 (r ++ [(k : Int)])) => validRunningS_any A2 c2 g A3 c3 l3 A7 c7 (r ++ [(k : Int)]) w.heap.size w2.heap.size w2.heap.size W3.heap.size w5.heap.size W.heap.size W ((HG.out.fx (HF3.out.trans (HF5.out.trans (Fx.of hb))) (Nat.le_refl _)).rg) (by have := hb.size; omega) (HL3.out.fx (HF5.out.trans (Fx.of hb)) hrb (Nat.le_refl _)) (by have := hb.size; omega) hh.ri (Nat.le_refl _) (by omega) (by omega) (by simp; omega))
        go_wp2_with (at_builtin; go_loud (refine push_int rfl _ _ rfl w5.heap.size A6 c6 r (k : Int) rfl HP6.out w6.heap.size 1 rfl (by simp [go_sem]) (by omega) (by simp; omega) ?_; intro A7 c7 w7 ho7 hb7 _; have hb57 := (HB6.out.alloc s6 (.cells #[.int .i64 (k : Int)] 3)).trans hb7; have HB7 := Lib.hid hb57; have kv := KV.out A7 c7 w7 hb57 ho7; rw [List.length_append, show [(k : Int)].length = 1 from rfl] at kv; have KV7 := Lib.hid kv; clear ho7 hb7 hb57 kv KV))
        with_reducible refine (KV7.out).mono ?_
        rintro e w8 ⟨rfl, hb8⟩
        have hb58 := HB7.out.trans (hb8.mono HB7.out.size)
        have s8 := hb58.size
        have HS8 := Lib.hid (HS5.out.after hb58)
        have HF8 := Lib.hid (HF5.out.trans (Fx.of hb58))
        have HO8 := Lib.hid ((HO5.out.below hb58 (Nat.le_refl _)).alloc (.cells #[.int .i64 (k : Int)] 3))
        have HO8' := Lib.hid (HO5.out.below hb58 (Nat.le_refl _))
        have HQ8 := Lib.hid ((HQ5.out.below hb58 (Nat.le_refl _)).alloc (.cells #[.int .i64 (k : Int)] 3))
        have HQ8' := Lib.hid (HQ5.out.below hb58 (Nat.le_refl _))
        clear hb8 hb58 KV7 HB7 HB6 HP6 HS5 HF5 HO5 HQ5
        generalize Bs.runOk g l3 (r ++ [(k : Int)]) = ok at *
        cases ok
        · go_wp2
          go_roundw
          case rel => exact ⟨k + 1, A1, c1, r, A4, c4, q, by go_num, rfl, rfl, by omega, by omega, by omega, HO8'.out, HQ8'.out, HA.out, HS8.out.more (by omega), HF8.out⟩
          case measure => simp [intOf]; omega
        · go_wp2_with (at_builtin; go_loud (refine push_at rfl _ _ rfl W3.heap.size A1 c1 r (k : Int) rfl HO8.out w8.heap.size 1 rfl (by simp [go_sem]) (by omega) (by simp; omega) ?_; intro A9 c9 w9 ho9 hb9 hk9 hs9; obtain ⟨hq9, ha9⟩ := hk9 _ _ _ _ HQ8.out HA.out.symm; have HO9 := Lib.hid ho9; have HQ9 := Lib.hid hq9; have HA9 := Lib.hid ha9.symm; have HB9 := Lib.hid hb9; clear ho9 hb9 hk9 hq9 ha9))
          have HS9 := Lib.hid ((HS8.out.after (Below.alloc (Below.refl _ _) (Nat.le_refl _) (.cells #[.int .i64 (k : Int)] 3))).below HB9.out hrb3)
          have HF9 := Lib.hid ((HF8.out.alloc (.cells #[.int .i64 (k : Int)] 3)).then_ HB9.out)
          go_wp2
          go_roundw
          case rel => exact ⟨k + 1, A9, c9, r ++ [(k : Int)], A4, c4, q, by go_num, by simp, rfl, by omega, by simp; omega, by omega, HO9.out, HQ9.out, HA9.out, HS9.out.more (by omega), HF9.out⟩
          case measure => simp [intOf]; omega
      · go_wp2_with (at_builtin; go_loud (refine push_at rfl _ _ rfl W3.heap.size A4 c4 q (k : Int) rfl (HQ5.out.alloc _) w5.heap.size 1 rfl (by simp [go_sem]) (by omega) (by simp; omega) ?_; intro A9 c9 w9 ho9 hb9 hk9 hs9; obtain ⟨hq9, ha9⟩ := hk9 _ _ _ _ (HO5.out.alloc _) HA.out; have HO9 := Lib.hid ho9; have HQ9 := Lib.hid hq9; have HA9 := Lib.hid ha9; have HB9 := Lib.hid hb9; clear ho9 hb9 hk9 hq9 ha9))
        have HS9 := Lib.hid ((HS5.out.after (Below.alloc (Below.refl _ _) (Nat.le_refl _) (.cells #[.int .i64 (k : Int)] 3))).below HB9.out hrb3)
        have HF9 := Lib.hid ((HF5.out.alloc (.cells #[.int .i64 (k : Int)] 3)).then_ HB9.out)
        go_wp2
        go_roundw
        case rel => exact ⟨k + 1, A1, c1, r, A9, c9, q ++ [(k : Int)], by go_num, rfl, by simp, by omega, by omega, by simp; omega, HQ9.out, HO9.out, HA9.out, HS9.out.more (by omega), HF9.out⟩
        case measure => simp [intOf]; omega
      · go_wp2_with (at_builtin; go_loud (refine push_at rfl _ _ rfl W3.heap.size A4 c4 q (k : Int) rfl (HQ5.out.alloc _) w5.heap.size 1 rfl (by simp [go_sem]) (by omega) (by simp; omega) ?_; intro A9 c9 w9 ho9 hb9 hk9 hs9; obtain ⟨hq9, ha9⟩ := hk9 _ _ _ _ (HO5.out.alloc _) HA.out; have HO9 := Lib.hid ho9; have HQ9 := Lib.hid hq9; have HA9 := Lib.hid ha9; have HB9 := Lib.hid hb9; clear ho9 hb9 hk9 hq9 ha9))
        have HS9 := Lib.hid ((HS5.out.after (Below.alloc (Below.refl _ _) (Nat.le_refl _) (.cells #[.int .i64 (k : Int)] 3))).below HB9.out hrb3)
        have HF9 := Lib.hid ((HF5.out.alloc (.cells #[.int .i64 (k : Int)] 3)).then_ HB9.out)
        go_wp2
        go_roundw
        case rel => exact ⟨k + 1, A1, c1, r, A9, c9, q ++ [(k : Int)], by go_num, rfl, by simp, by omega, by omega, by simp; omega, HQ9.out, HO9.out, HA9.out, HS9.out.more (by omega), HF9.out⟩
        case measure => simp [intOf]; omega
      · go_wp2
        go_roundw
        case rel => exact ⟨k + 1, A1, c1, r, A4, c4, q, by go_num, rfl, rfl, by omega, by omega, by omega, HO5.out, HQ5.out, HA.out, HS5.out.more (by omega), HF5.out⟩
        case measure => simp [intOf]; omega
    · have d1 : decide ((k : Int) < (g.length : Int)) = false := by simp; omega
      have hrc := HO.out.cap
      by_cases hq1 : 1 < q.length
      · have e1 : decide ((1 : Int) < (q.length : Int)) = true := by simp; omega
        have C4 := Lib.hid (pickX 2 w.heap.size rb (P + k) wr HS.out (by omega) (by omega))
        go_wp2_with fail
        refine (C4.out).mono ?_
        rintro e w5 ⟨⟨z, rfl, hz2, _⟩, hs5, hf5⟩
        have hz2 := hz2 (by omega)
        have s5 := hf5.size
        have HS5 := Lib.hid hs5
        have HFr5 := Lib.hid hf5
        have HF5 := Lib.hid (HFx.out.trans hf5)
        have HQ5 := Lib.hid (HQ.out.fx hf5 hrb3)
        clear hs5 hf5 C4 HQ HS
        have hz : z = 0 ∨ z = 1 := by omega
        clear hz2
        rcases hz with rfl | rfl
        · obtain ⟨x1, hx1⟩ : ∃ x1, x1 = q[1] := ⟨_, rfl⟩
          obtain ⟨x0, hx0⟩ : ∃ x0, x0 = q[0] := ⟨_, rfl⟩
          obtain ⟨b, rfl, hbB, hbl, hc0, hfr, hri⟩ := HQ5.out.set_ (k := 0) (by omega) x1
          obtain ⟨b', hbe, _, _, hc1, hfr1, _⟩ := HQ5.out.set_ (k := 1) (by omega) x0
          cases hbe
          rw [← hx0] at hc0
          rw [← hx1] at hc1
          have hri2 := hri.set_ (k := 1) (by simp; omega) x0
          have HRI := Lib.hid hri2
          have HS6 := Lib.hid ((HS5.out.setNew (p := ⟨b, 0, none⟩) (show rb < b from by omega) (.int .i64 x1)).setNew (p := ⟨b, 1, none⟩) (show rb < b from by omega) (.int .i64 x0))
          have HF6 := Lib.hid ((HF5.out.setNew (p := ⟨b, 0, none⟩) hbB (.int .i64 x1)).setNew (p := ⟨b, 1, none⟩) hbB (.int .i64 x0))
          have hSW : ((w5.setCell ⟨b, 0, none⟩ (.int .i64 x1)).setCell ⟨b, 1, none⟩ (.int .i64 x0)).heap.size = w5.heap.size := by simp [World.setCell]
          have hr6 : RI ((w5.setCell ⟨b, 0, none⟩ (.int .i64 x1)).setCell ⟨b, 1, none⟩ (.int .i64 x0)) W3.heap.size wr.heap.size A1 r := by
            intro j hj
            obtain ⟨bj, oj, rfl, h1, h2, hcj⟩ := (HO.out.ri.fx HFr5.out hrb3 (Nat.le_refl _)) j hj
            have hne := HA.out _ _ rfl rfl
            refine ⟨bj, oj, rfl, h1, h2, ?_⟩
            have hne' : b ≠ bj := fun e => hne e.symm
            rw [World.cell?_setCell_far _ _ _ _ (show (⟨b, 1, none⟩ : Addr).block ≠ (⟨bj, oj + j, none⟩ : Addr).block from hne'), World.cell?_setCell_far _ _ _ _ (show (⟨b, 0, none⟩ : Addr).block ≠ (⟨bj, oj + j, none⟩ : Addr).block from hne')]
            exact hcj
          have HR6 := Lib.hid hr6
          have hql : ((q.set 0 x1).set 1 x0).length = q.length := by simp
          have b1 : (1 : Int) < (q.length : Int) := by omega
          have b0 : (0 : Int) < (q.length : Int) := by omega
          clear hri hri2 hx0 hx1 hr6
          have c7 := (spoilX (some ⟨b, 0, none⟩) c4 ((q.set 0 x1).set 1 x0) w.heap.size rb _ _ _ 8 ((w5.setCell ⟨b, 0, none⟩ (.int .i64 x1)).setCell ⟨b, 1, none⟩ (.int .i64 x0)) HS6.out (by omega) HRI.out (by first | exact Nat.le_refl _ | simp [World.setCell]) (by first | omega | (simp; omega)))
          rw [hql] at c7
          have C7 := Lib.hid c7
          clear c7
          have hHFa := HF6.out
          have HFa := Lib.hid hHFa
          clear hHFa
          go_wp2_with fail
          with_reducible refine (C7.out).mono ?_
          rintro e w8 ⟨⟨A8, c8, l8, rfl, hl8, hlc8, hcm8, hlm8⟩, hs8, hf8⟩
          have s8 := hf8.size
          have C8 := Lib.hid (one_newX #[.int .i64 2, .int .i64 3, .int .i64 1, .int .i64 4, .int .i64 0, .int .i64 5] 6 w.heap.size rb _ w8 hs8 (by omega) (by intro k hk; match k, hk with | 0, _ => exact ⟨_, rfl⟩ | 1, _ => exact ⟨_, rfl⟩ | 2, _ => exact ⟨_, rfl⟩ | 3, _ => exact ⟨_, rfl⟩ | 4, _ => exact ⟨_, rfl⟩ | 5, _ => exact ⟨_, rfl⟩) (by omega) (by omega) rfl)
          have HF8 := Lib.hid hf8
          have HL8 := Lib.hid hl8
          clear hl8 hs8 hf8 C7
          go_wp2_with fail
          with_reducible refine (C8.out).mono ?_
          rintro e w9 ⟨⟨x, rfl⟩, hs9, hf9⟩
          have s9 := hf9.size
          have hf39 := HFa.out.trans (HF8.out.trans hf9)
          have s39 := hf39.size
          have hf29 := HF3.out.trans hf39
          have HG9 := Lib.hid ((HG.out.fx hf29 (Nat.le_refl _)).rg.more (hi' := w9.heap.size) (Nat.le_refl _) (by omega))
          have HM9 := Lib.hid ((HL3.out.fx hf39 hrb (Nat.le_refl _)).more s0 s39)
          have HR9 := Lib.hid (((HR6.out).fx (HF8.out.trans hf9) hrb3 (by omega)).more (lo' := w.heap.size) (hi' := w9.heap.size) (by omega) (by omega))
          have HL9 := Lib.hid ((HL8.out.fx hf9 (by omega) (Nat.le_refl _)).more (lo' := w.heap.size) (hi' := w9.heap.size) (by omega) (by omega))
          have HB9 := Lib.hid (HF2.out.trans (hf29.below hrlo hrb))
          clear hs9 hf9 C8 hf39 hf29
          go_wp2
          go_ret5
          exact ⟨⟨A2, c2, g, A3, c3, l3, A1, c1, r, A8, c8, l8, x, rfl, HG9.out, hg16, hgc, hcm, HM9.out, by omega, hlc3, hcm3, HR9.out, by omega, hrc.1, hrc.2, HL9.out, by omega, hlc8, hcm8⟩, HB9.out⟩
        · have c7 := (spoilX A4 c4 q w.heap.size rb _ _ _ 8 w5 HS5.out (by omega) HQ5.out.ri (by first | exact Nat.le_refl _ | simp [World.setCell]) (by first | omega | (simp; omega)))
          have C7 := Lib.hid c7
          clear c7
          have hHFa := HF5.out
          have HFa := Lib.hid hHFa
          clear hHFa
          go_wp2_with fail
          with_reducible refine (C7.out).mono ?_
          rintro e w8 ⟨⟨A8, c8, l8, rfl, hl8, hlc8, hcm8, hlm8⟩, hs8, hf8⟩
          have s8 := hf8.size
          have C8 := Lib.hid (one_newX #[.int .i64 2, .int .i64 3, .int .i64 1, .int .i64 4, .int .i64 0, .int .i64 5] 6 w.heap.size rb _ w8 hs8 (by omega) (by intro k hk; match k, hk with | 0, _ => exact ⟨_, rfl⟩ | 1, _ => exact ⟨_, rfl⟩ | 2, _ => exact ⟨_, rfl⟩ | 3, _ => exact ⟨_, rfl⟩ | 4, _ => exact ⟨_, rfl⟩ | 5, _ => exact ⟨_, rfl⟩) (by omega) (by omega) rfl)
          have HF8 := Lib.hid hf8
          have HL8 := Lib.hid hl8
          clear hl8 hs8 hf8 C7
          go_wp2_with fail
          with_reducible refine (C8.out).mono ?_
          rintro e w9 ⟨⟨x, rfl⟩, hs9, hf9⟩
          have s9 := hf9.size
          have hf39 := HFa.out.trans (HF8.out.trans hf9)
          have s39 := hf39.size
          have hf29 := HF3.out.trans hf39
          have HG9 := Lib.hid ((HG.out.fx hf29 (Nat.le_refl _)).rg.more (hi' := w9.heap.size) (Nat.le_refl _) (by omega))
          have HM9 := Lib.hid ((HL3.out.fx hf39 hrb (Nat.le_refl _)).more s0 s39)
          have HR9 := Lib.hid (((HO.out.ri.fx HFr5.out hrb3 (Nat.le_refl _)).fx (HF8.out.trans hf9) hrb3 (by omega)).more (lo' := w.heap.size) (hi' := w9.heap.size) (by omega) (by omega))
          have HL9 := Lib.hid ((HL8.out.fx hf9 (by omega) (Nat.le_refl _)).more (lo' := w.heap.size) (hi' := w9.heap.size) (by omega) (by omega))
          have HB9 := Lib.hid (HF2.out.trans (hf29.below hrlo hrb))
          clear hs9 hf9 C8 hf39 hf29
          go_wp2
          go_ret5
          exact ⟨⟨A2, c2, g, A3, c3, l3, A1, c1, r, A8, c8, l8, x, rfl, HG9.out, hg16, hgc, hcm, HM9.out, by omega, hlc3, hcm3, HR9.out, by omega, hrc.1, hrc.2, HL9.out, by omega, hlc8, hcm8⟩, HB9.out⟩
      · have e1 : decide ((1 : Int) < (q.length : Int)) = false := by simp; omega
        have c7 := (spoilX A4 c4 q w.heap.size rb _ _ _ 8 wr HS.out (by omega) HQ.out.ri (by first | exact Nat.le_refl _ | simp [World.setCell]) (by first | omega | (simp; omega)))
        have C7 := Lib.hid c7
        clear c7
        have hHFa := HFx.out
        have HFa := Lib.hid hHFa
        clear hHFa
        go_wp2_with fail
        with_reducible refine (C7.out).mono ?_
        rintro e w8 ⟨⟨A8, c8, l8, rfl, hl8, hlc8, hcm8, hlm8⟩, hs8, hf8⟩
        have s8 := hf8.size
        have C8 := Lib.hid (one_newX #[.int .i64 2, .int .i64 3, .int .i64 1, .int .i64 4, .int .i64 0, .int .i64 5] 6 w.heap.size rb _ w8 hs8 (by omega) (by intro k hk; match k, hk with | 0, _ => exact ⟨_, rfl⟩ | 1, _ => exact ⟨_, rfl⟩ | 2, _ => exact ⟨_, rfl⟩ | 3, _ => exact ⟨_, rfl⟩ | 4, _ => exact ⟨_, rfl⟩ | 5, _ => exact ⟨_, rfl⟩) (by omega) (by omega) rfl)
        have HF8 := Lib.hid hf8
        have HL8 := Lib.hid hl8
        clear hl8 hs8 hf8 C7
        go_wp2_with fail
        with_reducible refine (C8.out).mono ?_
        rintro e w9 ⟨⟨x, rfl⟩, hs9, hf9⟩
        have s9 := hf9.size
        have hf39 := HFa.out.trans (HF8.out.trans hf9)
        have s39 := hf39.size
        have hf29 := HF3.out.trans hf39
        have HG9 := Lib.hid ((HG.out.fx hf29 (Nat.le_refl _)).rg.more (hi' := w9.heap.size) (Nat.le_refl _) (by omega))
        have HM9 := Lib.hid ((HL3.out.fx hf39 hrb (Nat.le_refl _)).more s0 s39)
        have HR9 := Lib.hid (((HO.out.ri).fx (HF8.out.trans hf9) hrb3 (Nat.le_refl _)).more (lo' := w.heap.size) (hi' := w9.heap.size) (by omega) (by omega))
        have HL9 := Lib.hid ((HL8.out.fx hf9 (by omega) (Nat.le_refl _)).more (lo' := w.heap.size) (hi' := w9.heap.size) (by omega) (by omega))
        have HB9 := Lib.hid (HF2.out.trans (hf29.below hrlo hrb))
        clear hs9 hf9 C8 hf39 hf29
        go_wp2
        go_ret5
        exact ⟨⟨A2, c2, g, A3, c3, l3, A1, c1, r, A8, c8, l8, x, rfl, HG9.out, hg16, hgc, hcm, HM9.out, by omega, hlc3, hcm3, HR9.out, by omega, hrc.1, hrc.2, HL9.out, by omega, hlc8, hcm8⟩, HB9.out⟩
end Go.Proofs.Ytcddjgiclnnilab
