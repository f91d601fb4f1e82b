/-
  THE WALK OF laws.FnValidGraph.
-/
import Derived.Test.YtiokblodjhmjmaaDrValidGraph
import Derived.Test.YtiokblodjhmjmaaOT
namespace Go.Proofs.Ytiokblodjhmjmaa
open Go.RowKit
set_option maxRecDepth 20000 in
set_option maxHeartbeats 6400000 in
theorem fnValidGraph_walk (A : Option Addr) (c : Nat) (l : List Int) (w : World) (hb : RB w 0 w.heap.size A l) (hlc : l.length ≤ c ∧ c ≤ maxLen) :
    Calls Try.prog 3 #[.slice A l.length c] w fun e w' => e = .returned (.bool true) ∧ Below w.heap.size w w' := by
  have hl63 : l.length ≤ 9223372036854775807 := by have := hlc.2; unfold maxLen at this; omega
  by_cases hbig : 1048576 < l.length
  · go_enter Try.func3, Try.ntmps3
    go_wp2
    go_ret
    exact ⟨rfl, Below.refl _ _⟩
  · have C1 := Lib.hid (DrawValidGraph_any A c l w hb hlc.1 hlc.2)
    clear hb
    go_enter Try.func3, Try.ntmps3
    go_wp2_with fail
    refine (C1.out).mono ?_
    rintro e w1 ⟨⟨A1, c1, g, rfl, hg, hg16, hgc, hcm⟩, hb1⟩
    have HG := Lib.hid hg
    have s1 := hb1.size
    have hl9 : g.length ≤ 9223372036854775807 := by omega
    have c2 := ValidGraph_any A1 c1 g w.heap.size w1.heap.size w1 HG.out (Nat.le_refl _) hl9
    have cs := fun w2 hg hs => ValidGraphS_any A1 c1 g w.heap.size w1.heap.size w2 hg hs hl9
    have HB1 := Lib.hid hb1
    clear C1 hg hb1
    have HV : Hid (Bs.valid g = true → Bs.valid (g.map Bs.bare) = true) := Lib.hid Bs.bare_valid
    generalize hok : Bs.valid g = ok at *
    have C2 := Lib.hid c2
    have CS := Lib.hid cs
    clear c2 cs hok
    go_wp2_with fail
    refine (C2.out).mono ?_
    rintro e w2 ⟨rfl, hb2⟩
    have HG2 := Lib.hid (HG.out.below hb2 (Nat.le_refl _))
    have s2 := hb2.size
    have HB2 := Lib.hid (HB1.out.trans (hb2.mono s1))
    have C3 := Lib.hid (CS.out w2 HG2.out s2)
    clear hb2 C2
    go_wp2_with fail
    refine (C3.out).mono ?_
    rintro e w3 ⟨rfl, hb3⟩
    have HG3 := Lib.hid (HG2.out.below hb3 s2)
    have s3 := hb3.size
    have HB3 := Lib.hid (HB2.out.trans (hb3.mono (Nat.le_trans s1 s2)))
    have C4 := Lib.hid (CS.out w3 HG3.out (Nat.le_trans s2 s3))
    clear hb3 C3
    cases ok
    · go_wp2_with fail
      refine (C4.out).mono ?_
      rintro e w4 ⟨rfl, hb4⟩
      have HB4 := Lib.hid (HB3.out.trans (hb4.mono (Nat.le_trans (Nat.le_trans s1 s2) s3)))
      clear hb4 C4
      go_wp2
      go_ret
      exact ⟨rfl, HB4.out⟩
    · by_cases h0 : g.length = 0
      · have hq : ((g.length : Int) == 0) = true := by simp [h0]
        clear h0
        go_wp2_with fail
        refine (C4.out).mono ?_
        rintro e w4 ⟨rfl, hb4⟩
        have HB4 := Lib.hid (HB3.out.trans (hb4.mono (Nat.le_trans (Nat.le_trans s1 s2) s3)))
        clear hb4 C4
        go_wp2
        go_ret
        exact ⟨rfl, HB4.out⟩
      · have hq : ((g.length : Int) == 0) = false := by rw [beq_eq_false_iff_ne]; omega
        have h0' : 0 < g.length := by omega
        have hv := HV.out rfl
        have hvs := Bs.self_valid (g := g.map Bs.bare) (by simpa using h0')
        have hsl : (Bs.selfG (g.map Bs.bare)).length = (g.map Bs.bare).length := by cases g <;> rfl
        have HSL := Lib.hid hsl
        have HV := Lib.hid hv
        have HVS := Lib.hid hvs
        clear h0 hv hvs hsl C4 CS
        obtain ⟨W3, rfl⟩ : ∃ W3, W3 = w3 := ⟨_, rfl⟩
        have hW3 : w1.heap.size ≤ W3.heap.size := Nat.le_trans s2 s3
        have hW : w.heap.size ≤ W3.heap.size := Nat.le_trans s1 hW3
        have HB3' := Lib.hid (Below.refl W3.heap.size W3)
        go_wp2
        go_loopw [5, 6] (fun v i wr => ∃ (k : Nat) (A' : Option Addr) (c' : Nat) (o : List Bs.T), i = .int .i64 k ∧ k ≤ g.length ∧ v = .slice A' o.length c' ∧ o = (g.map Bs.bare).take k ∧ OT wr W3.heap.size A' c' o ∧ Below W3.heap.size W3 wr) (fun _ i _ => g.length + 1 - (intOf i).toNat)
        case atStart => exact ⟨0, _, _, [], rfl, Nat.zero_le _, rfl, by simp, OT.nil _ _ (Nat.le_refl _), (Below.refl _ _).alloc (Nat.le_refl _) _⟩
        case round =>
          obtain ⟨k, A', c', o, rfl, hk, rfl, ho, hO, hbr⟩ := hrel
          have sr := hbr.size
          have HO := Lib.hid hO
          have HBR := Lib.hid hbr
          have HoT := Lib.hid ho
          have hol : o.length = k := by rw [ho, List.length_take, List.length_map]; omega
          have HOL := Lib.hid hol
          have hol1 : o.length ≤ 16 := by omega
          clear hO hbr ho hol
          by_cases hlt : k < g.length
          · obtain ⟨b1, o1, N, cN, rfl, _, _, k0, k1, k2, k3, hnc, hcN, hN⟩ := (HG3.out.below HBR.out hW3) k hlt
            have hts : o ++ [Bs.bare g[k]] = (g.map Bs.bare).take (k + 1) := by
              rw [HoT.out, List.take_succ_eq_append_getElem (by simpa using hlt), List.getElem_map]
            have HTS := Lib.hid hts
            clear hts k1 hN
            obtain ⟨t, ht⟩ : ∃ t, t = Bs.bare g[k] := ⟨_, rfl⟩
            have e0 : g[k].time = t.time := by rw [ht]; rfl
            have e2 : g[k].pool = t.pool := by rw [ht]; rfl
            have e3 : g[k].units = t.units := by rw [ht]; rfl
            rw [← ht] at HTS
            rw [e0] at k0
            rw [e2] at k2
            rw [e3] at k3
            clear ht e0 e2 e3 hnc
            obtain ⟨WR, rfl⟩ : ∃ WR, WR = wr := ⟨_, rfl⟩
            go_wp2
            go_region_law (refine step_push_task rfl _ _ rfl W3.heap.size A' c' o t rfl (by first | exact (HO.out.drewN 1).alloc _ | exact HO.out.alloc _) _ 1 rfl (by first | exact new_cells (WR.drewN 1) t | exact new_cells WR t | exact new_cells _ t) (by omega) (by simp; omega) ?_; intro A5 c5 w5 ho5 hb5)
            all_goals
              have s5 := hb5.size
              go_wp2
              go_roundw
              case rel => exact ⟨k + 1, A5, c5, _, by go_num, by omega, by simp, HTS.out, ho5, (((HBR.out.drewN 1).alloc (by simpa using sr) _).trans (hb5.mono (by simp)))⟩
              case measure => simp [intOf]; omega
          · have e : o = g.map Bs.bare := by rw [HoT.out, List.take_of_length_le]; simp; omega
            subst e
            have hg0 : 0 < (g.map Bs.bare).length := by simpa using h0'
            have hFl : (g.map Bs.bare).length ≤ 16 := by simpa using hg16
            have hrg := HO.out.rg
            obtain ⟨bf, hAf, hbf, hltf, hcf, _⟩ := HO.out.blk hg0
            subst hAf
            have hcf' : ∀ j u, ((g.map Bs.bare).flatMap tc0)[j]? = some u → (wr.alloc (.cells #[] 28)).cell? ⟨bf, j, none⟩ = some u := fun j u hu => ((Below.alloc (Below.refl wr.heap.size wr) (Nat.le_refl _) _).cell hltf).trans (hcf j u hu)
            have HCF := Lib.hid hcf'
            have HRG := Lib.hid hrg
            have HSE := Lib.hid (fun (w : World) (B : Nat) (A : Option Addr) (c b : Nat) (h : OT w B A c (g.map Bs.bare)) => h.self (b := b) h0')
            clear hcf hcf' hrg HoT HOL hol1 HO
            generalize g.map Bs.bare = FR at *
            have hx0 : (0 : Int) < (FR.length : Int) := by omega
            obtain ⟨WR, rfl⟩ : ∃ WR, WR = wr := ⟨_, rfl⟩
            have hp1 : ([] : List Bs.T).length + FR.length ≤ 1000000000 := by simp only [List.length_nil]; omega
            go_wp2_with (at_builtin; go_loud (refine push_tasks rfl _ _ rfl WR.heap.size _ 0 [] FR rfl (OT.nil WR WR.heap.size (Nat.le_refl _)) bf c' rfl HCF.out hp1 (by simp) ?_; intro A5 c5 w5 ho5 hb5; simp only [List.nil_append] at ho5; obtain ⟨bb, hA5, hbb, hltb, hcb, hfb⟩ := ho5.blk hg0; subst hA5; have s5 : WR.heap.size ≤ w5.heap.size := (by have := hb5.size; simp at this; omega); have q1 := Bs.self_cell hcb hg0 hltb 3 #[.int .i64 0]; have f1 := Bs.self_frozen hfb hltb 3 #[.int .i64 0]; have R7 := HSE.out w5 _ _ _ bb ho5 rfl hltb; have b7 := Bs.self_below (o' := .cells #[.int .i64 0] 3) (u := .slice (some ⟨w5.heap.size, 0, none⟩) 1 1) hb5 hbb; rw [World.setCell_alloc_past _ _ _ _ hltb] at R7 b7; have C7 := Lib.hid (fun W hb => ValidGraph_any (some ⟨bb, 0, none⟩) c5 (Bs.selfG FR) WR.heap.size (w5.heap.size + 1) W hb); have B7 := Lib.hid b7; have HR7 := Lib.hid R7; clear ho5 hb5 hcb hfb R7 b7))
            have C6 := ValidGraph_any (some ⟨bf, 0, none⟩) c' FR W3.heap.size WR.heap.size _ (HRG.out.below B7.out (Nat.le_refl _)) B7.out.size (by omega)
            rw [HV.out trivial] at C6
            have C6 := Lib.hid C6
            refine (C6.out).mono ?_
            rintro e w8 ⟨rfl, hb8⟩
            have s8 := hb8.size
            simp only [World.size_alloc, World.size_setCell] at s8
            have C8 := C7.out w8 (HR7.out.below hb8 (by simp)) (by omega) (by rw [HSL.out]; omega)
            rw [HSL.out, HVS.out] at C8
            have C8 := Lib.hid C8
            have B8 := Lib.hid (HBR.out.trans (B7.out.trans (hb8.mono (by simp; omega)) |>.mono sr))
            clear hb8
            go_wp2_with fail
            refine (C8.out).mono ?_
            rintro e w9 ⟨rfl, hb9⟩
            have B9 := Lib.hid (HB3.out.trans ((B8.out.trans (hb9.mono (by omega))).mono hW))
            clear hb9
            go_wp2
            go_ret
            exact ⟨rfl, B9.out⟩
end Go.Proofs.Ytiokblodjhmjmaa
