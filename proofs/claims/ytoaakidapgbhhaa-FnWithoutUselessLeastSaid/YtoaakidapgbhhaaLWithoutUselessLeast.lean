/-
  THE WALK OF laws.FnWithoutUselessLeast.
-/
import Derived.Test.YtoaakidapgbhhaaDrC13
import Derived.Test.YtoaakidapgbhhaaMath136
import Derived.Test.YtoaakidapgbhhaaLLists
import Derived.Test.YtoaakidapgbhhaaOX
import Derived.Test.YtoaakidapgbhhaaK5
namespace Go.Proofs.Ytoaakidapgbhhaa
open Go.RowKit
set_option linter.unusedVariables false
set_option linter.unusedSimpArgs false in
set_option maxRecDepth 20000 in
set_option maxHeartbeats 6400000 in
theorem fnWithoutUselessLeast_walk (A : Option Addr) (c : Nat) (l : List Int) (w : World) (hb : RB w 0 w.heap.size A l) (hlc : l.length ≤ c ∧ c ≤ maxLen) :
    Calls Try.prog 9 #[.slice A l.length c] w fun e w' => e = .returned (.bool true) ∧ Below w.heap.size w w' := by
  have hl63 : l.length ≤ 9223372036854775807 := by have := hlc.2; unfold maxLen at this; omega
  by_cases hbig : 1048576 < l.length
  · go_enter Try.func9, Try.ntmps9
    go_wp2
    go_ret
    exact ⟨rfl, Below.refl _ _⟩
  · have C1 := Lib.hid (DrawWithoutUseless_any A c l w hb hlc.1 hlc.2)
    clear hb
    go_enter Try.func9, Try.ntmps9
    go_wp2_with fail
    refine (C1.out).mono ?_
    rintro e w1 ⟨⟨A1, c1, g, rfl, hg, hg16, hgc, hcm⟩, hb1⟩
    have HG := Lib.hid hg
    have s1 := hb1.size
    have hl9 : g.length ≤ 9223372036854775807 := by omega
    obtain ⟨L, hL⟩ : ∃ L, L = Bs.wuL g := ⟨_, rfl⟩
    have e2 := WithoutUseless_any A1 c1 g w.heap.size w1.heap.size w1 HG.out (Nat.le_refl _) hl9
    have e3 := fun W (hb : Below w1.heap.size w1 W) => WithoutUselessS_any A1 c1 g w.heap.size w1.heap.size W (HG.out.below hb (Nat.le_refl _)) hb.size hl9
    have hlen : L.length ≤ 1000 := by have := Bs.wuL_len g; rw [← hL] at this; omega
    rw [← hL] at e2 e3
    have E2 := Lib.hid e2
    have E3 := Lib.hid e3
    have HL := Lib.hid hL
    clear hL e2 e3 C1
    go_wp2_with fail
    with_reducible refine (E2.out).mono ?_
    rintro e w2 hr2
    obtain ⟨A2, c2, rfl, q2, hb2⟩ := hr2.rg
    have C3 := Lib.hid (E3.out w2 hb2)
    have HQ2 := Lib.hid q2
    have HB2 := Lib.hid hb2
    have s2 := hb2.size
    clear hr2 q2 hb2 E2
    go_wp2_with fail
    with_reducible refine (C3.out).mono ?_
    rintro e w3 hr3
    obtain ⟨A3, c3, rfl, q3, hb3⟩ := hr3.rg
    have s3 := hb3.size
    have C4 := Lib.hid (equalTasks_same A2 c2 A3 c3 L _ _ _ _ w3 (HQ2.out.below hb3 (Nat.le_refl _)) q3 (by omega))
    have HX3 := Lib.hid (HB2.out.trans (hb3.mono s2))
    have HB3 := Lib.hid hb3
    clear hr3 q3 hb3 C3
    go_wp2_with fail
    with_reducible refine (C4.out).mono ?_
    rintro e w4 ⟨rfl, n, rfl⟩
    clear C4
    have HG4 := Lib.hid ((HG.out.below HX3.out (Nat.le_refl _)).drewN n)
    have HQ4 := Lib.hid ((HQ2.out.below HB3.out (Nat.le_refl _)).drewN n)
    have g1 : w1.heap.size ≤ (w3.drewN n).heap.size := Nat.le_trans s2 s3
    have g2 : w2.heap.size ≤ (w3.drewN n).heap.size := s3
    have g0 : w.heap.size ≤ (w3.drewN n).heap.size := Nat.le_trans s1 g1
    have HX4 := Lib.hid (HX3.out.drewN n)
    have HB4 := Lib.hid ((hb1.trans (HX3.out.mono s1)).drewN n)
    have CS := Lib.hid (fun W (hb : Below (w3.drewN n).heap.size (w3.drewN n) W) => E3.out W (HX4.out.trans (hb.mono g1)))
    clear HG HQ2 HB2 HX3 HB3 HX4 E3 hb1
    generalize w3.drewN n = w4 at *
    have HX := Lib.hid (Below.refl w4.heap.size w4)
    by_cases h0 : L.length = 0
    · have hq0 : ((L.length : Int) == 0) = true := by simp [h0]
      clear h0 HL
      have CA := Lib.hid (CS.out _ HX.out)
      go_wp2_with fail
      with_reducible refine (CA.out).mono ?_
      rintro e wA hrA
      obtain ⟨AA, cA, rfl, qA, hbA⟩ := hrA.rg
      have CB := Lib.hid (equalTasks_same A2 c2 AA cA L _ _ _ _ wA ((HQ4.out.below HX.out g2).below hbA (Nat.le_trans g2 HX.out.size)) qA (by omega))
      have HBA := Lib.hid (HB4.out.trans ((HX.out.trans (hbA.mono HX.out.size)).mono g0))
      clear hrA qA hbA CA
      go_wp2_with fail
      with_reducible refine (CB.out).mono ?_
      rintro e wB ⟨rfl, nB, rfl⟩
      go_wp2
      go_ret
      exact ⟨rfl, HBA.out.drewN _⟩
    · have hq0 : ((L.length : Int) == 0) = false := by rw [beq_eq_false_iff_ne]; omega
      have hv : Bs.valid g = true := by
        cases hv : Bs.valid g
        · exact absurd (by rw [HL.out, Bs.wuL_no hv]; rfl) h0
        · rfl
      have hL := HL.out
      rw [Bs.wuL_yes hv] at hL
      have hLg : L.length = g.length := by rw [hL]; exact Bs.wuG_len g
      have h8 := Bs.fine_len (valid_fine hv)
      have HLESS := Lib.hid (fun (i : Nat) (hi : i < L.length) (x : Int) (r : List Int) (hx : L[i].needs = x :: r) => show (Bs.needsA (Bs.setN L i r) (i : Int)).contains x = false from by
        subst hL
        have hi2 : i < g.length := by omega
        rw [Bs.wuG_at hi hi2] at hx
        exact Bs.less_wu hv hi2 hx)
      have HNL := Lib.hid (fun (i : Nat) (r : List Int) => AllNeeds_len (Bs.setN L i r) (i : Int))
      have CAL := Lib.hid (fun A5 c5 (i : Nat) (r : List Int) lo hi W (hr : RG W lo hi A5 (Bs.setN L i r)) (hh : hi ≤ W.heap.size) => show Calls Try.prog 27 #[.slice A5 L.length c5, .int .i64 (i : Int)] W (RetI W (Bs.needsA (Bs.setN L i r) (i : Int))) from by
        have := AllNeeds_any A5 c5 (Bs.setN L i r) (i : Int) lo hi W hr hh (by rw [Bs.setN_len]; omega)
        rw [Bs.setN_len] at this
        exact this)
      have hl8 : L.length ≤ 8 := by omega
      have HZ5 := Lib.hid HX.out
      clear hL hv h0 HL CS hLg
      go_wp2
      go_loopw [5, 6] (fun i _ wr => ∃ k : Nat, k ≤ L.length ∧ i = .int .i64 (k : Int) ∧ Below w4.heap.size w4 wr) (fun i _ _ => L.length + 1 - (intOf i).toNat)
      case atStart => exact ⟨0, Nat.zero_le _, rfl, HZ5.out⟩
      case round =>
        clear HZ5
        obtain ⟨k, hk, rfl, hbr⟩ := hrel
        have sr := hbr.size
        have HBR := Lib.hid hbr
        clear hbr
        by_cases hlt : k < L.length
        · have HQr := Lib.hid (HQ4.out.below HBR.out g2)
          obtain ⟨bx, ox, N, cN, hA2, _, hbx, t0, t1, t2, t3, hlN, hcN, hN⟩ := HQr.out k hlt
          have i0 : (0 : Int) ≤ (k : Int) := by omega
          have i1 : (k : Int) < (L.length : Int) := by omega
          by_cases hz : L[k].needs.length = 0
          · subst hA2
            have e0 : ((L[k].needs.length : Int) == 0) = true := by simp [hz]
            clear t0 t2 t3 hN hz
            go_wp2
            go_roundw
            case rel => exact ⟨k + 1, by omega, by go_num, HBR.out⟩
            case measure => simp [intOf]; omega
          · have e0 : ((L[k].needs.length : Int) == 0) = false := by rw [beq_eq_false_iff_ne]; omega
            obtain ⟨x, r, hxr⟩ : ∃ x r, L[k].needs = x :: r := by
              cases hh : L[k].needs with
              | nil => rw [hh] at hz; simp at hz
              | cons x r => exact ⟨x, r, rfl⟩
            have hless := HLESS.out k hlt x r hxr
            have hnl := HNL.out k r
            obtain ⟨b3, o3, rfl, _, hb3, hc3⟩ := hN.at_ (k := 0) (by omega)
            have hx0 : L[k].needs[0]'(by omega) = x := by simp only [hxr, List.getElem_cons_zero]
            rw [hx0, Nat.add_zero] at hc3
            have hrl : L[k].needs.length = r.length + 1 := by rw [hxr]; rfl
            have hNr : RI wr w1.heap.size w2.heap.size (if cN = 1 then some ⟨b3, o3, none⟩ else some ⟨b3, o3 + 1, none⟩) r := by
              intro j hj
              obtain ⟨b4, o4, e4, g3, g4, g5⟩ := hN (j + 1) (by omega)
              cases e4
              rw [if_neg (by omega)]
              refine ⟨b3, o3 + 1, rfl, g3, g4, ?_⟩
              rw [show o3 + 1 + j = o3 + (j + 1) from by omega, g5]
              have : L[k].needs[j + 1]'(by omega) = r[j] := by simp only [hxr, List.getElem_cons_succ]
              rw [this]
            obtain ⟨b, o, rs, hA2', hbl, hrl2, hrows⟩ := HQr.out.rows (by omega)
            rw [hA2'] at hA2
            cases hA2
            subst hA2'
            have HCF := Lib.hid (fun j u hu => ((Below.alloc (Below.refl wr.heap.size wr) (Nat.le_refl _) (.cells #[] 29)).cell (p := ⟨bx, ox + j, none⟩) (show bx < wr.heap.size from by omega)).trans (rows_cells hrl2 hrows j u hu))
            have HRO := Lib.hid hrows
            have hp1 : ([] : List RW).length + rs.length ≤ 1000000000 := by simp only [List.length_nil]; omega
            have HNr := Lib.hid hNr
            have HAD := Lib.hid (And.intro hb3 hc3)
            by_cases hc1 : cN = 1
            · have HNr2 := Lib.hid (show RI wr w1.heap.size w2.heap.size (some ⟨b3, o3, none⟩) r from by have := HNr.out; rw [if_pos hc1] at this; exact this)
              subst hc1
              have hbxw : bx < wr.heap.size := by omega
              have hb3w : b3 < wr.heap.size := by omega
              have hw12 : w1.heap.size ≤ w2.heap.size := s2
              have hw2r : w2.heap.size ≤ wr.heap.size := by omega
              have hm1 : r.length ≤ 0 := by omega
              have hsub : L[k].needs.length - 1 = r.length := by omega
              have HRL := Lib.hid hrl
              have HLS := Lib.hid hless
              have hc1n : 1 ≤ 1 := by omega
              have hln1 : 1 ≤ L[k].needs.length := by omega
              clear hN hNr HNr hxr hrl hx0 HLESS hless hrows t0 t2 t3 hz
              generalize L[k].needs.length = n at *
              go_wp2_with (at_builtin; go_loud (refine push_rows rfl _ _ rfl wr.heap.size (some ⟨wr.heap.size, 0, none⟩) 0 [] rs rfl (OU.nil wr wr.heap.size (Nat.le_refl _)) bx ox c2 (by rw [hrl2]; rfl) HCF.out hp1 (by simp) ?_; intro A5 c5 w6 ho5 hb5; obtain ⟨bb, hA5, hbb, hltb, ⟨q0v, q0⟩, f0, s6, hb6, R6, B6⟩ := copiedG (i := k) ho5 hb5 hrl2 HRO.out hw12 hw2r hlt (some ⟨b3, o3, none⟩) 0 r hm1 (by omega) HNr2.out; subst hA5; have t1b := (hb6.cell (p := ⟨bx, ox + k * 4 + 1, none⟩) hbxw).trans t1; have HR6 := Lib.hid R6; have HB6 := Lib.hid B6; have HB66 := Lib.hid hb6; clear ho5 hb5 hb6 R6 B6))
              have HSS := Lib.hid (fun (W : World) (hb : Below wr.heap.size wr W) => show (fun W : World => W.cell? ⟨bx, ox + k * 4 + 1, none⟩ = some (.slice (some ⟨b3, o3, none⟩) n 1) ∧ W.cell? ⟨b3, o3, none⟩ = some (.int .i64 x)) W from ⟨(hb.cell (p := ⟨bx, ox + k * 4 + 1, none⟩) hbxw).trans t1, (hb.cell (p := ⟨b3, o3, none⟩) hb3w).trans hc3⟩)
              have C9 := Lib.hid (fun j => CAL.out (some ⟨bb, 0, none⟩) c5 k r _ _ _ (HR6.out.drewN j) (by simp [World.setCell]))
              clear t1b q0 f0
              generalize w6.setCell ⟨bb, k * 4 + 1, none⟩ (.slice (some ⟨b3, o3, none⟩) r.length 0) = W7 at *
              have hnl2 := hnl
              obtain ⟨P, hP⟩ : ∃ P, P = Bs.needsA (Bs.setN L k r) (k : Int) := ⟨_, rfl⟩
              rw [← hP] at C9 hnl HLS
              clear hP hnl2
              refine wp_region_held_drew (S := fun W => W.cell? ⟨bx, ox + k * 4 + 1, none⟩ = some (.slice (some ⟨b3, o3, none⟩) n 1) ∧ W.cell? ⟨b3, o3, none⟩ = some (.int .i64 x)) (by kernel_rfl) (HSS.out _ (HB6.out.drewN 1)) (fun hHeld => ?_)
              refine wpAnyH_take (i := 0) (v := .slice (some ⟨bb, 0, none⟩) L.length c5) rfl (by kernel_rfl) (by kernel_rfl) (by kernel_rfl) (fun _ _ _ h => h) (Or.inl ⟨by rfl, fun W hS => by first | rfl | (go_simp; done) | (go_simp; rfl)⟩) hHeld ?_
              try simp only [Act.put, List.getElem_toArray, List.getElem_cons_zero, List.getElem_cons_succ, List.setIfInBounds_toArray, List.set_cons_zero, List.set_cons_succ]
              refine wpAnyH_take (i := 1) (v := .int .i64 (k : Int)) rfl (by kernel_rfl) (by kernel_rfl) (by kernel_rfl) (fun _ _ _ h => h) (Or.inl ⟨by rfl, fun W hS => by first | rfl | (go_simp; done) | (go_simp; rfl)⟩) hHeld ?_
              try simp only [Act.put, List.getElem_toArray, List.getElem_cons_zero, List.getElem_cons_succ, List.setIfInBounds_toArray, List.set_cons_zero, List.set_cons_succ]
              refine wpAnyH_take (i := 3) (v := .slice (some ⟨bx, ox, none⟩) L.length c2) rfl (by kernel_rfl) (by kernel_rfl) (by kernel_rfl) (fun _ _ _ h => h) (Or.inl ⟨by rfl, fun W hS => by first | rfl | (go_simp; done) | (go_simp; rfl)⟩) hHeld ?_
              try simp only [Act.put, List.getElem_toArray, List.getElem_cons_zero, List.getElem_cons_succ, List.setIfInBounds_toArray, List.set_cons_zero, List.set_cons_succ]
              refine wpAnyH_take (i := 4) (v := .int .i64 (k : Int)) rfl (by kernel_rfl) (by kernel_rfl) (by kernel_rfl) (fun _ _ _ h => h) (Or.inl ⟨by rfl, fun W hS => by first | rfl | (go_simp; done) | (go_simp; rfl)⟩) hHeld ?_
              try simp only [Act.put, List.getElem_toArray, List.getElem_cons_zero, List.getElem_cons_succ, List.setIfInBounds_toArray, List.set_cons_zero, List.set_cons_succ]
              refine wpAnyH_take (i := 5) (v := .pointer (some ⟨bx, ox + k * 4, none⟩)) rfl (by kernel_rfl) (by kernel_rfl) (by kernel_rfl) (fun _ _ _ h => h) (Or.inl ⟨by rfl, fun W hS => by first | rfl | (go_simp; done) | (go_simp; rfl)⟩) hHeld ?_
              try simp only [Act.put, List.getElem_toArray, List.getElem_cons_zero, List.getElem_cons_succ, List.setIfInBounds_toArray, List.set_cons_zero, List.set_cons_succ]
              refine wpAnyH_take (i := 6) (v := .pointer (some ⟨bx, ox + k * 4 + 1, none⟩)) rfl (by kernel_rfl) (by kernel_rfl) (by kernel_rfl) (fun _ _ _ h => h) (Or.inl ⟨by rfl, fun W hS => by first | rfl | (go_simp; done) | (go_simp; rfl)⟩) hHeld ?_
              try simp only [Act.put, List.getElem_toArray, List.getElem_cons_zero, List.getElem_cons_succ, List.setIfInBounds_toArray, List.set_cons_zero, List.set_cons_succ]
              refine wpAnyH_take (i := 7) (v := .slice (some ⟨b3, o3, none⟩) n 1) rfl (by kernel_rfl) (by kernel_rfl) (by kernel_rfl) (fun _ _ _ h => h) (Or.inl ⟨by rfl, fun W hS => run_cellS _ rfl _ _ rfl hS.1⟩) hHeld ?_
              try simp only [Act.put, List.getElem_toArray, List.getElem_cons_zero, List.getElem_cons_succ, List.setIfInBounds_toArray, List.set_cons_zero, List.set_cons_succ]
              refine wpAnyH_take (i := 8) (v := .pointer (some ⟨b3, o3, none⟩)) rfl (by kernel_rfl) (by kernel_rfl) (by kernel_rfl) (fun _ _ _ h => h) (Or.inl ⟨by rfl, fun W hS => (by go_simp; intro h0; exact absurd h0 (by omega))⟩) hHeld ?_
              try simp only [Act.put, List.getElem_toArray, List.getElem_cons_zero, List.getElem_cons_succ, List.setIfInBounds_toArray, List.set_cons_zero, List.set_cons_succ]
              refine wpAnyH_take (i := 9) (v := .int .i64 x) rfl (by kernel_rfl) (by kernel_rfl) (by kernel_rfl) (fun _ _ _ h => h) (Or.inl ⟨by rfl, fun W hS => run_cellL _ rfl _ _ rfl hS.2⟩) hHeld ?_
              try simp only [Act.put, List.getElem_toArray, List.getElem_cons_zero, List.getElem_cons_succ, List.setIfInBounds_toArray, List.set_cons_zero, List.set_cons_succ]
              refine wpAnyH_ready (rs := [2]) (by kernel_rfl) (by simp) ?_
              refine AllReadyH.cons rfl (fun K hK => ?_) AllReadyH.nil
              rw [if_pos (by rfl)]
              go_simp
              go_at_call 27
              refine ((C9.out 1)).mono ?_
              rintro e w8 hr8
              obtain ⟨A8, c8, rfl, q8, hb8⟩ := hr8.ri2
              have HB8 := Lib.hid ((HB6.out.drewN 1).trans (hb8.mono (HB6.out.drewN 1).size))
              have c10 := lisIn_any A8 c8 P x _ _ w8 q8 (by omega)
              rw [HLS.out] at c10
              have C10 := Lib.hid c10
              have HBZ := Lib.hid (HBR.out.trans (HB8.out.mono sr))
              clear hr8 q8 hb8 c10
              go_wp2_with fail
              refine hK.out _ _ (HSS.out _ HB8.out) (fun hHeld => ?_)
              clear hK K
              try simp only [Act.put, List.getElem_toArray, List.getElem_cons_zero, List.getElem_cons_succ, List.setIfInBounds_toArray, List.set_cons_zero, List.set_cons_succ]
              refine wpAnyH_ready (rs := [10]) (by kernel_rfl) (by simp) ?_
              refine AllReadyH.cons rfl (fun K hK => ?_) AllReadyH.nil
              rw [if_pos (by rfl)]
              go_simp
              go_at_call 23
              with_reducible refine (C10.out).mono ?_
              rintro e w9 ⟨rfl, rfl⟩
              go_wp2_with fail
              refine hK.out _ _ (HSS.out _ HB8.out) (fun hHeld => ?_)
              clear hK K
              try simp only [Act.put, List.getElem_toArray, List.getElem_cons_zero, List.getElem_cons_succ, List.setIfInBounds_toArray, List.set_cons_zero, List.set_cons_succ]
              refine wpAnyH_done (by kernel_rfl) ?_ _
              go_wp2
              go_roundw
              case rel => exact ⟨k + 1, by omega, by go_num, HBZ.out⟩
              case measure => simp [intOf]; omega
            · have HNr2 := Lib.hid (show RI wr w1.heap.size w2.heap.size (some ⟨b3, o3 + 1, none⟩) r from by have := HNr.out; rw [if_neg hc1] at this; exact this)
              
              have hbxw : bx < wr.heap.size := by omega
              have hb3w : b3 < wr.heap.size := by omega
              have hw12 : w1.heap.size ≤ w2.heap.size := s2
              have hw2r : w2.heap.size ≤ wr.heap.size := by omega
              have hm1 : r.length ≤ cN - 1 := by omega
              have hsub : L[k].needs.length - 1 = r.length := by omega
              have HRL := Lib.hid hrl
              have HLS := Lib.hid hless
              have hc1n : 1 ≤ cN := by omega
              have hln1 : 1 ≤ L[k].needs.length := by omega
              clear hN hNr HNr hxr hrl hx0 HLESS hless hrows t0 t2 t3 hz
              generalize L[k].needs.length = n at *
              go_wp2_with (at_builtin; go_loud (refine push_rows rfl _ _ rfl wr.heap.size (some ⟨wr.heap.size, 0, none⟩) 0 [] rs rfl (OU.nil wr wr.heap.size (Nat.le_refl _)) bx ox c2 (by rw [hrl2]; rfl) HCF.out hp1 (by simp) ?_; intro A5 c5 w6 ho5 hb5; obtain ⟨bb, hA5, hbb, hltb, ⟨q0v, q0⟩, f0, s6, hb6, R6, B6⟩ := copiedG (i := k) ho5 hb5 hrl2 HRO.out hw12 hw2r hlt (some ⟨b3, o3 + 1, none⟩) (cN - 1) r hm1 (by omega) HNr2.out; subst hA5; have t1b := (hb6.cell (p := ⟨bx, ox + k * 4 + 1, none⟩) hbxw).trans t1; have HR6 := Lib.hid R6; have HB6 := Lib.hid B6; have HB66 := Lib.hid hb6; clear ho5 hb5 hb6 R6 B6))
              have HSS := Lib.hid (fun (W : World) (hb : Below wr.heap.size wr W) => show (fun W : World => W.cell? ⟨bx, ox + k * 4 + 1, none⟩ = some (.slice (some ⟨b3, o3, none⟩) n cN) ∧ W.cell? ⟨b3, o3, none⟩ = some (.int .i64 x)) W from ⟨(hb.cell (p := ⟨bx, ox + k * 4 + 1, none⟩) hbxw).trans t1, (hb.cell (p := ⟨b3, o3, none⟩) hb3w).trans hc3⟩)
              have C9 := Lib.hid (fun j => CAL.out (some ⟨bb, 0, none⟩) c5 k r _ _ _ (HR6.out.drewN j) (by simp [World.setCell]))
              clear t1b q0 f0
              generalize w6.setCell ⟨bb, k * 4 + 1, none⟩ (.slice (some ⟨b3, o3 + 1, none⟩) r.length (cN - 1)) = W7 at *
              have hnl2 := hnl
              obtain ⟨P, hP⟩ : ∃ P, P = Bs.needsA (Bs.setN L k r) (k : Int) := ⟨_, rfl⟩
              rw [← hP] at C9 hnl HLS
              clear hP hnl2
              refine wp_region_held_drew (S := fun W => W.cell? ⟨bx, ox + k * 4 + 1, none⟩ = some (.slice (some ⟨b3, o3, none⟩) n cN) ∧ W.cell? ⟨b3, o3, none⟩ = some (.int .i64 x)) (by kernel_rfl) (HSS.out _ (HB6.out.drewN 1)) (fun hHeld => ?_)
              refine wpAnyH_take (i := 0) (v := .slice (some ⟨bb, 0, none⟩) L.length c5) rfl (by kernel_rfl) (by kernel_rfl) (by kernel_rfl) (fun _ _ _ h => h) (Or.inl ⟨by rfl, fun W hS => by first | rfl | (go_simp; done) | (go_simp; rfl)⟩) hHeld ?_
              try simp only [Act.put, List.getElem_toArray, List.getElem_cons_zero, List.getElem_cons_succ, List.setIfInBounds_toArray, List.set_cons_zero, List.set_cons_succ]
              refine wpAnyH_take (i := 1) (v := .int .i64 (k : Int)) rfl (by kernel_rfl) (by kernel_rfl) (by kernel_rfl) (fun _ _ _ h => h) (Or.inl ⟨by rfl, fun W hS => by first | rfl | (go_simp; done) | (go_simp; rfl)⟩) hHeld ?_
              try simp only [Act.put, List.getElem_toArray, List.getElem_cons_zero, List.getElem_cons_succ, List.setIfInBounds_toArray, List.set_cons_zero, List.set_cons_succ]
              refine wpAnyH_take (i := 3) (v := .slice (some ⟨bx, ox, none⟩) L.length c2) rfl (by kernel_rfl) (by kernel_rfl) (by kernel_rfl) (fun _ _ _ h => h) (Or.inl ⟨by rfl, fun W hS => by first | rfl | (go_simp; done) | (go_simp; rfl)⟩) hHeld ?_
              try simp only [Act.put, List.getElem_toArray, List.getElem_cons_zero, List.getElem_cons_succ, List.setIfInBounds_toArray, List.set_cons_zero, List.set_cons_succ]
              refine wpAnyH_take (i := 4) (v := .int .i64 (k : Int)) rfl (by kernel_rfl) (by kernel_rfl) (by kernel_rfl) (fun _ _ _ h => h) (Or.inl ⟨by rfl, fun W hS => by first | rfl | (go_simp; done) | (go_simp; rfl)⟩) hHeld ?_
              try simp only [Act.put, List.getElem_toArray, List.getElem_cons_zero, List.getElem_cons_succ, List.setIfInBounds_toArray, List.set_cons_zero, List.set_cons_succ]
              refine wpAnyH_take (i := 5) (v := .pointer (some ⟨bx, ox + k * 4, none⟩)) rfl (by kernel_rfl) (by kernel_rfl) (by kernel_rfl) (fun _ _ _ h => h) (Or.inl ⟨by rfl, fun W hS => by first | rfl | (go_simp; done) | (go_simp; rfl)⟩) hHeld ?_
              try simp only [Act.put, List.getElem_toArray, List.getElem_cons_zero, List.getElem_cons_succ, List.setIfInBounds_toArray, List.set_cons_zero, List.set_cons_succ]
              refine wpAnyH_take (i := 6) (v := .pointer (some ⟨bx, ox + k * 4 + 1, none⟩)) rfl (by kernel_rfl) (by kernel_rfl) (by kernel_rfl) (fun _ _ _ h => h) (Or.inl ⟨by rfl, fun W hS => by first | rfl | (go_simp; done) | (go_simp; rfl)⟩) hHeld ?_
              try simp only [Act.put, List.getElem_toArray, List.getElem_cons_zero, List.getElem_cons_succ, List.setIfInBounds_toArray, List.set_cons_zero, List.set_cons_succ]
              refine wpAnyH_take (i := 7) (v := .slice (some ⟨b3, o3, none⟩) n cN) rfl (by kernel_rfl) (by kernel_rfl) (by kernel_rfl) (fun _ _ _ h => h) (Or.inl ⟨by rfl, fun W hS => run_cellS _ rfl _ _ rfl hS.1⟩) hHeld ?_
              try simp only [Act.put, List.getElem_toArray, List.getElem_cons_zero, List.getElem_cons_succ, List.setIfInBounds_toArray, List.set_cons_zero, List.set_cons_succ]
              refine wpAnyH_take (i := 8) (v := .pointer (some ⟨b3, o3, none⟩)) rfl (by kernel_rfl) (by kernel_rfl) (by kernel_rfl) (fun _ _ _ h => h) (Or.inl ⟨by rfl, fun W hS => (by go_simp; intro h0; exact absurd h0 (by omega))⟩) hHeld ?_
              try simp only [Act.put, List.getElem_toArray, List.getElem_cons_zero, List.getElem_cons_succ, List.setIfInBounds_toArray, List.set_cons_zero, List.set_cons_succ]
              refine wpAnyH_take (i := 9) (v := .int .i64 x) rfl (by kernel_rfl) (by kernel_rfl) (by kernel_rfl) (fun _ _ _ h => h) (Or.inl ⟨by rfl, fun W hS => run_cellL _ rfl _ _ rfl hS.2⟩) hHeld ?_
              try simp only [Act.put, List.getElem_toArray, List.getElem_cons_zero, List.getElem_cons_succ, List.setIfInBounds_toArray, List.set_cons_zero, List.set_cons_succ]
              refine wpAnyH_ready (rs := [2]) (by kernel_rfl) (by simp) ?_
              refine AllReadyH.cons rfl (fun K hK => ?_) AllReadyH.nil
              rw [if_pos (by rfl)]
              go_simp
              go_at_call 27
              refine ((C9.out 1)).mono ?_
              rintro e w8 hr8
              obtain ⟨A8, c8, rfl, q8, hb8⟩ := hr8.ri2
              have HB8 := Lib.hid ((HB6.out.drewN 1).trans (hb8.mono (HB6.out.drewN 1).size))
              have c10 := lisIn_any A8 c8 P x _ _ w8 q8 (by omega)
              rw [HLS.out] at c10
              have C10 := Lib.hid c10
              have HBZ := Lib.hid (HBR.out.trans (HB8.out.mono sr))
              clear hr8 q8 hb8 c10
              go_wp2_with fail
              refine hK.out _ _ (HSS.out _ HB8.out) (fun hHeld => ?_)
              clear hK K
              try simp only [Act.put, List.getElem_toArray, List.getElem_cons_zero, List.getElem_cons_succ, List.setIfInBounds_toArray, List.set_cons_zero, List.set_cons_succ]
              refine wpAnyH_ready (rs := [10]) (by kernel_rfl) (by simp) ?_
              refine AllReadyH.cons rfl (fun K hK => ?_) AllReadyH.nil
              rw [if_pos (by rfl)]
              go_simp
              go_at_call 23
              with_reducible refine (C10.out).mono ?_
              rintro e w9 ⟨rfl, rfl⟩
              go_wp2_with fail
              refine hK.out _ _ (HSS.out _ HB8.out) (fun hHeld => ?_)
              clear hK K
              try simp only [Act.put, List.getElem_toArray, List.getElem_cons_zero, List.getElem_cons_succ, List.setIfInBounds_toArray, List.set_cons_zero, List.set_cons_succ]
              refine wpAnyH_done (by kernel_rfl) ?_ _
              go_wp2
              go_roundw
              case rel => exact ⟨k + 1, by omega, by go_num, HBZ.out⟩
              case measure => simp [intOf]; omega
        · have d1 : ¬ (k : Int) < (L.length : Int) := by omega
          go_wp2
          go_ret
          exact ⟨rfl, HB4.out.trans (HBR.out.mono g0)⟩
end Go.Proofs.Ytoaakidapgbhhaa
