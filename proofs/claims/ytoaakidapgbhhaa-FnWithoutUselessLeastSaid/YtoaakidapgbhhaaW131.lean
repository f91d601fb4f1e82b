/-
  WALKS: stages of the program: the tasks of all stages.
-/
import Derived.Test.YtoaakidapgbhhaaMath131
import Derived.Test.YtoaakidapgbhhaaW130
import Derived.Test.YtoaakidapgbhhaaK5
import Derived.Test.YtoaakidapgbhhaaR30
import Derived.Test.YtoaakidapgbhhaaMem12
namespace Go.Proofs.Ytoaakidapgbhhaa
open Go.RowKit
theorem OS.nil (w : World) (B : Nat) : OS w B none 0 [] := World.ownsRow_nil w B 25 1
def sliceLen : Value → Nat
  | .slice _ n _ => n
  | _ => 0
theorem RetOS.nil {w w1 : World} {Ls : List (List Int)} (hb : Below w.heap.size w w1) (h : Ls = []) : RetOS w Ls (.returned (.slice none 0 0)) w1 := by
  subst h
  exact ⟨⟨none, 0, [], rfl, OS.nil _ _, SLs.nil _ _⟩, hb⟩
set_option maxHeartbeats 1600000 in
theorem StagesOf_c (A : Option Addr) (c : Nat) (g : List Bs.T) (lo hi : Nat) (w : World) (h : RG w lo hi A g) (hh : hi ≤ w.heap.size) (hl : g.length ≤ 9223372036854775807) :
    Calls Try.prog 19 #[.slice A g.length c] w (RetSC w (Bs.stgL g)) := by
  have q1 := ValidGraph_any A c g lo hi w h hh hl
  cases hv : Bs.valid g
  · rw [hv] at q1
    have C1 := Lib.hid q1
    have HV := Lib.hid (Bs.stgL_no hv)
    clear q1 hv h
    go_enter Try.func19, Try.ntmps19
    go_wp2_with fail
    with_reducible refine (C1.out).mono ?_
    rintro e w1 ⟨rfl, hb⟩
    have HB := Lib.hid hb
    clear hb
    go_wp2
    go_ret
    exact RetSC.nil HB.out HV.out
  rw [hv] at q1
  have C1 := Lib.hid q1
  have hF := valid_fine hv
  have h8 := Bs.fine_len hF
  have CN := Lib.hid (fun (s : Nat) W (hb : Below w.heap.size w W) => show Calls Try.prog 42 #[.slice A g.length c, .int .u64 (Bs.bits (Bs.befS g s) : Nat)] W fun e w' => e = .returned (.int .u64 (Bs.bits (Bs.stgS g s) : Nat)) ∧ Below W.heap.size W w' from by
    have q := nextStage_any A c g (Bs.befS g s) lo hi W (h.below hb hh) (Nat.le_trans hh hb.size) hF (Bs.bef_eight h8 s)
    rw [Bs.ready_stage hv] at q
    exact q)
  have HB0 := Lib.hid (show ((Bs.bits (Bs.befS g 0) : Nat) : Int) = 0 from by rw [Bs.bef_zero hv]; rfl)
  have CL := Lib.hid (fun (s : Nat) W => show Calls Try.prog 43 #[.int .u64 (Bs.bits (Bs.stgS g s) : Nat)] W (RetI W (Bs.stgS g s)) from by
    have q := listOf_any (Bs.bits (Bs.stgS g s)) W (Bs.bits_lt _ (Bs.stg_eight h8 s))
    rw [Bs.bits_list (show Bs.asc (Bs.stgS g s) = true from Bs.asc_pick _ _) (Bs.stg_eight h8 s)] at q
    exact q)
  have HOR := Lib.hid (fun (s : Nat) => show bits .or .u64 ((Bs.bits (Bs.befS g s) : Nat) : Int) ((Bs.bits (Bs.stgS g s) : Nat) : Int) = ((Bs.bits (Bs.befS g (s + 1)) : Nat) : Int) from by
    have a := Bs.bits_lt _ (Bs.bef_eight h8 s)
    have b := Bs.bits_lt _ (Bs.stg_eight h8 s)
    rw [bits_or_u64_nat _ _ (by omega) (by omega), Bs.bef_bits])
  have HNZ := Lib.hid (fun (s : Nat) => Bs.bits_zero (Bs.stg_eight h8 s))
  have HLT := Lib.hid (fun (s : Nat) (hne : Bs.stgS g s ≠ []) => show s < g.length from by
    apply Classical.byContradiction
    intro hn
    exact hne (Bs.stg_up hv (Bs.stg_few hv) (by omega)))
  have HEND := Lib.hid (fun (s : Nat) (a : ∀ t, t < s → Bs.stgS g t ≠ []) (b : Bs.stgS g s = []) => show Bs.stgL g = Bs.stgK g s from (Bs.stgL_yes hv).trans (Bs.stgP_end hv a b).2)
  have HSL := Lib.hid (fun (s : Nat) => show (Bs.stgS g s).length ≤ 8 from Nat.le_trans (Bs.pick_len _ _) h8)
  clear q1 hv h hF
  go_enter Try.func19, Try.ntmps19
  go_wp2_with fail
  with_reducible refine (C1.out).mono ?_
  rintro e w1 ⟨rfl, hb⟩
  have s1 := hb.size
  have HO := Lib.hid (OS.new w1 w.heap.size s1)
  have HB1 := Lib.hid (hb.alloc s1 (.cells #[] 25))
  have c2 := CN.out 0 (w1.alloc (.cells #[] 25)) HB1.out
  rw [HB0.out] at c2
  have C2 := Lib.hid c2
  clear hb C1 c2
  go_wp2_with fail
  with_reducible refine (C2.out).mono ?_
  rintro e w2 ⟨rfl, hb2⟩
  have HO2 := Lib.hid (HO.out.below hb2 (Nat.le_refl _))
  have HB2 := Lib.hid (HB1.out.trans (hb2.mono HB1.out.size))
  clear hb2 C2 HO HB1
  go_wp2
  go_loopw [3, 4, 5] (fun vo bv nv wr => ∃ (s : Nat) (A' : Option Addr) (c' : Nat) (vs : List Value), vo = .slice A' vs.length c' ∧ bv = .int .u64 (Bs.bits (Bs.befS g s) : Nat) ∧ nv = .int .u64 (Bs.bits (Bs.stgS g s) : Nat) ∧ s ≤ g.length ∧ (∀ t, t < s → Bs.stgS g t ≠ []) ∧ OS wr w.heap.size A' c' vs ∧ SLc wr w.heap.size wr.heap.size vs (Bs.stgK g s) ∧ Below w.heap.size w wr) (fun vo _ _ _ => g.length - sliceLen vo)
  case atStart => exact ⟨0, _, _, [], rfl, by rw [HB0.out], rfl, Nat.zero_le _, fun t ht => by omega, HO2.out, SLc.nil _ HB2.out.size, HB2.out⟩
  case round =>
    clear HO2 HB2
    obtain ⟨s, A', c', vs, rfl, rfl, rfl, hs, hall, hO, hS, hb⟩ := hrel
    have hvl := hS.len
    have hkl : (Bs.stgK g s).length = s := by simp [Bs.stgK]
    rw [hkl] at hvl
    have sr := hb.size
    by_cases hne : Bs.stgS g s = []
    · have HE := Lib.hid (HEND.out s hall hne)
      have hz := (HNZ.out s).2 hne
      have hq : (((Bs.bits (Bs.stgS g s) : Nat) : Int) != 0) = false := by rw [hz]; rfl
      have HO := Lib.hid hO
      have HS := Lib.hid hS
      have HB := Lib.hid hb
      clear hO hS hb hall hne hz CN CL HOR HNZ HLT HEND HSL
      generalize Bs.bits (Bs.stgS g s) = N at *
      go_wp2
      go_ret
      rw [HE.out]
      exact ⟨⟨A', c', vs, rfl, HO.out, HS.out⟩, HB.out⟩
    · have hlt := HLT.out s hne
      have hz : Bs.bits (Bs.stgS g s) ≠ 0 := fun e => hne ((HNZ.out s).1 e)
      have hq : (((Bs.bits (Bs.stgS g s) : Nat) : Int) != 0) = true := by rw [bne_iff_ne]; omega
      have HALL := Lib.hid (show ∀ t, t < s + 1 → Bs.stgS g t ≠ [] from fun t ht => by
        by_cases e : t = s
        · subst e; exact hne
        · exact hall t (by omega))
      have C3 := Lib.hid (CL.out s wr)
      have HORs := Lib.hid (HOR.out s)
      have C6 := Lib.hid (CN.out (s + 1))
      have HKS := Lib.hid (Bs.stgK_succ g s)
      have hsl := HSL.out s
      have HO := Lib.hid hO
      have HS := Lib.hid hS
      have HB := Lib.hid hb
      have HVL := Lib.hid hvl
      clear hO hS hb hall hne hz CN CL HOR HNZ HLT HEND HSL hvl
      generalize Bs.bits (Bs.stgS g s) = N at *
      generalize Bs.bits (Bs.befS g s) = D at *
      generalize Bs.stgS g s = P at *
      generalize hD2 : Bs.bits (Bs.befS g (s + 1)) = D2 at *
      generalize hN2 : Bs.bits (Bs.stgS g (s + 1)) = N2 at *
      have HD2 := Lib.hid hD2
      have HN2 := Lib.hid hN2
      clear hD2 hN2
      go_wp2_with fail
      with_reducible refine (C3.out).mono ?_
      rintro e w3 ⟨⟨A3, c3, rfl, ho3⟩, hb3⟩
      have s3 := hb3.size
      have HO3 := Lib.hid ((HO.out.below hb3 (Nat.le_refl _)).alloc (.cells #[.slice A3 P.length c3] 25))
      have HS3 := Lib.hid (((HS.out.below hb3 (Nat.le_refl _)).snoc ho3 (h2 := w3.heap.size) s3 (fun a e => ho3.blk_lt e)).alloc (.cells #[.slice A3 P.length c3] 25))
      have HB3 := Lib.hid ((HB.out.trans (hb3.mono sr)).alloc (Nat.le_trans sr s3) (.cells #[.slice A3 P.length c3] 25))
      have HU3 := Lib.hid (OS.one w3 wr.heap.size s3 (.slice A3 P.length c3))
      have HONE := Lib.hid (SLs.one ho3).oneCell
      clear ho3 hb3 C3 HO HS HB
      go_wp2_with (first
        | (at_builtin; refine push_vs rfl _ _ rfl w.heap.size A' c' vs [.slice A3 P.length c3] rfl HO3.out (some ⟨w3.heap.size, 0, none⟩) 1 wr.heap.size rfl HU3.out HONE.out (by have := HVL.out; simp; omega) (by simp; omega) ?_; intro A6 c6 w6 ho6 hb6 hg6 s6; have HO6 := Lib.hid ho6; have HS6 := Lib.hid ((HS3.out.kept HO3.out hg6).more (show w3.heap.size ≤ w6.heap.size from by simp at s6; omega)); have HB6 := Lib.hid (HB3.out.trans hb6); clear ho6 hb6 hg6))
      rw [HORs.out]
      have C7 := Lib.hid (C6.out w6 HB6.out)
      with_reducible refine (C7.out).mono ?_
      rintro e w7 ⟨rfl, hb7⟩
      have HO7 := Lib.hid (HO6.out.below hb7 (Nat.le_refl _))
      have HS7 := Lib.hid ((HS6.out.below hb7 (Nat.le_refl _)).more hb7.size)
      have HB7 := Lib.hid (HB6.out.trans (hb7.mono HB6.out.size))
      clear hb7 C6 C7 HO6 HS6 HB6 HO3 HS3 HB3 HU3
      go_wp2
      go_roundw
      case rel => exact ⟨s + 1, A6, c6, vs ++ [.slice A3 P.length c3], by rw [List.length_append]; rfl, by rw [HD2.out], by rw [HN2.out], by omega, HALL.out, HO7.out, by rw [HKS.out]; exact HS7.out, HB7.out⟩
      case measure => have := HVL.out; simp [sliceLen]; omega
theorem StagesOf_any (A : Option Addr) (c : Nat) (g : List Bs.T) (lo hi : Nat) (w : World) (h : RG w lo hi A g) (hh : hi ≤ w.heap.size) (hl : g.length ≤ 9223372036854775807) :
    Calls Try.prog 19 #[.slice A g.length c] w (RetOS w (Bs.stgL g)) := (StagesOf_c A c g lo hi w h hh hl).mono fun _ _ h => h.os
end Go.Proofs.Ytoaakidapgbhhaa
