/-
  WALKS: the outcome that comes next; the list of outcomes; what can fail.
-/
import Derived.Test.YthllincpbiafcaaW72
import Derived.Test.YthllincpbiafcaaK8
import Derived.Deep.RegionLaw
namespace Go.Proofs.Ythllincpbiafcaa
open Go.RowKit
theorem step_st_store {ops : Array Oper} {o : Oper} {a : Act} {w : World} {K : Act → World → Prop} {Q : Exit → Act → World → Prop} {E : Prop} (hgd : o.guard = none) (x y : Operand) (ho : o.op = .store 54 x y)
    (b : Nat) (f f' : Nat → Int) (n n' : Int) (hx : a.eval x = .pointer (some ⟨b, 0, none⟩)) (hy : a.eval y = .agg (stA f' n')) (hb : ST w b f n)
    (h : ∀ w', ST w' b f' n' → OnlyB b w w' → K (a.put o.dst undef) w') :
    if Region.wanted o (yielded ops a.tmps) = true then Oper.wp Try.prog o a w K Q else E := by
  have hw : Region.wanted o (yielded ops a.tmps) = true := by simp [Region.wanted, hgd]
  rw [if_pos hw]
  exact wp_store_row 54 x y ho b (stA f' n') hx hy 54 (stA f n) hb stSize rfl (stOne _ _) (h _ (stRow_only w b f f' n n' hb).1 (stRow_only w b f f' n n' hb).2)
set_option maxHeartbeats 1600000 in
set_option maxRecDepth 20000 in
theorem outcomeOf_any (o : List Int) (fa : Int) (A : Option Addr) (c : Nat) (g : List Bs.T) (F : List Int) (keep : Int) (v : Nat) (lo hi : Nat) (w : World) (h : RG w lo hi A g) (hh : hi ≤ w.heap.size) (hF : Bs.fine g = true) (hF8 : ∀ x ∈ F, 0 ≤ x ∧ x < 8) (hv : v < g.length) :
    Calls Try.prog 28 #[.agg (stA (Bs.gi o) fa), .slice A g.length c, .int .u64 (Bs.bits F : Nat), .int .i64 keep, .int .i64 (v : Int)] w fun e w' => e = .returned (.int .i64 (Bs.outV g F keep o fa v)) ∧ Below w.heap.size w w' := by
  have hgl := Bs.fine_len hF
  have hb1 := ST.new w (Bs.gi o) fa
  have hal : Below w.heap.size w (w.alloc (.cells (stA (Bs.gi o) fa) 54)) := (Below.refl _ _).alloc (Nat.le_refl _) _
  have e8 := stA_b (Bs.gi o) fa
  have e0 := stA_at (Bs.gi o) fa (i := 0) (by omega)
  have e1 := stA_at (Bs.gi o) fa (i := 1) (by omega)
  have e2 := stA_at (Bs.gi o) fa (i := 2) (by omega)
  have e3 := stA_at (Bs.gi o) fa (i := 3) (by omega)
  have e4 := stA_at (Bs.gi o) fa (i := 4) (by omega)
  have e5 := stA_at (Bs.gi o) fa (i := 5) (by omega)
  have e6 := stA_at (Bs.gi o) fa (i := 6) (by omega)
  have e7 := stA_at (Bs.gi o) fa (i := 7) (by omega)
  have HB := Lib.hid hb1
  have HAL := Lib.hid hal
  have HV0 := Lib.hid (show Bs.outV g F keep o fa v = if keep ≤ fa then 3 else if !Bs.fineO g o v then 2 else if F.contains (v : Int) then 1 else 0 from rfl)
  generalize Bs.outV g F keep o fa v = V at *
  by_cases hk : keep ≤ fa
  · have HV := Lib.hid (show V = 3 from by rw [HV0.out, if_pos hk])
    clear HV0 hb1 hal h
    go_enter Try.func28, Try.ntmps28
    go_wp2
    go_ret
    exact ⟨ret_int HV.out.symm, HAL.out⟩
  · have HV1 := Lib.hid (show V = if !Bs.fineO g o v then 2 else if F.contains (v : Int) then 1 else 0 from by rw [HV0.out, if_neg hk])
    have hn8 := Bs.need_eight hF hv
    have hnl := Bs.fine_needs_len hF hv
    have hfo : Bs.fineO g o v = (g[v].needs.all fun x => Bs.gi o x.toNat == 0) := by unfold Bs.fineO; rw [need_at hv]
    have hbt : (Bs.bits F).testBit v = F.contains (v : Int) := Bs.bits_test F (fun x hx => (hF8 x hx).1) v
    have C3 := Lib.hid (fun W => hasTask_any (Bs.bits F) v W (Bs.bits_lt F hF8) (by omega))
    rw [hbt] at C3
    obtain ⟨bg, og, N, cN, rfl, _, hgh, p0, p1, p2, p3, hlN, hcN, hN⟩ := h v hv
    have q0 := (hal.cell (p := ⟨bg, og + v * 4, none⟩) (by show bg < _; omega)).trans p0
    have q1 := (hal.cell (p := ⟨bg, og + v * 4 + 1, none⟩) (by show bg < _; omega)).trans p1
    have q2 := (hal.cell (p := ⟨bg, og + v * 4 + 2, none⟩) (by show bg < _; omega)).trans p2
    have q3 := (hal.cell (p := ⟨bg, og + v * 4 + 3, none⟩) (by show bg < _; omega)).trans p3
    have hs1 : (w.alloc (.cells (stA (Bs.gi o) fa) 54)).heap.size = w.heap.size + 1 := by simp
    have c2 := fun W (hW : Below w.heap.size w W) => needsDone_any o fa g[v] N cN lo hi W (hN.below hW hh) (Nat.le_trans hh hW.size) hn8 (by omega)
    unfold stA at c2
    have HX1 := Lib.hid (show Below w.heap.size w (w.alloc (.cells (stA (Bs.gi o) fa) 54)).drew from hal.drewN 1)
    have C2 := Lib.hid (c2 _ HX1.out)
    have i0 : (0 : Int) ≤ (v : Int) := by omega
    have i1 : (v : Int) < (g.length : Int) := by omega
    rw [hfo] at HV1
    clear HV0 hb1 hal h hfo hbt hN hn8 c2 p0 p1 p2 p3
    generalize (g[v].needs.all fun x => Bs.gi o x.toNat == 0) = nd at *
    generalize F.contains (v : Int) = fc at *
    generalize g[v].time = tv at *
    generalize g[v].pool = pv at *
    generalize g[v].units = uv at *
    generalize g[v].needs.length = nl at *
    generalize Bs.bits F = s at *
    have hnd : nd = true ∨ nd = false := by cases nd <;> simp
    have hfc : fc = true ∨ fc = false := by cases fc <;> simp
    go_enter Try.func28, Try.ntmps28
    go_wp2_with fail
    go_region_law (go_simp; (go_at_call 54; (with_reducible refine (C2.out).mono ?_); rintro e w5 ⟨rfl, hb5⟩; have HB5 := Lib.hid (HX1.out.trans (hb5.mono HX1.out.size)); clear hb5))
    all_goals
      clear C2 e0 e1 e2 e3 e4 e5 e6 e7 e8
      rcases hnd with rfl | rfl
      · rcases hfc with rfl | rfl
        · go_wp2_with fail
          with_reducible refine (C3.out _).mono ?_
          rintro e w6 ⟨rfl, rfl⟩
          go_wp2
          go_ret
          exact ⟨ret_int HV1.out.symm, HB5.out⟩
        · go_wp2_with fail
          with_reducible refine (C3.out _).mono ?_
          rintro e w6 ⟨rfl, rfl⟩
          go_wp2
          go_ret
          exact ⟨ret_int HV1.out.symm, HB5.out⟩
      · go_wp2
        go_ret
        exact ⟨ret_int HV1.out.symm, HB5.out⟩
end Go.Proofs.Ythllincpbiafcaa
