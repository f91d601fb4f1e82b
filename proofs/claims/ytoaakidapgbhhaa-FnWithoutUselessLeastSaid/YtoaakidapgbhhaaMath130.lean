/-
  PLAIN MATHEMATICS of stages: levels are the heads of the graph whose tasks all take 1. No condition.
-/
import Derived.Test.YtoaakidapgbhhaaK11
import Derived.Test.YtoaakidapgbhhaaK2
namespace Go.Proofs.Ytoaakidapgbhhaa.Bs
def unitT (t : T) : T := { t with time := 1 }
def unitG (g : List T) : List T := g.map unitT
theorem unit_len (g : List T) : (unitG g).length = g.length := by simp [unitG]
theorem need_unit (g : List T) (i : Nat) : need (unitG g) i = need g i := by
  unfold need unitG
  rw [List.getElem?_map]
  cases g[i]? <;> rfl
theorem time_unit {g : List T} {i : Nat} (hi : i < g.length) : timeOf (unitG g) i = 1 := by
  unfold timeOf unitG
  rw [List.getElem?_map, List.getElem?_eq_getElem hi]
  rfl
theorem okNext_unit (g : List T) (out : List Int) (i : Nat) : okNext (unitG g) out i = okNext g out i := by unfold okNext; rw [need_unit]
theorem nxt_unit (g : List T) (out : List Int) : nxt (unitG g) out = nxt g out := by
  unfold nxt
  rw [unit_len]
  congr 1
  funext i
  exact okNext_unit g out i
theorem ord_unit (g : List T) : ∀ k out, ord (unitG g) k out = ord g k out := by
  intro k
  induction k with
  | zero => intro out; rfl
  | succ k ih =>
    intro out
    unfold ord
    rw [nxt_unit]
    cases nxt g out with
    | none => rfl
    | some i => exact ih _
theorem top_unit (g : List T) : top (unitG g) = top g := by unfold top; rw [unit_len]; exact ord_unit g _ _
theorem fine_unit {g : List T} (h : fine g = true) : fine (unitG g) = true := by
  unfold fine at h ⊢
  rw [Bool.and_eq_true, List.all_eq_true] at h
  rw [Bool.and_eq_true, List.all_eq_true, unit_len]
  refine ⟨?_, h.2⟩
  intro t ht
  unfold unitG at ht
  rw [List.mem_map] at ht
  obtain ⟨s, hs, rfl⟩ := ht
  have := (validT_iff _ _).1 (h.1 s hs)
  refine (validT_iff _ _).2 ?_
  unfold unitT
  simp only
  exact ⟨by omega, by omega, this.2.2⟩
theorem valid_unit {g : List T} (h : valid g = true) : valid (unitG g) = true := by
  obtain ⟨a, b⟩ := (valid_iff g).1 h
  refine (valid_iff _).2 ⟨fine_unit a, ?_⟩
  unfold Full at b ⊢
  rw [top_unit, unit_len]
  exact b
/-- the stages of all tasks -/
def levC (g : List T) : List Int := headsC (unitG g)
theorem levC_len {g : List T} (hv : valid g = true) : (levC g).length = g.length := by
  have := (headsK_mid (valid_fine (valid_unit hv)) _ (Nat.le_refl (top (unitG g)).length)).len
  rw [unit_len] at this
  exact this
theorem lev_max {g : List T} (hv : valid g = true) {i : Nat} (hi : i < g.length) : gi (levC g) i = maxL ((need g i).map fun x => gi (levC g) x.toNat + 1) := by
  have hu := valid_unit hv
  have hF := valid_fine hv
  have h := (headsK_mid (valid_fine hu) _ (Nat.le_refl (top (unitG g)).length)).isHead (valid_full hu) i (by rw [unit_len]; exact hi)
  rw [need_unit] at h
  refine h.trans (maxL_congr _ _ _ (fun x hx => ?_))
  have hxb := fine_need hF hx
  rw [time_unit (by omega)]
  rfl
theorem lev_law {g : List T} (hv : valid g = true) {i : Nat} (hi : i < g.length) : 0 ≤ gi (levC g) i ∧ (∀ x ∈ need g i, gi (levC g) x.toNat + 1 ≤ gi (levC g) i) ∧ (need g i = [] ∧ gi (levC g) i = 0 ∨ ∃ x ∈ need g i, gi (levC g) i = gi (levC g) x.toNat + 1) := by
  have hm := lev_max hv hi
  refine ⟨by rw [hm]; exact maxL_nonneg _, fun x hx => by rw [hm]; exact le_maxL (List.mem_map_of_mem (f := fun x => gi (levC g) x.toNat + 1) hx), ?_⟩
  by_cases hn : need g i = []
  · left
    refine ⟨hn, ?_⟩
    rw [hm, hn]
    rfl
  · right
    rcases maxL_mem ((need g i).map fun x => gi (levC g) x.toNat + 1) with h | h
    · exfalso
      obtain ⟨x, hx⟩ := List.exists_mem_of_ne_nil _ hn
      have h1 := le_maxL (List.mem_map_of_mem (f := fun x => gi (levC g) x.toNat + 1) hx)
      have hxb := fine_need (valid_fine hv) hx
      have h2 := lev_max hv (i := x.toNat) (by omega)
      have h3 := maxL_nonneg ((need g x.toNat).map fun x => gi (levC g) x.toNat + 1)
      omega
    · rw [List.mem_map] at h
      obtain ⟨x, hx, e⟩ := h
      exact ⟨x, hx, by rw [hm, ← e]⟩
/-- a stage, and what stands before it -/
def stgS (g : List T) (s : Nat) : List Int := pick g.length fun i => gi (levC g) i == (s : Int)
def befS (g : List T) (s : Nat) : List Int := pick g.length fun i => decide (gi (levC g) i < (s : Int))
theorem mem_bef {g : List T} {s i : Nat} : (i : Int) ∈ befS g s ↔ i < g.length ∧ gi (levC g) i < (s : Int) := by
  unfold befS
  rw [mem_pick_nat, decide_eq_true_eq]
theorem mem_stg {g : List T} {s i : Nat} : (i : Int) ∈ stgS g s ↔ i < g.length ∧ gi (levC g) i = (s : Int) := by
  unfold stgS
  rw [mem_pick_nat, beq_iff_eq]
theorem bef_zero {g : List T} (hv : valid g = true) : befS g 0 = [] := by
  rw [List.eq_nil_iff_forall_not_mem]
  intro x hx
  unfold befS at hx
  obtain ⟨j, hj, h, rfl⟩ := (mem_pick _ _ _).1 hx
  rw [decide_eq_true_eq] at h
  have := (lev_law hv hj).1
  omega
theorem ready_stage {g : List T} (hv : valid g = true) (s : Nat) : readyC g (befS g s) = stgS g s := by
  unfold readyC stgS
  apply pick_congr
  intro i hi
  obtain ⟨h0, h1, h2⟩ := lev_law hv hi
  have hF := valid_fine hv
  rw [Bool.eq_iff_iff, beq_iff_eq]
  have hm : (i : Int) ∈ readyC g (befS g s) ↔ okNext g (befS g s) i = true := by
    unfold readyC
    rw [mem_pick_nat]
    exact ⟨fun h => h.2, fun h => ⟨hi, h⟩⟩
  rw [← hm, mem_ready]
  constructor
  · rintro ⟨_, a, b⟩
    rw [mem_bef] at a
    rcases h2 with ⟨_, e⟩ | ⟨x, hx, e⟩
    · omega
    · have hxb := fine_need hF hx
      have := b x hx
      rw [show x = ((x.toNat : Nat) : Int) from by omega, mem_bef] at this
      omega
  · intro e
    refine ⟨hi, by rw [mem_bef]; omega, fun x hx => ?_⟩
    have hxb := fine_need hF hx
    rw [show x = ((x.toNat : Nat) : Int) from by omega, mem_bef]
    have := h1 x hx
    exact ⟨by omega, by omega⟩
theorem bef_vdone {g : List T} (hv : valid g = true) (s : Nat) : vdone g (befS g s) = true := by
  have hF := valid_fine hv
  rw [vdone_iff]
  refine ⟨hv, inG_pick g _, ?_⟩
  intro x hx y hy
  unfold befS at hx
  obtain ⟨j, hj, h, rfl⟩ := (mem_pick _ _ _).1 hx
  rw [decide_eq_true_eq] at h
  rw [Int.toNat_natCast] at hy
  have hyb := fine_need hF hy
  have := (lev_law hv hj).2.1 y hy
  rw [show y = ((y.toNat : Nat) : Int) from by omega, mem_bef]
  exact ⟨by omega, by omega⟩
/-- a stage without tasks is behind all -/
theorem stg_none {g : List T} (hv : valid g = true) {s : Nat} (h : stgS g s = []) : ∀ i, i < g.length → gi (levC g) i < (s : Int) := by
  have h0 : readyC g (befS g s) = [] := by rw [ready_stage hv, h]
  have hlen := ready_none (bef_vdone hv s) h0
  have hd : Dist g.length (befS g s) := ⟨pick_nodup _ _, fun x hx => by unfold befS at hx; obtain ⟨j, hj, _, rfl⟩ := (mem_pick _ _ _).1 hx; omega⟩
  intro i hi
  exact (mem_bef.1 (hd.full hlen i hi)).2
theorem stg_up {g : List T} (hv : valid g = true) {s t : Nat} (h : stgS g s = []) (hst : s ≤ t) : stgS g t = [] := by
  rw [List.eq_nil_iff_forall_not_mem]
  intro x hx
  unfold stgS at hx
  obtain ⟨j, hj, e, rfl⟩ := (mem_pick _ _ _).1 hx
  rw [beq_iff_eq] at e
  have := stg_none hv h j hj
  omega
theorem bef_next {g : List T} {s : Nat} (i : Nat) : (i : Int) ∈ befS g (s + 1) ↔ (i : Int) ∈ befS g s ∨ (i : Int) ∈ stgS g s := by
  rw [mem_bef, mem_bef, mem_stg]
  constructor
  · rintro ⟨a, b⟩
    by_cases h : gi (levC g) i < (s : Int)
    · exact .inl ⟨a, h⟩
    · exact .inr ⟨a, by omega⟩
  · rintro (⟨a, b⟩ | ⟨a, b⟩)
    · exact ⟨a, by omega⟩
    · exact ⟨a, by omega⟩
theorem stg_few {g : List T} (hv : valid g = true) : stgS g g.length = [] := by
  apply Classical.byContradiction
  intro hne
  have hall : ∀ s, s ≤ g.length → stgS g s ≠ [] := fun s hs he => hne (stg_up hv he hs)
  have hgrow : ∀ s, s ≤ g.length + 1 → s ≤ (befS g s).length := by
    intro s
    induction s with
    | zero => intro _; omega
    | succ s ih =>
      intro hs
      have h1 := ih (by omega)
      obtain ⟨x, hx⟩ := List.exists_mem_of_ne_nil _ (hall s (by omega))
      have hx2 := hx
      unfold stgS at hx2
      obtain ⟨j, hj, e, rfl⟩ := (mem_pick _ _ _).1 hx2
      rw [beq_iff_eq] at e
      have hnd : (befS g s ++ [(j : Int)]).Nodup := by
        rw [List.nodup_append]
        refine ⟨pick_nodup _ _, by simp, ?_⟩
        intro a ha b hb eab
        rw [List.mem_singleton] at hb
        subst hb
        subst eab
        have := (mem_bef.1 ha).2
        omega
      have h2 := nodup_le hnd (l' := befS g (s + 1)) (fun y hy => by
        rw [List.mem_append, List.mem_singleton] at hy
        rcases hy with hy | rfl
        · unfold befS at hy
          obtain ⟨i, _, _, rfl⟩ := (mem_pick _ _ _).1 hy
          exact (bef_next i).2 (.inl (by unfold befS; exact hy))
        · exact (bef_next j).2 (.inr hx))
      rw [List.length_append] at h2
      simp only [List.length_cons, List.length_nil] at h2
      omega
  have h1 := hgrow (g.length + 1) (Nat.le_refl _)
  have h2 : (befS g (g.length + 1)).length ≤ g.length := pick_len _ _
  omega
end Go.Proofs.Ytoaakidapgbhhaa.Bs
