/-
  PLAIN MATHEMATICS: with enough of everything tasks begin at once. No condition.
-/
import Derived.Test.YtgpmnfnliifegaaK32
namespace Go.Proofs.Ytgpmnfnliifegaa.Bs
def m8 : List Int := [8, 8, 8]
theorem used_two {g : List T} (h2 : ∀ i, i < g.length → unitsOf g i ≤ 2) (p : Int) : ∀ l : List Int, usedC g l p ≤ 2 * (l.length : Int) := by
  intro l
  induction l with
  | nil => simp [usedC, sumZ]
  | cons x r ih =>
    have e : usedC g (x :: r) p = unitF g p x + usedC g r p := rfl
    have hu : unitF g p x ≤ 2 := by
      unfold unitF
      split
      · by_cases hx : x.toNat < g.length
        · exact h2 _ hx
        · unfold unitsOf
          rw [List.getElem?_eq_none (by omega)]
          decide
      · decide
    rw [e, List.length_cons]
    omega
theorem adm_whole {g : List T} (h2 : ∀ i, i < g.length → unitsOf g i ≤ 2) {r l : List Int} (h4 : r.length + l.length ≤ 4) : admC g m8 r 4 l = l := by
  have key : ∀ k, k ≤ l.length → admK g m8 r 4 l k = l.take k := by
    intro k
    induction k with
    | zero => intro _; rfl
    | succ k ih =>
      intro hk
      have hlt : k < l.length := by omega
      rw [admK_yes hlt, ih (by omega), List.take_succ_eq_append_getElem hlt]
      rw [ih (by omega)]
      unfold admOk
      rw [Bool.and_eq_true, decide_eq_true_eq]
      have hlen : (l.take k).length = k := by rw [List.length_take]; omega
      refine ⟨by omega, ?_⟩
      rw [fitsC_iff]
      have hu := fun p => used_two h2 p (r ++ (l.take k ++ [l[k]]))
      have hl : ((r ++ (l.take k ++ [l[k]])).length : Int) ≤ 4 := by
        rw [List.length_append, List.length_append, hlen]
        simp only [List.length_cons, List.length_nil]
        omega
      have e0 : giZ m8 0 = 8 := rfl
      have e1 : giZ m8 1 = 8 := rfl
      have e2 : giZ m8 2 = 8 := rfl
      have a := hu 0
      have b := hu 1
      have c := hu 2
      omega
  have := key l.length (Nat.le_refl _)
  rw [List.take_length] at this
  exact this
theorem plan_heads {g : List T} (hv : valid g = true) (h4 : g.length ≤ 4) (h2 : ∀ i, i < g.length → unitsOf g i ≤ 2) : planL g m8 4 = headsC g := by
  have hF := valid_fine hv
  have hc : canV g m8 4 = true := canV_iff.2 ⟨hv, by decide, by omega, by omega⟩
  have hst := plan_valid hc
  have hcl := plan_clk hc
  have hbe := (plan_end hc).2.1
  have hend := (plan_end hc).1
  have hsum := sumT_b2 hF
  have hmid := headsK_mid hF _ (Nat.le_refl (top g).length)
  have hhl : (headsC g).length = g.length := hmid.len
  have hih : IsHead g (gi (headsC g)) := hmid.isHead (valid_full hv)
  rw [planL_yes hc]
  have key : ∀ i, i < g.length → giZ (planC g m8 4) i = gi (headsC g) i := by
    refine need_ind (valid_full hv) _ ?_
    intro i hi ih
    have hge := head_le hst i hi
    apply Classical.byContradiction
    intro hne
    obtain ⟨h0, h1, _⟩ := heads_law (g := g) (L := headsC g) (by rw [hv]; rfl) hhl i hi
    obtain ⟨s, hs⟩ : ∃ s : Nat, gi (headsC g) i = s := ⟨(gi (headsC g) i).toNat, by omega⟩
    rw [hs] at hge hne h1
    have he := end_ge (g := g) (S := planC g m8 4) hi
    have ht := time_b hF i
    have hs200 : s < 200 := by omega
    have hj := PJ.all hc s (by omega)
    have h200 : giZ (planK g m8 4 s) i = 200 := by
      apply Classical.byContradiction
      intro hb
      have e : giZ (planC g m8 4) i = _ := plan_keep hc (show s ≤ 200 by omega) (Nat.le_refl _) hi hb
      rcases hj.pi.st i hi with a | a
      · exact hb a
      · omega
    have hready : (i : Int) ∈ readyC g (planDone g (planK g m8 4 s) s) := by
      rw [mem_ready]
      refine ⟨hi, fun hd => ?_, fun y hy => ?_⟩
      · have := (mem_planDone.1 hd).2
        omega
      · have hyb := fine_need hF hy
        have e1 := ih y hy
        have hle : gi (headsC g) y.toNat + timeOf g y.toNat ≤ gi (headsC g) i := by
          rw [hih i hi]
          exact le_maxL (List.mem_map_of_mem (f := fun x => gi (headsC g) x.toNat + timeOf g x.toNat) hy)
        have hty := fine_time hF (i := y.toNat) (by omega)
        obtain ⟨z, rfl⟩ : ∃ z : Nat, y = z := ⟨y.toNat, by omega⟩
        rw [Int.toNat_natCast] at e1 hle hty
        have hor := plan_or hc (k := s) (i := z) (200 - s) (by omega)
        rw [show s + (200 - s) = 200 from by omega] at hor
        have e2 : giZ (planK g m8 4 200) z = gi (headsC g) z := e1
        refine mem_planDone.2 ⟨by omega, ?_⟩
        rcases hor with a | a
        · omega
        · omega
    have hlist : (i : Int) ∈ planList g (planK g m8 4 s) s := planList_mem.2 ⟨hready, by rw [Int.toNat_natCast]; exact h200⟩
    obtain ⟨o1, o2⟩ := planOrd_ok hF (planK g m8 4 s) (s : Int)
    have hord := (o2 _).2 hlist
    have hnd : (runAt g (planK g m8 4 s) s ++ planOrd g (planK g m8 4 s) s).Nodup := by
      rw [List.nodup_append]
      refine ⟨pick_nodup _ _, o1, ?_⟩
      intro a ha b hb e
      subst e
      exact hj.pi.apart hs200 a ((o2 a).1 hb) ha
    have hd : Dist g.length (runAt g (planK g m8 4 s) s ++ planOrd g (planK g m8 4 s) s) := by
      refine ⟨hnd, fun x hx => ?_⟩
      rw [List.mem_append] at hx
      rcases hx with hx | hx
      · exact runAt_in x hx
      · exact planList_in ((o2 x).1 hx)
    have hdl := hd.le
    rw [List.length_append] at hdl
    have hall : planNext g m8 4 (planK g m8 4 s) s = planOrd g (planK g m8 4 s) s := adm_whole h2 (by omega)
    have h3 : giZ (planK g m8 4 (s + 1)) i = _ := step_at (g := g) (m := m8) (S := planK g m8 4 s) (wk := 4) (now := s) hF hj.pi.len i
    rw [hall, if_pos hord] at h3
    have e : giZ (planC g m8 4) i = _ := plan_keep hc (show s + 1 ≤ 200 by omega) (Nat.le_refl _) hi (by omega)
    omega
  have hpl : (planC g m8 4).length = g.length := clk_len hcl
  refine list_giZ (by omega) (fun i hi => ?_)
  rw [key i (by omega), gi_at (by omega), giZ_at (by omega)]
theorem heads_many {g : List T} {L : List Int} (h : L = if valid g then headsC g else []) (hl : L.length = g.length) (h0 : 0 < g.length) : valid g = true ∧ (planL g m8 4).length = g.length ∧ (∀ i, i < g.length → giZ L i ≤ giZ (planL g m8 4) i) ∧ (g.length ≤ 4 → (∀ i, i < g.length → unitsOf g i ≤ 2) → planL g m8 4 = L) := by
  obtain ⟨hv, hL⟩ := valid_of_len h hl h0
  have hc : canV g m8 4 = true := canV_iff.2 ⟨hv, by decide, by omega, by omega⟩
  have hst := planL_valid hc
  have hpl : (planL g m8 4).length = g.length := clk_len (stV_iff.1 hst).2.1
  refine ⟨hv, hpl, fun i hi => ?_, fun a b => ?_⟩
  · have := head_le hst i hi
    rw [giZ_at (by omega), ← gi_at (by omega), hL]
    exact this
  · rw [plan_heads hv a b, hL]
end Go.Proofs.Ytgpmnfnliifegaa.Bs
