/-
  PLAIN MATHEMATICS of graphs of tasks: one task takes longer. No condition.
-/
import Derived.Test.YtihgakbopkaemaaMath10
import Derived.Test.YtihgakbopkaemaaK2
namespace Go.Proofs.Ytihgakbopkaemaa.Bs
def setT : List T → Nat → Int → List T
  | [], _, _ => []
  | t :: r, 0, x => { t with time := x } :: r
  | t :: r, i + 1, x => t :: setT r i x
theorem setT_len : ∀ (g : List T) (i : Nat) (x : Int), (setT g i x).length = g.length
  | [], _, _ => rfl
  | _ :: _, 0, _ => rfl
  | _ :: r, i + 1, x => by simp [setT, setT_len r i x]
theorem setT_get : ∀ (g : List T) (i : Nat) (x : Int) (k : Nat), (setT g i x)[k]? = if k = i then (g[k]?).map (fun t => { t with time := x }) else g[k]?
  | [], i, x, k => by simp [setT]
  | t :: r, 0, x, 0 => by simp [setT]
  | t :: r, 0, x, k + 1 => by simp [setT]
  | t :: r, i + 1, x, 0 => by simp [setT]
  | t :: r, i + 1, x, k + 1 => by simp [setT, setT_get r i x k]
theorem setT_need (g : List T) (i : Nat) (x : Int) (k : Nat) : need (setT g i x) k = need g k := by
  unfold need
  rw [setT_get]
  by_cases e : k = i
  · rw [if_pos e]; cases g[k]? <;> rfl
  · rw [if_neg e]
theorem setT_time (g : List T) (i : Nat) (x : Int) (k : Nat) (hk : k < g.length) : timeOf (setT g i x) k = if k = i then x else timeOf g k := by
  unfold timeOf
  rw [setT_get]
  by_cases e : k = i
  · rw [if_pos e, if_pos e, List.getElem?_eq_getElem hk]; rfl
  · rw [if_neg e, if_neg e]
theorem ord_congr {g g' : List T} (hl : g'.length = g.length) (hn : ∀ k, need g' k = need g k) : ∀ n out, ord g' n out = ord g n out := by
  have h1 : ∀ out, nxt g' out = nxt g out := by
    intro out
    unfold nxt
    rw [hl]
    congr 1
    funext i
    unfold okNext
    rw [hn]
  intro n
  induction n with
  | zero => intro out; rfl
  | succ n ih =>
    intro out
    unfold ord
    rw [h1]
    cases nxt g out with
    | none => rfl
    | some i => exact ih _
theorem top_congr {g g' : List T} (hl : g'.length = g.length) (hn : ∀ k, need g' k = need g k) : top g' = top g := by
  unfold top
  rw [hl]
  exact ord_congr hl hn _ _
theorem users_congr {g g' : List T} (hl : g'.length = g.length) (hn : ∀ k, need g' k = need g k) (i : Nat) : usersOf g' i = usersOf g i := by
  unfold usersOf
  rw [hl]
  congr 1
  funext k
  rw [hn]
theorem longC_le {g : List T} {M : Int} (h0 : 0 ≤ M) (hv : valid g = true) (h : ∀ i, i < g.length → gi (tailsC g) i ≤ M) : longC g ≤ M := by
  have hsp := tailsC_spec (valid_fine hv) (valid_full hv)
  refine maxL_le h0 ?_
  intro x hx
  obtain ⟨i, hi, e⟩ := List.mem_iff_getElem.1 hx
  have := h i (by rw [← hsp.len]; exact hi)
  rwa [gi_at hi, e] at this
theorem tail_le_long {g : List T} (hv : valid g = true) {i : Nat} (hi : i < g.length) : gi (tailsC g) i ≤ longC g := by
  have hsp := tailsC_spec (valid_fine hv) (valid_full hv)
  unfold longC
  rw [gi_at (by rw [hsp.len]; exact hi)]
  exact le_maxL (List.getElem_mem _)
/-- task i takes d longer -/
theorem long_upd {g : List T} (hv : valid g = true) {i : Nat} (hi : i < g.length) {d : Int} (hd : 0 ≤ d) (hv' : valid (setT g i (timeOf g i + d)) = true) :
    longC (setT g i (timeOf g i + d)) = max (longC g) (gi (headsC g) i + gi (tailsC g) i + d) := by
  obtain ⟨g', hg'⟩ : ∃ g', g' = setT g i (timeOf g i + d) := ⟨_, rfl⟩
  have hl : g'.length = g.length := by rw [hg']; exact setT_len _ _ _
  have hn : ∀ k, need g' k = need g k := by intro k; rw [hg']; exact setT_need _ _ _ _
  have htm : ∀ k, k < g.length → timeOf g' k = if k = i then timeOf g i + d else timeOf g k := by intro k hk; rw [hg']; exact setT_time _ _ _ _ hk
  rw [← hg'] at hv' ⊢
  clear hg'
  have hF := valid_fine hv
  have hg := valid_full hv
  have hF' := valid_fine hv'
  have hgg := valid_full hv'
  have hm := headsK_mid hF _ (Nat.le_refl _)
  have hh : ∀ j, j < g.length → gi (headsC g) j = maxL ((need g j).map fun x => gi (headsC g) x.toNat + timeOf g x.toNat) := hm.isHead hg
  have hm' := headsK_mid hF' _ (Nat.le_refl _)
  have hh' : ∀ j, j < g'.length → gi (headsC g') j = maxL ((need g' j).map fun x => gi (headsC g') x.toNat + timeOf g' x.toNat) := hm'.isHead hgg
  have ht := (tailsC_spec hF hg).toTailMid.isTail
  have ht' := (tailsC_spec hF' hgg).toTailMid.isTail
  have hu := users_congr hl hn
  have tge : ∀ k, k < g.length → timeOf g k ≤ timeOf g' k := by
    intro k hk
    rw [htm k hk]
    split
    · rename_i e; subst e; omega
    · omega
  have hA : ∀ j, j < g.length → gi (tailsC g) j ≤ gi (tailsC g') j := by
    refine user_ind hg (fun j => gi (tailsC g) j ≤ gi (tailsC g') j) ?_
    intro j hj ih
    rw [ht j hj, ht' j (by omega), hu]
    have h1 : maxL ((usersOf g j).map (gi (tailsC g))) ≤ maxL ((usersOf g j).map (gi (tailsC g'))) := by
      refine maxL_le (maxL_nonneg _) ?_
      intro x hx
      obtain ⟨u, hu1, rfl⟩ := List.mem_map.1 hx
      have h2 := mem_usersOf.1 hu1
      exact Int.le_trans (ih u h2.1 h2.2) (le_maxL (List.mem_map_of_mem hu1))
    have := tge j hj
    omega
  have hH : ∀ j, j < g.length → gi (headsC g) j ≤ gi (headsC g') j := by
    refine need_ind hg (fun j => gi (headsC g) j ≤ gi (headsC g') j) ?_
    intro j hj ih
    rw [hh j hj, hh' j (by omega), hn]
    refine maxL_le (maxL_nonneg _) ?_
    intro y hy
    obtain ⟨x, hx, rfl⟩ := List.mem_map.1 hy
    have hr := fine_need hF hx
    have h1 := ih x hx
    have h2 := tge x.toNat (by omega)
    have h3 := le_maxL (List.mem_map_of_mem (f := fun x : Int => gi (headsC g') x.toNat + timeOf g' x.toNat) hx)
    omega
  have hC : ∀ j, j < g.length → Reach g j i → gi (tailsC g') j = gi (tailsC g) j := by
    refine user_ind hg (fun j => Reach g j i → gi (tailsC g') j = gi (tailsC g) j) ?_
    intro j hj ih hr
    rw [ht j hj, ht' j (by omega), hu, htm j hj, if_neg (fun e => by subst e; exact hr.irrefl hg)]
    rw [maxL_congr _ (gi (tailsC g')) (gi (tailsC g))]
    intro u hu1
    have h2 := mem_usersOf.1 hu1
    exact ih u h2.1 h2.2 (.via h2.2 hr)
  have hI : gi (tailsC g') i = gi (tailsC g) i + d := by
    rw [ht i hi, ht' i (by omega), hu, htm i hi, if_pos rfl, maxL_congr _ (gi (tailsC g')) (gi (tailsC g))]
    · omega
    · intro u hu1
      have h2 := mem_usersOf.1 hu1
      exact hC u h2.1 (.one h2.2)
  have hM : ∀ j, j < g.length → gi (headsC g) j + gi (tailsC g') j ≤ max (longC g) (gi (headsC g) i + gi (tailsC g) i + d) := by
    refine user_ind hg (fun j => gi (headsC g) j + gi (tailsC g') j ≤ max (longC g) (gi (headsC g) i + gi (tailsC g) i + d)) ?_
    intro j hj ih
    by_cases e : j = i
    · subst e
      rw [hI]
      omega
    · have h1 := ht' j (by omega)
      rw [hu, htm j hj, if_neg e] at h1
      have h2 := sum_le hv j hj
      have h3 := ht j hj
      have h4 := maxL_nonneg ((usersOf g j).map (gi (tailsC g)))
      rcases maxL_mem ((usersOf g j).map (gi (tailsC g'))) with h0 | h0
      · omega
      · obtain ⟨u, hu1, hue⟩ := List.mem_map.1 h0
        have h5 := mem_usersOf.1 hu1
        have h6 := ih u h5.1 h5.2
        have h7 := hh u h5.1
        have h8 := le_maxL (List.mem_map_of_mem (f := fun x : Int => gi (headsC g) x.toNat + timeOf g x.toNat) h5.2)
        simp only [Int.toNat_natCast] at h8
        omega
  have hle : longC g' ≤ max (longC g) (gi (headsC g) i + gi (tailsC g) i + d) := by
    have h0 : 0 ≤ longC g := maxL_nonneg _
    refine longC_le (by omega) hv' ?_
    intro j hj
    have h1 := hM j (by omega)
    have h2 : 0 ≤ gi (headsC g) j := hm.lo j (by omega)
    omega
  have hge1 : longC g ≤ longC g' := by
    refine longC_le (maxL_nonneg _) hv ?_
    intro j hj
    exact Int.le_trans (hA j hj) (tail_le_long hv' (by omega))
  have hge2 : gi (headsC g) i + gi (tailsC g) i + d ≤ longC g' := by
    have h1 := sum_le hv' i (by omega)
    have h2 := hH i hi
    omega
  omega
theorem time_at' {g : List T} {i : Nat} (hi : i < g.length) {d : Int} : setT g i (g[i].time + d) = setT g i (timeOf g i + d) := by rw [time_at hi]
/-- what the law of a longer task wants -/
theorem more_law {g : List T} {n : Int} (h : n = longL g) (h0 : ¬ n < 0) : g.length ≤ 8 ∧ n ≤ 200 ∧ 0 ≤ n ∧ ∀ i (hi : i < g.length), 1 ≤ g[i].time ∧ g[i].time ≤ 20 ∧ ∀ d : Int, 0 ≤ d →
    valid (setT g i (g[i].time + d)) = true → longL (setT g i (g[i].time + d)) = max n (gi (headsC g) i + gi (tailsC g) i + d) ∧ gi (headsC g) i + gi (tailsC g) i ≤ n := by
  have hv : valid g = true := by
    cases hv : valid g
    · rw [longL_no hv] at h; omega
    · rfl
  have hF := valid_fine hv
  have h8 := fine_len hF
  rw [longL_yes hv] at h
  have hsp := tailsC_spec hF (valid_full hv)
  have htop := (top_dist g).le
  have hn : longC g ≤ 200 := longC_le (by omega) hv fun i hi => by have := hsp.hi i hi; omega
  refine ⟨h8, by omega, by omega, ?_⟩
  intro i hi
  have ti := fine_time hF hi
  rw [← time_at hi]
  refine ⟨ti.1, ti.2, ?_⟩
  intro d hd hv'
  rw [longL_yes hv', long_upd hv hi hd hv', h]
  exact ⟨rfl, sum_le hv i hi⟩
theorem long_nonneg {g : List T} (hv : valid g = true) : ¬ longL g < 0 := by
  rw [longL_yes hv]
  have : 0 ≤ longC g := maxL_nonneg _
  omega
/-- what the laws of slack want -/
theorem slack_law {g : List T} {L : List Int} (h : L = slackL g) (hl : L.length = g.length) (h0 : 0 < g.length) : ¬ longL g < 0 ∧ ∀ i (hi : i < L.length), 0 ≤ L[i] ∧ L[i] ≤ longL g ∧ gi (headsC g) i + gi (tailsC g) i + L[i] = longL g := by
  have hv : valid g = true := by
    cases hv : valid g
    · rw [slackL_no hv] at h; subst h; simp at hl; omega
    · rfl
  refine ⟨long_nonneg hv, ?_⟩
  intro i hi
  have hi' : i < g.length := by omega
  have e := slack_at hv hi'
  rw [← h, gi_at hi] at e
  have h1 := sum_le hv i hi'
  have hF := valid_fine hv
  have hm := headsK_mid hF _ (Nat.le_refl _)
  have h2 : 0 ≤ gi (headsC g) i := hm.lo i hi'
  have ht := (tailsC_spec hF (valid_full hv)).toTailMid.isTail i hi'
  have h3 := fine_time hF hi'
  have h4 := maxL_nonneg ((usersOf g i).map (gi (tailsC g)))
  rw [longL_yes hv]
  omega
end Go.Proofs.Ytihgakbopkaemaa.Bs
