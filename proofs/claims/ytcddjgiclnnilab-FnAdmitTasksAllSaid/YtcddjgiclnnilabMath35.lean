/-
  PLAIN MATHEMATICS of graphs of tasks: nothing else is admitted. No condition.
-/
import Derived.Test.YtcddjgiclnnilabMath33
namespace Go.Proofs.Ytcddjgiclnnilab.Bs
def nowX (r L : List Int) (x : Int) (n : Nat) : List Int := pick n fun j => r.contains (j : Int) || L.contains (j : Int) || x == (j : Int)
theorem nowX_succ (r L : List Int) (x : Int) (k : Nat) : nowX r L x (k + 1) = if (r.contains (k : Int) || L.contains (k : Int) || x == (k : Int)) then nowX r L x k ++ [(k : Int)] else nowX r L x k := by
  unfold nowX
  rw [pick_succ]
theorem adm_prefix {g : List T} {m r : List Int} {wk : Int} {l : List Int} : ∀ j k, k + j = l.length → ∃ s, admC g m r wk l = admK g m r wk l k ++ s := by
  intro j
  induction j with
  | zero => intro k hk; exact ⟨[], by rw [List.append_nil]; unfold admC; rw [show k = l.length from by omega]⟩
  | succ j ih =>
    intro k hk
    have hlt : k < l.length := by omega
    obtain ⟨s, hs⟩ := ih (k + 1) (by omega)
    rw [hs, admK_succ hlt]
    unfold admS
    split
    · exact ⟨[l[k]] ++ s, by simp⟩
    · exact ⟨s, rfl⟩
theorem nowX_perm {g : List T} {r L : List Int} {x : Int} (hn : (r ++ L).Nodup) (hx : x ∉ r ++ L) (hb : ∀ y ∈ r ++ L, 0 ≤ y ∧ y < g.length) (hxb : 0 ≤ x ∧ x < g.length) : (nowX r L x g.length).Perm ((r ++ L) ++ [x]) := by
  unfold nowX
  rw [List.perm_ext_iff_of_nodup (pick_nodup _ _) (List.nodup_append.2 ⟨hn, by simp, fun a ha b hb e => by rw [List.mem_singleton] at hb; subst hb; subst e; exact hx ha⟩)]
  intro y
  rw [mem_pick, List.mem_append, List.mem_append, List.mem_singleton]
  constructor
  · rintro ⟨j, _, h, rfl⟩
    rw [Bool.or_eq_true, Bool.or_eq_true, beq_iff_eq] at h
    rcases h with (h | h) | h
    · exact .inl (.inl (by simpa using h))
    · exact .inl (.inr (by simpa using h))
    · exact .inr h.symm
  · intro h
    have hb2 : 0 ≤ y ∧ y < g.length := by
      rcases h with h | h
      · exact hb y (List.mem_append.2 h)
      · rw [h]; exact hxb
    refine ⟨y.toNat, by omega, ?_, by omega⟩
    rw [show ((y.toNat : Nat) : Int) = y from by omega, Bool.or_eq_true, Bool.or_eq_true, beq_iff_eq]
    rcases h with (h | h) | h
    · exact .inl (.inl (by simpa using h))
    · exact .inl (.inr (by simpa using h))
    · exact .inr h.symm
theorem adm_all {g : List T} {m r l L : List Int} {wk : Int} (hL : L = admL g m r l wk) (h0 : ¬ L.length = 0) (hne : ¬ ((r.length : Int) + (L.length : Int) = wk)) (i : Nat) (hi : i < l.length) (hx : L.contains l[i] = false) : runOk g m (nowX r L l[i] g.length) = false := by
  obtain ⟨hv, hC⟩ := admL_some hL h0
  obtain ⟨h1, h2, h3, h4⟩ := admV_iff.1 hv
  obtain ⟨a1, a2, a3, a4⟩ := runOk_iff.1 h1
  have hF := valid_fine a1
  obtain ⟨m1, _, m3, _⟩ := adm_now hL h0
  have eL : L = admK g m r wk l l.length := hC
  have hra : asc r = true := by unfold inG at a3; rw [Bool.and_eq_true] at a3; exact a3.1
  have hid := idle_nodup (r := r) l.length (Nat.le_refl _) h4
  rw [List.take_length] at hid
  have hLn : L.Nodup := by rw [eL]; exact adm_nodup h4 _ (Nat.le_refl _)
  have hLb : ∀ y ∈ L, 0 ≤ y ∧ y < g.length := fun y hy => by have := allInB_mem h3 (m1 y hy); omega
  have hmem : l[i] ∈ l := List.getElem_mem hi
  have hxb : 0 ≤ l[i] ∧ l[i] < g.length := by have := allInB_mem h3 hmem; omega
  have hxr : l[i] ∉ r := hid.2 _ hmem
  have hxL : l[i] ∉ L := by simpa using hx
  obtain ⟨s, hs⟩ := adm_prefix (g := g) (m := m) (r := r) (wk := wk) (l := l) (l.length - i) i (by omega)
  rw [← hC] at hs
  obtain ⟨s2, hs2⟩ := adm_prefix (g := g) (m := m) (r := r) (wk := wk) (l := l) (l.length - (i + 1)) (i + 1) (by omega)
  rw [← hC] at hs2
  cases hno : runOk g m (nowX r L l[i] g.length)
  · rfl
  · obtain ⟨_, _, _, hfit⟩ := runOk_iff.1 hno
    have hp := nowX_perm (g := g) (r := r) (L := L) (x := l[i]) (List.nodup_append.2 ⟨asc_nodup hra, hLn, fun a ha b hb e => hid.2 b (m1 b hb) (e ▸ ha)⟩) (by rw [List.mem_append]; rintro (h | h); exact hxr h; exact hxL h) (fun y hy => by rw [List.mem_append] at hy; exact hy.elim (inG_mem a3 y) (hLb y)) hxb
    have e : ∀ p, usedC g (nowX r L l[i] g.length) p = usedC g ((r ++ L) ++ [l[i]]) p := fun p => sumZ_perm (hp.map _)
    have hok : admOk g m r wk (admK g m r wk l i) l[i] = true := by
      unfold admOk
      rw [Bool.and_eq_true, decide_eq_true_eq]
      constructor
      · have : L.length = (admK g m r wk l i).length + s.length := by rw [hs, List.length_append]
        omega
      · rw [fitsC_iff, e, e, e] at hfit
        rw [fitsC_iff]
        have hsb : ∀ p, 0 ≤ usedC g s p := fun p => (usedC_bd hF p s (fun y hy => hLb y (by rw [hs]; exact List.mem_append.2 (.inr hy)))).1
        have e2 : ∀ p, usedC g ((r ++ L) ++ [l[i]]) p = usedC g (r ++ (admK g m r wk l i ++ [l[i]])) p + usedC g s p := fun p => by
          rw [hs]
          simp only [usedC_append]
          omega
        have := hsb 0; have := hsb 1; have := hsb 2
        have := e2 0; have := e2 1; have := e2 2
        omega
    have hk := admK_yes hi hok
    rw [hk] at hs2
    exact absurd (by rw [hs2]; simp) hxL
end Go.Proofs.Ytcddjgiclnnilab.Bs
