/-
  PLAIN MATHEMATICS of graphs of tasks: what the laws of needs and users say. No condition.
-/
import Derived.Test.YtiokblodjhmjmabMath2
import Derived.Test.YtiokblodjhmjmabMath6
namespace Go.Proofs.Ytiokblodjhmjmab.Bs
theorem needsA_yes {g : List T} {z : Int} (hv : valid g = true) (h0 : 0 ≤ z) (h1 : z < g.length) : needsA g z = needs2 g z.toNat := by unfold needsA; rw [if_pos ⟨hv, h0, h1⟩]
theorem usersA_yes {g : List T} {z : Int} (hv : valid g = true) (h0 : 0 ≤ z) (h1 : z < g.length) : usersA g z = users2 g z.toNat := by unfold usersA; rw [if_pos ⟨hv, h0, h1⟩]
theorem needs2_iff {g : List T} {v i : Nat} (hi : i < g.length) : (needs2 g v).contains (i : Int) = reachB g v i := by
  rw [Bool.eq_iff_iff]
  have := mem_pick_nat g.length (reachB g v) i
  unfold needs2
  simp only [List.contains_eq_mem, decide_eq_true_eq, this]
  exact ⟨fun h => h.2, fun h => ⟨hi, h⟩⟩
theorem users2_iff {g : List T} {v i : Nat} (hi : i < g.length) : (users2 g v).contains (i : Int) = reachB g i v := by
  rw [Bool.eq_iff_iff]
  have := mem_pick_nat g.length (fun j => reachB g j v) i
  unfold users2
  simp only [List.contains_eq_mem, decide_eq_true_eq, this]
  exact ⟨fun h => h.2, fun h => ⟨hi, h⟩⟩
theorem reach_self {g : List T} (hv : valid g = true) (v : Nat) : reachB g v v = false := by
  rw [Bool.eq_false_iff]
  intro h
  exact (reachB_iff.1 h).irrefl (valid_full hv)
/-- what the law of needs wants -/
theorem needs_law {g : List T} {L : List Int} {v : Nat} (h : L = needsA g v) (hv : valid g = true) (hz : v < g.length) : L.contains (v : Int) = false ∧
    (∀ i : Nat, i < g.length → (g[v].needs.contains (i : Int) || g[v].needs.any (fun x => (needsA g x).contains (i : Int))) = L.contains (i : Int)) := by
  rw [needsA_yes hv (by omega) (by omega), Int.toNat_natCast] at h
  subst h
  have hF := valid_fine hv
  refine ⟨by rw [needs2_iff hz]; exact reach_self hv v, ?_⟩
  intro i hi
  rw [needs2_iff hi, Bool.eq_iff_iff, reachB_iff, Reach_iff, need_at hz]
  simp only [Bool.or_eq_true, List.any_eq_true, List.contains_eq_mem, decide_eq_true_eq]
  constructor
  · rintro (h | ⟨x, hx, h⟩)
    · exact .inl h
    · rw [← need_at hz] at hx
      have hr := fine_need hF hx
      rw [needsA_yes hv hr.1 hr.2] at h
      have h2 := needs2_iff (g := g) (v := x.toNat) hi
      simp only [List.contains_eq_mem, h, decide_true] at h2
      exact .inr ⟨x.toNat, by rw [← need_at hz, Int.toNat_of_nonneg hr.1]; exact hx, reachB_iff.1 h2.symm⟩
  · rintro (h | ⟨k, hk, h⟩)
    · exact .inl h
    · rw [← need_at hz] at hk
      have hr := fine_need hF hk
      refine .inr ⟨(k : Int), by rw [← need_at hz]; exact hk, ?_⟩
      rw [needsA_yes hv hr.1 hr.2, Int.toNat_natCast]
      have h2 := needs2_iff (g := g) (v := k) hi
      rw [reachB_iff.2 h] at h2
      simpa using h2
theorem users_law {g : List T} {L : List Int} {v : Nat} (h : L = usersA g v) (hv : valid g = true) (hz : v < g.length) : L.contains (v : Int) = false ∧
    (∀ i : Nat, i < g.length → L.contains (i : Int) = (needsA g i).contains (v : Int)) := by
  rw [usersA_yes hv (by omega) (by omega), Int.toNat_natCast] at h
  subst h
  refine ⟨by rw [users2_iff hz]; exact reach_self hv v, ?_⟩
  intro i hi
  rw [users2_iff hi, needsA_yes hv (by omega) (by omega), Int.toNat_natCast, needs2_iff hz]
/-- in the order: users behind, needs before -/
theorem order_law {g : List T} {L N O : List Int} {v : Nat} (h : L = usersA g v) (hN : N = needsA g v) (hO : O = topL g) (hv : valid g = true) (hz : v < g.length) :
    O.any (fun x => x == (v : Int)) = true ∧ ∀ k (hk : k < O.length), (L.contains O[k] = true → (O.take k).any (fun x => x == (v : Int)) = true) ∧ (N.contains O[k] = true → (O.take k).any (fun x => x == (v : Int)) = false) := by
  have htop : topL g = top g := by unfold topL; rw [hv]; rfl
  rw [htop] at hO
  rw [usersA_yes hv (by omega) (by omega), Int.toNat_natCast] at h
  rw [needsA_yes hv (by omega) (by omega), Int.toNat_natCast] at hN
  subst h
  subst hN
  subst hO
  have hg := valid_full hv
  obtain ⟨p, hp, he⟩ := List.mem_iff_getElem.1 ((top_dist g).full hg v hz)
  constructor
  · rw [List.any_eq_true]
    exact ⟨(v : Int), (top_dist g).full hg v hz, by simp⟩
  · intro k hk
    have r := top_range (g := g) hk
    obtain ⟨x, hx⟩ : ∃ x : Nat, (top g)[k] = (x : Int) := ⟨(top g)[k].toNat, by omega⟩
    have hxl : x < g.length := by omega
    rw [hx]
    constructor
    · intro hu
      rw [users2_iff hxl, reachB_iff] at hu
      obtain ⟨q, hq, hqk, hqe⟩ := hu.before k hk hx
      rw [List.any_eq_true]
      refine ⟨(v : Int), ?_, by simp⟩
      rw [← hqe]
      exact List.mem_iff_getElem.2 ⟨q, by rw [List.length_take]; omega, by simp⟩
    · intro hn
      rw [needs2_iff hxl, reachB_iff] at hn
      obtain ⟨q, hq, hqk, hqe⟩ := hn.before p hp he
      have hqk' : q = k := top_inj hq hk (by rw [hqe, hx])
      rw [List.any_eq_false]
      intro y hy hye
      have hye : y = (v : Int) := by simpa using hye
      obtain ⟨j, hj, hje⟩ := List.mem_iff_getElem.1 hy
      rw [List.length_take] at hj
      rw [List.getElem_take] at hje
      have := top_inj (g := g) (i := j) (by omega) hp (by rw [hje, hye, he])
      omega
end Go.Proofs.Ytiokblodjhmjmab.Bs
