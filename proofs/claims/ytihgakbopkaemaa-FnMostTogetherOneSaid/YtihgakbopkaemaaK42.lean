/-
  MERGED TEXTS: W15 W19 W20 W21 W22.
-/
import Derived.Test.YtihgakbopkaemaaK8
import Derived.Deep.RegionWith
import Derived.Test.YtihgakbopkaemaaK1
import Derived.Deep.RegionHeld3
import Derived.Deep.RegionLawGrows
namespace Go.Proofs.Ytihgakbopkaemaa
open Go.RowKit
theorem Blk.far {w : World} {g : Nat} {t : TypeId} {cs : Array Value} (h : Blk w g t cs) {p : Addr} (hp : g ≠ p.block) (u : Value) : Blk (w.setCell p u) g t cs := (Below.heap_setCell w p u g hp).trans h
end Go.Proofs.Ytihgakbopkaemaa
namespace Go.Proofs.Ytihgakbopkaemaa
open Go.RowKit
def slackC (g : List Bs.T) : List Int := (List.range g.length).map fun i => longC g - Bs.gi (Bs.headsC g) i - Bs.gi (Bs.tailsC g) i
def slackL (g : List Bs.T) : List Int := if Bs.valid g then slackC g else []
theorem slackL_no {g : List Bs.T} (h : Bs.valid g = false) : slackL g = [] := by unfold slackL; rw [h]; rfl
theorem slackL_yes {g : List Bs.T} (h : Bs.valid g = true) : slackL g = slackC g := by unfold slackL; rw [h]; rfl
theorem SlackTimes_len (g : List Bs.T) : (slackL g).length ≤ 1000 := by
  unfold slackL
  split
  · rename_i h
    have h1 := Bs.fine_len (valid_fine h)
    simp [slackC]
    omega
  · simp
/-- what is known of heads, tails and the longest time -/
theorem bounds_of {g : List Bs.T} (hf : Bs.valid g = true) : (Bs.headsC g).length = g.length ∧ (Bs.tailsC g).length = g.length ∧ 0 ≤ longC g ∧ longC g ≤ 160 ∧ ∀ i, i < g.length → 0 ≤ Bs.gi (Bs.headsC g) i ∧ Bs.gi (Bs.headsC g) i ≤ 160 ∧ 0 ≤ Bs.gi (Bs.tailsC g) i ∧ Bs.gi (Bs.tailsC g) i ≤ 160 := by
  have h8 := Bs.fine_len (valid_fine hf)
  have ht := (Bs.top_dist g).le
  have h1 := Bs.headsK_mid (valid_fine hf) _ (Nat.le_refl _)
  have h2 := Bs.tailsC_spec (valid_fine hf) (valid_full hf)
  have h3 : ∀ i, i < g.length → 0 ≤ Bs.gi (Bs.tailsC g) i ∧ Bs.gi (Bs.tailsC g) i ≤ 160 := by
    intro i hi
    have a := h2.lo i hi
    have b := h2.hi i hi
    omega
  refine ⟨h1.len, h2.len, Bs.maxL_nonneg _, Bs.maxL_le (by omega) ?_, ?_⟩
  · intro y hy
    obtain ⟨i, hi, rfl⟩ := List.mem_iff_getElem.1 hy
    have := h3 i (by rw [← h2.len]; exact hi)
    unfold Bs.gi at this
    rw [List.getD_eq_getElem?_getD, List.getElem?_eq_getElem hi] at this
    exact this.2
  · intro i hi
    have a := h1.lo i hi
    have b := h1.hi i hi
    have e : Bs.headsC g = Bs.headsK g (Bs.top g).length := rfl
    rw [e]
    have := h3 i hi
    omega
theorem RI.gi {w : World} {lo hi : Nat} {A : Option Addr} {l : List Int} (h : RI w lo hi A l) {k : Nat} (hk : k < l.length) : ∃ b o, A = some ⟨b, o, none⟩ ∧ lo ≤ b ∧ b < hi ∧ w.cell? ⟨b, o + k, none⟩ = some (.int .i64 (Bs.gi l k)) := by
  obtain ⟨b, o, e, h1, h2, hc⟩ := h k hk
  refine ⟨b, o, e, h1, h2, ?_⟩
  rw [hc]
  unfold Bs.gi
  rw [List.getD_eq_getElem?_getD, List.getElem?_eq_getElem hk]
  rfl
def slackTo (L : Int) (h t : List Int) (n k : Nat) : List Int := (List.range n).map fun i => if i < k then L - Bs.gi h i - Bs.gi t i else 0
theorem slackTo_zero (L : Int) (h t : List Int) (n : Nat) : slackTo L h t n 0 = List.replicate n 0 := by
  refine List.ext_getElem (by simp [slackTo]) ?_
  intro i h1 h2
  simp [slackTo]
theorem slackTo_full (L : Int) (h t : List Int) (n : Nat) : slackTo L h t n n = (List.range n).map fun i => L - Bs.gi h i - Bs.gi t i := by
  refine List.ext_getElem (by simp [slackTo]) ?_
  intro i h1 h2
  simp [slackTo] at h1 ⊢
  intro h3
  omega
theorem slackTo_set (L : Int) (h t : List Int) (n k : Nat) : (slackTo L h t n k).set k (L - Bs.gi h k - Bs.gi t k) = slackTo L h t n (k + 1) := by
  refine List.ext_getElem (by simp [slackTo]) ?_
  intro i h1 h2
  rw [List.getElem_set]
  simp only [slackTo, List.getElem_map, List.getElem_range]
  by_cases e : k = i
  · subst e
    rw [if_pos rfl, if_pos (by omega)]
  · rw [if_neg e]
    by_cases e2 : i < k
    · rw [if_pos e2, if_pos (by omega)]
    · rw [if_neg e2, if_neg (by omega)]
theorem slackTo_len (L : Int) (h t : List Int) (n k : Nat) : (slackTo L h t n k).length = n := by simp [slackTo]
end Go.Proofs.Ytihgakbopkaemaa
namespace Go.Proofs.Ytihgakbopkaemaa
open Go.RowKit
/-- 'out = append(out, q)' in a region that draws its order -/
theorem step_push_z {ops : Array Oper} {o : Oper} {a : Act} {w : World} {K : Act → World → Prop} {Q : Exit → Act → World → Prop} {E : Prop} (hgd : o.guard = none) (s x : Operand)
    (ho : o.op = .call { callee := .builtin .append, args := #[s, x], argTypes := #[24, 24] })
    (B : Nat) (A : Option Addr) (c : Nat) (l : List Int) (q : Int) (hs : a.eval s = .slice A l.length c) (hown : OZ w B A c l)
    (g cc : Nat) (hx : a.eval x = .slice (some ⟨g, 0, none⟩) 1 cc) (hc : w.cell? ⟨g, 0, none⟩ = some (.int .i64 q)) (hlen : l.length ≤ 1000000000) (hB : B ≤ w.heap.size)
    (h : ∀ A' c' w', OI w' B A' c' (l ++ [q]) → Below B w w' → K (a.put o.dst (.slice A' (l.length + 1) c')) w') : if Region.wanted o (yielded ops a.tmps) = true then Oper.wp Try.prog o a w K Q else E := by
  obtain ⟨i0, hi0, hz0, hz1, hz2⟩ := info_parts Try.info3
  have hnews : ∀ j u, [Value.int .i64 q][j]? = some u → w.cell? ((⟨g, 0, none⟩ : Addr).add j) = some u := by
    intro j u hj
    cases j with
    | zero =>
      simp only [List.getElem?_cons_zero, Option.some.injEq] at hj
      subst hj
      rw [Addr.add_lit]
      exact hc
    | succ j => simp at hj
  have hone : ∀ u ∈ [Value.int .i64 q], u.oneCell' = true := by
    intro u hu
    simp only [List.mem_singleton] at hu
    subst hu
    rfl
  rcases hown with ⟨rfl, rfl⟩ | hown
  · refine step_append_grows hgd s x 24 ho 3 i0 (.int .i64 0) 1 8 Try.underlying24 hi0 hz0 hz1 hz2 rfl (by decide) A 0 0 [] hs (fun _ => ⟨rfl, rfl⟩) rfl (fun _ _ j u hu => by simp at hu) ⟨g, 0, none⟩ 1 cc [.int .i64 q] hx rfl hnews hone (by omega) (by unfold maxLen; omega) (by omega) ?_
    intro v' w' hown' hg
    have h1 : w'.ownsRow w.heap.size 3 1 v' ([] ++ [q] : List Int).length (([] ++ [q] : List Int).map (Value.int .i64)) := hown'
    obtain ⟨A', c', hv, ho'⟩ := OI.form h1
    rw [hv]
    exact h A' c' w' (ho'.base hB) ((Below.refl B w).grown hg hB (fun k hk => by cases hk))
  · rw [if_pos (by simp [Region.wanted, hgd])]
    refine wp_append_own w s x 24 ho B 3 i0 (.int .i64 0) 1 8 Try.underlying24 hi0 hz0 hz1 hz2 rfl (by decide) _ _ _ hs hown ⟨g, 0, none⟩ 1 cc [.int .i64 q] hx rfl hnews hone (by unfold maxLen; omega) (by omega) hB ?_
    intro v' w' hown' hg _
    have h1 : w'.ownsRow B 3 1 v' (l ++ [q]).length ((l ++ [q]).map (Value.int .i64)) := by
      rw [List.length_append, List.map_append]
      exact hown'
    obtain ⟨A', c', hv, ho'⟩ := OI.form h1
    rw [hv, List.length_append]
    exact h A' c' w' ho' ((Below.refl B w).grown hg hB (fun k hk => (hown.lt k hk).1))

end Go.Proofs.Ytihgakbopkaemaa
namespace Go.Proofs.Ytihgakbopkaemaa
open Go.RowKit
def firstI (n : Nat) (p : Nat → Bool) : Int := match (List.range n).find? p with | none => -1 | some i => (i : Int)
theorem firstI_yes {n : Nat} {p : Nat → Bool} {k : Nat} (hk : k < n) (h : ∀ j, j < k → p j = false) (hp : p k = true) : firstI n p = k := by
  unfold firstI; rw [Bs.find_first hk h hp]
theorem firstI_no {n : Nat} {p : Nat → Bool} (h : ∀ j, j < n → p j = false) : firstI n p = -1 := by
  unfold firstI
  rw [List.find?_eq_none.2]
  intro j hj
  rw [h j (List.mem_range.1 hj)]
  simp
theorem firstI_cases (n : Nat) (p : Nat → Bool) : firstI n p = -1 ∨ ∃ k : Nat, k < n ∧ firstI n p = k ∧ p k = true := by
  unfold firstI
  cases h : (List.range n).find? p with
  | none => exact .inl rfl
  | some i => exact .inr ⟨i, by have := List.mem_of_find?_eq_some h; simpa using this, rfl, List.find?_some h⟩
theorem below_k {p : Nat → Bool} {k : Nat} (h : ∀ j, j < k → p j = false) (hp : p k = false) : ∀ j, j < k + 1 → p j = false := by
  intro j hj
  by_cases e : j < k
  · exact h j e
  · have : j = k := by omega
    subst this
    exact hp
def linkF (n : Nat) (t : List Int) (want : Int) : Int := firstI n fun i => Bs.gi t i == want
def linkN (g : List Bs.T) (t : List Int) (v : Int) (want : Int) : Int := firstI g.length fun i => Bs.gi t i == want && (Bs.need g i).contains v

end Go.Proofs.Ytihgakbopkaemaa
namespace Go.Proofs.Ytihgakbopkaemaa
open Go.RowKit
def chainF (g : List Bs.T) (t : List Int) : Nat → Int → List Int
  | 0, _ => []
  | k + 1, a => if a < 0 then [] else a :: chainF g t k (linkN g t (a.toNat : Nat) (Bs.gi t a.toNat - Bs.timeOf g a.toNat))
def chainC (g : List Bs.T) : List Int := chainF g (Bs.tailsC g) 200 (linkF g.length (Bs.tailsC g) (longC g))
def chainL (g : List Bs.T) : List Int := if Bs.valid g then chainC g else []
theorem chainL_no {g : List Bs.T} (h : Bs.valid g = false) : chainL g = [] := by unfold chainL; rw [h]; rfl
theorem chainL_yes {g : List Bs.T} (h : Bs.valid g = true) : chainL g = chainC g := by unfold chainL; rw [h]; rfl
theorem chainF_len (g : List Bs.T) (t : List Int) : ∀ k a, (chainF g t k a).length ≤ k := by
  intro k
  induction k with
  | zero => intro a; exact Nat.le_refl _
  | succ k ih =>
    intro a
    unfold chainF
    split
    · simp
    · simp only [List.length_cons]; have := ih (linkN g t (a.toNat : Nat) (Bs.gi t a.toNat - Bs.timeOf g a.toNat)); omega
theorem CriticalChain_len (g : List Bs.T) : (chainL g).length ≤ 1000 := by
  unfold chainL
  split
  · have := chainF_len g (Bs.tailsC g) 200 (linkF g.length (Bs.tailsC g) (longC g)); unfold chainC; omega
  · simp
theorem chainF_neg (g : List Bs.T) (t : List Int) (k : Nat) {a : Int} (h : a < 0) : chainF g t k a = [] := by
  cases k with
  | zero => rfl
  | succ k => unfold chainF; rw [if_pos h]
/-- where the loop stands: l is collected, a comes next; k bounds what is left -/
structure Mid (g : List Bs.T) (t : List Int) (full l : List Int) (a : Int) (k : Nat) : Prop where
  all : l ++ chainF g t k a = full
  at_ : a = -1 ∨ ∃ v : Nat, a = (v : Int) ∧ v < g.length ∧ Bs.gi t v < k
theorem Mid.stop {g : List Bs.T} {t full l : List Int} {a : Int} {k : Nat} (h : Mid g t full l a k) (ha : a < 0) : l = full := by
  rw [← h.all, chainF_neg g t k ha, List.append_nil]
theorem Mid.step {g : List Bs.T} {t full l : List Int} {v : Nat} {k : Nat} (h : Mid g t full l (v : Int) k) (hF : Bs.fine g = true) (hb : ∀ i, i < g.length → 0 ≤ Bs.gi t i) :
    0 < k ∧ v < g.length ∧ Mid g t full (l ++ [(v : Int)]) (linkN g t (v : Nat) (Bs.gi t v - Bs.timeOf g v)) (k - 1) := by
  obtain ⟨u, hu, hul, hk⟩ : ∃ u : Nat, (v : Int) = (u : Int) ∧ u < g.length ∧ Bs.gi t u < k := by
    rcases h.at_ with e | e
    · omega
    · exact e
  have : u = v := by omega
  subst this
  have h0 := hb u hul
  have ht := Bs.fine_time hF hul
  obtain ⟨k, rfl⟩ : ∃ m, k = m + 1 := ⟨k - 1, by omega⟩
  refine ⟨by omega, hul, ?_, ?_⟩
  · rw [← h.all]
    show l ++ [(u : Int)] ++ chainF g t k _ = l ++ chainF g t (k + 1) (u : Int)
    rw [chainF, if_neg (by omega), Int.toNat_natCast, List.append_assoc]
    rfl
  · rcases firstI_cases g.length (fun i => Bs.gi t i == Bs.gi t u - Bs.timeOf g u && (Bs.need g i).contains (u : Int)) with e | ⟨x, hx, e, hp⟩
    · exact .inl e
    · refine .inr ⟨x, e, hx, ?_⟩
      simp only [Bool.and_eq_true, beq_iff_eq] at hp
      rw [hp.1]
      omega
theorem Mid.start {g : List Bs.T} (hf : Bs.valid g = true) : Mid g (Bs.tailsC g) (chainC g) [] (linkF g.length (Bs.tailsC g) (longC g)) 200 := by
  refine ⟨rfl, ?_⟩
  obtain ⟨_, _, _, _, hbd⟩ := bounds_of hf
  rcases firstI_cases g.length (fun i => Bs.gi (Bs.tailsC g) i == longC g) with e | ⟨x, hx, e, _⟩
  · exact .inl e
  · exact .inr ⟨x, e, hx, by have := (hbd x hx).2.2.2; omega⟩

def mu (t : List Int) (v : Value) : Nat := if intOf v < 0 then 0 else (Bs.gi t (intOf v).toNat + 1).toNat
theorem mu_neg (t : List Int) : mu t (.int .i64 (-1)) = 0 := by unfold mu; simp [intOf]
theorem mu_nat (t : List Int) (x : Nat) : mu t (.int .i64 (x : Int)) = (Bs.gi t x + 1).toNat := by unfold mu; rw [if_neg (show ¬ intOf (Value.int .i64 (x : Int)) < 0 from by show ¬ (x : Int) < 0; omega)]; show (Bs.gi t ((x : Int)).toNat + 1).toNat = _; rw [Int.toNat_natCast]
end Go.Proofs.Ytihgakbopkaemaa
