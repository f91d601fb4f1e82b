/-
  MERGED TEXTS: Math53 Math54 Math55 Math56.
-/
import Derived.Test.YtgpmnfnliifegaaK20
import Derived.Test.YtgpmnfnliifegaaMath45
namespace Go.Proofs.Ytgpmnfnliifegaa.Bs
theorem tOk_snoc {g : List T} {l : List Int} {v i : Nat} (hi : i < l.length) : tOk g (l ++ [(v : Int)]) i = tOk g l i := by
  unfold tOk
  rw [giZ_at (by rw [List.length_append]; omega), giZ_at hi, List.getElem_append_left hi, List.take_append_of_le_length (by omega)]
theorem tOk_new {g : List T} {l : List Int} {v : Nat} (hv : v < g.length) (h : okNext g l v = true) : tOk g (l ++ [(v : Int)]) l.length = true := by
  unfold tOk
  rw [giZ_at (by simp), List.getElem_concat_length rfl, Int.toNat_natCast, List.take_append_of_le_length (Nat.le_refl _), List.take_length, h, Bool.and_true, decide_eq_true_eq]
  omega
theorem ords_tOk {g : List T} : ∀ (r : Nat) (l : List Int), (∀ i, i < l.length → tOk g l i = true) → ∀ o ∈ ordsF g r l, ∀ i, i < o.length → tOk g o i = true := by
  intro r
  induction r with
  | zero =>
    intro l hl o ho
    have : o = l := by simpa [ordsF] using ho
    subst this
    exact hl
  | succ r ih =>
    intro l hl o ho
    rw [ordsF_succ] at ho
    unfold ordsK at ho
    rw [List.mem_flatMap] at ho
    obtain ⟨v, hv, ho⟩ := ho
    rw [List.mem_range] at hv
    by_cases hk : okNext g l v = true
    · rw [if_pos hk] at ho
      refine ih (l ++ [(v : Int)]) (fun i hi => ?_) o ho
      rw [List.length_append, List.length_singleton] at hi
      by_cases e : i = l.length
      · subst e
        exact tOk_new hv hk
      · rw [tOk_snoc (by omega)]
        exact hl i (by omega)
    · rw [if_neg hk] at ho
      simp at ho
theorem ords_ord {g : List T} {o : List Int} (h : o ∈ ordsF g g.length []) : isOrd g o = true :=
  isOrd_yes (by have := (ords_mem g.length [] (by simp) o h).1; simpa using this) (ords_tOk g.length [] (by simp) o h)
/-- when the last task is over, by an order -/
def enO (g : List T) (m : List Int) (wk : Int) (l : List Int) : Int := endC g (osK g m wk l l.length)
def nth (Ls : List (List Int)) (k : Nat) : List Int := Ls[k]?.getD []
theorem nth_at {Ls : List (List Int)} {k : Nat} (h : k < Ls.length) : nth Ls k = Ls[k] := by unfold nth; rw [List.getElem?_eq_getElem h]; rfl
/-- the first best one of the first k + 1 -/
def bstK (g : List T) (m : List Int) (wk : Int) (Ls : List (List Int)) : Nat → List Int
  | 0 => nth Ls 0
  | k + 1 => if enO g m wk (nth Ls (k + 1)) < enO g m wk (bstK g m wk Ls k) then nth Ls (k + 1) else bstK g m wk Ls k
theorem bstK_yes {g : List T} {m : List Int} {wk : Int} {Ls : List (List Int)} {k : Nat} (h : enO g m wk (nth Ls (k + 1)) < enO g m wk (bstK g m wk Ls k)) : bstK g m wk Ls (k + 1) = nth Ls (k + 1) := by
  show (if _ then _ else _) = _
  rw [if_pos h]
theorem bstK_no {g : List T} {m : List Int} {wk : Int} {Ls : List (List Int)} {k : Nat} (h : ¬ enO g m wk (nth Ls (k + 1)) < enO g m wk (bstK g m wk Ls k)) : bstK g m wk Ls (k + 1) = bstK g m wk Ls k := by
  show (if _ then _ else _) = _
  rw [if_neg h]
theorem bstK_mem {g : List T} {m : List Int} {wk : Int} {Ls : List (List Int)} : ∀ k, k < Ls.length → bstK g m wk Ls k ∈ Ls := by
  intro k
  induction k with
  | zero => intro h; show nth Ls 0 ∈ Ls; rw [nth_at h]; exact List.getElem_mem h
  | succ k ih =>
    intro h
    by_cases e : enO g m wk (nth Ls (k + 1)) < enO g m wk (bstK g m wk Ls k)
    · rw [bstK_yes e, nth_at h]; exact List.getElem_mem h
    · rw [bstK_no e]; exact ih (by omega)
def bestC (g : List T) (m : List Int) (wk : Int) : List Int := bstK g m wk (ordsF g g.length []) ((ordsF g g.length []).length - 1)
def bestL (g : List T) (m : List Int) (wk : Int) : List Int := if seaV g m wk then bestC g m wk else []
def timeL (g : List T) (m : List Int) (wk : Int) : Int := if seaV g m wk then enO g m wk (bestC g m wk) else -1
theorem bestL_no {g : List T} {m : List Int} {wk : Int} (h : seaV g m wk = false) : bestL g m wk = [] := by unfold bestL; rw [h]; rfl
theorem bestL_yes {g : List T} {m : List Int} {wk : Int} (h : seaV g m wk = true) : bestL g m wk = bestC g m wk := by unfold bestL; rw [h]; rfl
theorem timeL_no {g : List T} {m : List Int} {wk : Int} (h : seaV g m wk = false) : timeL g m wk = -1 := by unfold timeL; rw [h]; rfl
theorem timeL_yes {g : List T} {m : List Int} {wk : Int} (h : seaV g m wk = true) : timeL g m wk = enO g m wk (bestC g m wk) := by unfold timeL; rw [h]; rfl
theorem best_ord {g : List T} {m : List Int} {wk : Int} (hv : valid g = true) : bestC g m wk ∈ ordsF g g.length [] := by
  have := ords_pos hv g.length [] (by simp) (by simp) (by simp)
  exact bstK_mem _ (by omega)
end Go.Proofs.Ytgpmnfnliifegaa.Bs
namespace Go.Proofs.Ytgpmnfnliifegaa.Bs
def better (en : List Int → Int) (k : List Int × Int) (o : List Int) : List Int × Int := if en o < k.2 then (o, en o) else k
def srch (g : List T) (lb : List Int → Int) : Nat → List Int → List Int × Int → List Int × Int
  | 0, l, k => if k.2 ≤ lb l then k else (l, lb l)
  | r + 1, l, k => if k.2 ≤ lb l then k else (List.range g.length).foldl (fun k i => if okNext g l i then srch g lb r (l ++ [(i : Int)]) k else k) k
/-- all but the first n tasks have been tried -/
def srchK (g : List T) (lb : List Int → Int) (r : Nat) (l : List Int) (k : List Int × Int) (n : Nat) : List Int × Int := (List.range n).foldl (fun k i => if okNext g l i then srch g lb r (l ++ [(i : Int)]) k else k) k
theorem srchK_succ (g : List T) (lb : List Int → Int) (r : Nat) (l : List Int) (k : List Int × Int) (n : Nat) : srchK g lb r l k (n + 1) = if okNext g l n then srch g lb r (l ++ [(n : Int)]) (srchK g lb r l k n) else srchK g lb r l k n := by
  unfold srchK
  rw [List.range_succ, List.foldl_append]
  rfl
theorem srch_leave {g : List T} {lb : List Int → Int} {r : Nat} {l : List Int} {k : List Int × Int} (h : k.2 ≤ lb l) : srch g lb r l k = k := by
  cases r with
  | zero => exact if_pos h
  | succ r => exact if_pos h
theorem srch_whole {g : List T} {lb : List Int → Int} {l : List Int} {k : List Int × Int} (h : ¬ k.2 ≤ lb l) : srch g lb 0 l k = (l, lb l) := if_neg h
theorem srch_go {g : List T} {lb : List Int → Int} {r : Nat} {l : List Int} {k : List Int × Int} (h : ¬ k.2 ≤ lb l) : srch g lb (r + 1) l k = srchK g lb r l k g.length := if_neg h
theorem better_worse {en : List Int → Int} : ∀ (L : List (List Int)) (k : List Int × Int), (∀ o ∈ L, k.2 ≤ en o) → L.foldl (better en) k = k := by
  intro L
  induction L with
  | nil => intro k _; rfl
  | cons o L ih =>
    intro k h
    rw [List.foldl_cons]
    have : better en k o = k := by unfold better; rw [if_neg (by have := h o (by simp); omega)]
    rw [this]
    exact ih k (fun o ho => h o (by simp [ho]))
/-- what a part's orders must keep -/
structure Bound (g : List T) (lb en : List Int → Int) : Prop where
  low : ∀ (r : Nat) (l : List Int), (∀ i, i < l.length → tOk g l i = true) → l.length + r = g.length → ∀ o ∈ ordsF g r l, lb l ≤ en o
  all : ∀ (l : List Int), isOrd g l = true → lb l = en l
theorem srch_eq {g : List T} {lb en : List Int → Int} (hb : Bound g lb en) : ∀ (r : Nat) (l : List Int) (k : List Int × Int), (∀ i, i < l.length → tOk g l i = true) → l.length + r = g.length → srch g lb r l k = (ordsF g r l).foldl (better en) k := by
  intro r
  induction r with
  | zero =>
    intro l k hl hlen
    have he := hb.all l (isOrd_yes (by omega) hl)
    show _ = ([l] : List (List Int)).foldl (better en) k
    simp only [List.foldl_cons, List.foldl_nil]
    unfold better
    by_cases h : k.2 ≤ lb l
    · rw [srch_leave h, if_neg (by omega)]
    · rw [srch_whole h, if_pos (by omega), he]
  | succ r ih =>
    intro l k hl hlen
    by_cases h : k.2 ≤ lb l
    · rw [srch_leave h, better_worse _ k (fun o ho => by have := hb.low (r + 1) l hl hlen o ho; omega)]
    · rw [srch_go h, ordsF_succ]
      have key : ∀ n, srchK g lb r l k n = (ordsK g r l n).foldl (better en) k ∨ g.length < n := by
        intro n
        induction n with
        | zero => exact .inl rfl
        | succ n ihn =>
          by_cases hn : g.length < n + 1
          · exact .inr hn
          · left
            rcases ihn with e | e
            · rw [srchK_succ, ordsK_succ, List.foldl_append, ← e]
              by_cases hk : okNext g l n = true
              · rw [if_pos hk, if_pos hk]
                refine ih (l ++ [(n : Int)]) _ (fun i hi => ?_) (by rw [List.length_append, List.length_singleton]; omega)
                rw [List.length_append, List.length_singleton] at hi
                by_cases ei : i = l.length
                · subst ei
                  exact tOk_new (by omega) hk
                · rw [tOk_snoc (by omega)]
                  exact hl i (by omega)
              · rw [if_neg hk, if_neg hk]
                rfl
            · omega
      rcases key g.length with e | e
      · exact e
      · omega
/-- looking at all, beginning with what is worse than each, finds the first best one -/
theorem better_bst {g : List T} {m : List Int} {wk : Int} {Ls : List (List Int)} {k : List Int × Int} (h : ∀ o ∈ Ls, enO g m wk o < k.2) : ∀ n, n < Ls.length → (Ls.take (n + 1)).foldl (better (enO g m wk)) k = (bstK g m wk Ls n, enO g m wk (bstK g m wk Ls n)) := by
  intro n
  induction n with
  | zero =>
    intro hn
    rw [List.take_succ_eq_append_getElem hn, List.take_zero, List.nil_append]
    show better (enO g m wk) k Ls[0] = (nth Ls 0, enO g m wk (nth Ls 0))
    rw [nth_at hn]
    unfold better
    rw [if_pos (h _ (List.getElem_mem hn))]
  | succ n ih =>
    intro hn
    rw [List.take_succ_eq_append_getElem hn, List.foldl_append, ih (by omega)]
    show better (enO g m wk) (bstK g m wk Ls n, enO g m wk (bstK g m wk Ls n)) Ls[n + 1] = _
    unfold better
    by_cases e : enO g m wk (nth Ls (n + 1)) < enO g m wk (bstK g m wk Ls n)
    · rw [bstK_yes e, nth_at hn] at *
      rw [if_pos e]
    · rw [bstK_no e]
      rw [nth_at hn] at e
      rw [if_neg e]
theorem srch_best {g : List T} {m : List Int} {wk : Int} {lb : List Int → Int} {k : List Int × Int} (hv : valid g = true) (hb : Bound g lb (enO g m wk)) (h : ∀ o ∈ ordsF g g.length [], enO g m wk o < k.2) : srch g lb g.length [] k = (bestC g m wk, enO g m wk (bestC g m wk)) := by
  have hp := ords_pos hv g.length [] (by simp) (by simp) (by simp)
  rw [srch_eq hb g.length [] k (by simp) (by simp)]
  have := better_bst h ((ordsF g g.length []).length - 1) (by omega)
  rw [List.take_of_length_le (by omega)] at this
  exact this
end Go.Proofs.Ytgpmnfnliifegaa.Bs
namespace Go.Proofs.Ytgpmnfnliifegaa.Bs
/-- the beginnings by a part of an order -/
def osA (g : List T) (m : List Int) (wk : Int) (l : List Int) : List Int := osK g m wk l l.length
theorem osA_eq (g : List T) (m : List Int) (wk : Int) (l : List Int) : osA g m wk l = l.foldl (osStep g m wk) (List.replicate g.length 200) := by unfold osA osK; rw [List.take_length]
theorem osA_snoc (g : List T) (m : List Int) (wk : Int) (l : List Int) (x : Int) : osA g m wk (l ++ [x]) = osStep g m wk (osA g m wk l) x := by
  rw [osA_eq, osA_eq, List.foldl_append]
  rfl
theorem osA_len (g : List T) (m : List Int) (wk : Int) (l : List Int) : (osA g m wk l).length = g.length := osK_len g m wk l l.length
theorem osA_keep {g : List T} {m : List Int} {wk : Int} : ∀ (s l : List Int), (l ++ s).Nodup → (∀ x ∈ l ++ s, 0 ≤ x) → ∀ x ∈ l, giZ (osA g m wk (l ++ s)) x.toNat = giZ (osA g m wk l) x.toNat := by
  intro s
  induction s with
  | nil => intro l _ _ x _; rw [List.append_nil]
  | cons y s ih =>
    intro l hn h0 x hx
    rw [List.append_cons] at hn h0 ⊢
    rw [ih (l ++ [y]) hn h0 x (by simp [hx]), osA_snoc]
    unfold osStep
    rw [giZ_set, if_neg]
    rintro ⟨e, _⟩
    have h1 := h0 x (by simp [hx])
    have h2 := h0 y (by simp)
    have : x = y := by omega
    subst this
    rw [List.nodup_append] at hn
    have hn2 := hn.1
    rw [List.nodup_append] at hn2
    exact hn2.2.2 x hx x (by simp) rfl
def lbF (g : List T) (S : List Int) (x : Int) : Int := giZ S x.toNat + gi (tailsC g) x.toNat
def lbO (g : List T) (m : List Int) (wk : Int) (l : List Int) : Int := max (leastL g m wk) (maxL (l.map (lbF g (osA g m wk l))))
theorem lbO_snoc {g : List T} {m : List Int} {wk : Int} {l : List Int} {v : Nat} (hn : (l ++ [(v : Int)]).Nodup) (h0 : ∀ x ∈ l, 0 ≤ x) (hv : v < g.length) : lbO g m wk (l ++ [(v : Int)]) = max (lbO g m wk l) (seekT g m wk (osA g m wk l) v + gi (tailsC g) v) := by
  unfold lbO
  rw [List.map_append]
  have h1 : l.map (lbF g (osA g m wk (l ++ [(v : Int)]))) = l.map (lbF g (osA g m wk l)) := by
    apply List.map_congr_left
    intro x hx
    unfold lbF
    rw [osA_keep [(v : Int)] l hn (fun y hy => by
      rw [List.mem_append, List.mem_singleton] at hy
      rcases hy with hy | rfl
      · exact h0 y hy
      · omega) x hx]
  have h2 : lbF g (osA g m wk (l ++ [(v : Int)])) (v : Int) = seekT g m wk (osA g m wk l) v + gi (tailsC g) v := by
    unfold lbF
    rw [osA_snoc]
    unfold osStep
    rw [Int.toNat_natCast, giZ_set, if_pos ⟨rfl, by rw [osA_len]; exact hv⟩]
  rw [h1]
  show max _ (maxL (_ ++ [_])) = _
  rw [maxL_append, h2, Int.max_assoc]
theorem ords_pre {g : List T} : ∀ (r : Nat) (l : List Int), ∀ o ∈ ordsF g r l, ∃ s, o = l ++ s := by
  intro r
  induction r with
  | zero =>
    intro l o ho
    have : o = l := by simpa [ordsF] using ho
    exact ⟨[], by rw [this, List.append_nil]⟩
  | succ r ih =>
    intro l o ho
    rw [ordsF_succ] at ho
    unfold ordsK at ho
    rw [List.mem_flatMap] at ho
    obtain ⟨v, _, ho⟩ := ho
    by_cases hk : okNext g l v = true
    · rw [if_pos hk] at ho
      obtain ⟨s, e⟩ := ih _ o ho
      exact ⟨(v : Int) :: s, by rw [e]; simp⟩
    · rw [if_neg hk] at ho
      simp at ho
theorem ord_tOk {g : List T} {l : List Int} (h : isOrd g l = true) : l.length = g.length ∧ ∀ i, i < l.length → tOk g l i = true := by
  refine ⟨(isOrd_at h).1, fun i hi => ?_⟩
  unfold isOrd at h
  rw [Bool.and_eq_true, List.all_eq_true] at h
  exact h.2 i (by simpa using hi)
theorem lb_bound {g : List T} {m : List Int} {wk : Int} (h : seaV g m wk = true) : Bound g (lbO g m wk) (enO g m wk) := by
  obtain ⟨hcan, h5⟩ := sea_can h
  obtain ⟨hval, hroom, hw1, hw4⟩ := canV_iff.1 hcan
  have hF := valid_fine hval
  have low : ∀ (r : Nat) (l : List Int), (∀ i, i < l.length → tOk g l i = true) → l.length + r = g.length → ∀ o ∈ ordsF g r l, lbO g m wk l ≤ enO g m wk o := by
    intro r l hl hlen o ho
    have hin : ∀ x ∈ l, 0 ≤ x ∧ x < g.length := by
      intro x hx
      obtain ⟨i, hi, rfl⟩ := List.mem_iff_getElem.1 hx
      have := hl i hi
      unfold tOk at this
      rw [giZ_at hi, Bool.and_eq_true, decide_eq_true_eq] at this
      omega
    have hol := (ords_mem r l hin o ho).1
    have hord : isOrd g o = true := isOrd_yes (by omega) (ords_tOk r l hl o ho)
    obtain ⟨hst, h0, _, _⟩ := os_valid h hord rfl
    have hP := Pla.all (m := m) (wk := wk) hF hroom hw1 hord o.length (Nat.le_refl _)
    rw [List.take_length] at hP
    obtain ⟨s, rfl⟩ := ords_pre r l o ho
    have hls := least_le hst
    unfold lbO enO
    refine Int.max_le.2 ⟨hls, maxL_le h0 ?_⟩
    intro y hy
    rw [List.mem_map] at hy
    obtain ⟨x, hx, rfl⟩ := hy
    have hk := osA_keep (g := g) (m := m) (wk := wk) s l hP.nd (fun z hz => (hP.rg z hz).1) x hx
    unfold lbF
    rw [← hk]
    have hxr := hin x hx
    exact tail_fits hst x.toNat (by omega)
  refine ⟨low, fun l hl => ?_⟩
  obtain ⟨hlen, ht⟩ := ord_tOk hl
  have h1 := low 0 l ht (by omega) l (by simp [ordsF])
  have hP := Pla.all (m := m) (wk := wk) hF hroom hw1 hl l.length (Nat.le_refl _)
  rw [List.take_length] at hP
  have h2 : enO g m wk l ≤ lbO g m wk l := by
    unfold enO lbO endC endK
    have hnn := maxL_nonneg (l.map (lbF g (osA g m wk l)))
    refine maxL_le (Int.le_trans hnn (Int.le_max_right _ _)) ?_
    intro y hy
    rw [List.mem_map] at hy
    obtain ⟨i, hi, rfl⟩ := hy
    rw [List.mem_range] at hi
    have hm := full_mem hP.nd hP.rg hlen hi
    have hle := le_maxL (List.mem_map_of_mem (f := lbF g (osA g m wk l)) hm)
    have htg := tail_ge hval hi
    refine Int.le_trans ?_ (Int.le_trans hle (Int.le_max_right _ _))
    unfold endF lbF osA
    rw [Int.toNat_natCast]
    omega
  omega
end Go.Proofs.Ytgpmnfnliifegaa.Bs
namespace Go.Proofs.Ytgpmnfnliifegaa.Bs
/-- a list whose tasks each can come next -/
def Part (g : List T) (l : List Int) : Prop := ∀ i, i < l.length → tOk g l i = true
theorem Part.nil (g : List T) : Part g [] := fun i hi => by simp at hi
theorem Part.snoc {g : List T} {l : List Int} {v : Nat} (h : Part g l) (hv : v < g.length) (hk : okNext g l v = true) : Part g (l ++ [(v : Int)]) := by
  intro i hi
  rw [List.length_append, List.length_singleton] at hi
  by_cases e : i = l.length
  · subst e
    exact tOk_new hv hk
  · rw [tOk_snoc (by omega)]
    exact h i (by omega)
theorem Part.last {g : List T} {l : List Int} {x : Int} (h : Part g (l ++ [x])) : Part g l ∧ 0 ≤ x ∧ x < g.length ∧ okNext g l x.toNat = true := by
  have h1 := h l.length (by simp)
  unfold tOk at h1
  rw [giZ_at (by simp), List.getElem_concat_length rfl, List.take_append_of_le_length (Nat.le_refl _), List.take_length, Bool.and_eq_true, decide_eq_true_eq] at h1
  obtain ⟨v, rfl⟩ : ∃ v : Nat, x = (v : Int) := ⟨x.toNat, by omega⟩
  refine ⟨fun i hi => ?_, h1.1.1, by omega, h1.2⟩
  have := h i (by rw [List.length_append]; omega)
  rw [tOk_snoc hi] at this
  exact this
theorem need_of_ok {g : List T} {l : List Int} {v : Nat} (h : okNext g l v = true) : (v : Int) ∉ l ∧ ∀ y ∈ need g v, y ∈ l := by
  unfold okNext at h
  rw [Bool.and_eq_true, List.all_eq_true] at h
  exact ⟨by simpa using h.1, fun y hy => by simpa using h.2 y hy⟩
theorem Part.pla {g : List T} {m : List Int} {wk : Int} (hF : fine g = true) (hm : roomOk m = true) (hw : 1 ≤ wk) : ∀ (k : Nat) (l : List Int), l.length = k → Part g l → Pla g m wk (osA g m wk l) l := by
  intro k
  induction k with
  | zero =>
    intro l hl _
    have : l = [] := List.length_eq_zero_iff.1 hl
    subst this
    exact Pla.start hm hw
  | succ k ih =>
    intro l hl h
    obtain ⟨l', x, rfl⟩ : ∃ l' x, l = l' ++ [x] := ⟨l.dropLast, l.getLast (by intro e; rw [e] at hl; simp at hl), (List.dropLast_concat_getLast _).symm⟩
    obtain ⟨hp, h0, h1, hk⟩ := h.last
    rw [List.length_append, List.length_singleton] at hl
    obtain ⟨v, rfl⟩ : ∃ v : Nat, x = (v : Int) := ⟨x.toNat, by omega⟩
    rw [Int.toNat_natCast] at hk
    obtain ⟨hnm, hn⟩ := need_of_ok hk
    rw [osA_snoc]
    unfold osStep
    rw [Int.toNat_natCast]
    exact (ih l' (by omega) hp).step hF hm hw (by omega) hnm hn
/-- what the search keeps of a part -/
structure Keeps (g : List T) (m : List Int) (wk : Int) (l : List Int) (o : Nat → Int) (n : Nat) (f : Nat → Int) (b : Nat) (z : Int) : Prop where
  size : n = l.length
  list : ∀ i (h : i < l.length), o i = l[i]
  set_ : b = bits l
  start : ∀ i : Nat, (i : Int) ∈ l → f i = giZ (osA g m wk l) i
  small : ∀ i, i < 8 → 0 ≤ f i ∧ f i ≤ 100000
  least : z = lbO g m wk l
theorem Keeps.more {g : List T} {m : List Int} {wk : Int} {l : List Int} {o f : Nat → Int} {n b : Nat} {z : Int} (hF : fine g = true) (hm : roomOk m = true) (hw : 1 ≤ wk) (hp : Part g l) {v : Nat} (hv : v < g.length) (hk : okNext g l v = true) (h : Keeps g m wk l o n f b z) :
    Keeps g m wk (l ++ [(v : Int)]) (upd o n (v : Int)) (n + 1) (upd f v (seekT g m wk (osA g m wk l) v)) (b ||| 1 <<< v) (max z (seekT g m wk (osA g m wk l) v + gi (tailsC g) v)) := by
  have hpl := Part.pla (m := m) (wk := wk) hF hm hw l.length l rfl hp
  have hpl2 := Part.pla (m := m) (wk := wk) hF hm hw _ (l ++ [(v : Int)]) rfl (hp.snoc hv hk)
  obtain ⟨hnm, hn⟩ := need_of_ok hk
  obtain ⟨_, hr0, hr1, _, _⟩ := hpl.lst hF hm hw hv hn
  have hsm := hpl.sm hF
  refine ⟨by rw [h.size, List.length_append]; rfl, ?_, by rw [bits_snoc, h.set_, Int.toNat_natCast], ?_, ?_, by rw [lbO_snoc hpl2.nd (fun x hx => (hpl.rg x hx).1) hv, h.least]⟩
  · intro i hi
    unfold upd
    rw [List.length_append, List.length_singleton] at hi
    by_cases e : i = l.length
    · subst e
      rw [if_pos h.size.symm, List.getElem_concat_length rfl]
    · rw [if_neg (by rw [h.size]; exact e), List.getElem_append_left (by omega)]
      exact h.list i (by omega)
  · intro i hi
    rw [osA_snoc]
    unfold osStep upd
    rw [Int.toNat_natCast, giZ_set]
    by_cases e : i = v
    · rw [if_pos e, if_pos ⟨e, by rw [osA_len]; exact hv⟩]
    · rw [if_neg e, if_neg (fun h' => e h'.1)]
      rw [List.mem_append, List.mem_singleton] at hi
      exact h.start i (hi.resolve_right (by omega))
  · intro i hi
    unfold upd
    split
    · omega
    · exact h.small i hi
theorem Keeps.start_ {g : List T} {m : List Int} {wk z : Int} (hz : z = lbO g m wk []) : Keeps g m wk [] (fun _ => 0) 0 (fun _ => 0) 0 z :=
  ⟨rfl, fun i hi => by simp at hi, rfl, fun i hi => by simp at hi, fun i _ => ⟨Int.le_refl _, by show (0 : Int) ≤ 100000; decide⟩, hz⟩
end Go.Proofs.Ytgpmnfnliifegaa.Bs
