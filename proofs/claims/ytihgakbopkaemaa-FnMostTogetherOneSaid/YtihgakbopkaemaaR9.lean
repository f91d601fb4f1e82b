/-
  WALKS: the order in which ready tasks are taken, of the model.
-/
import Derived.Test.YtihgakbopkaemaaK4
import Derived.Test.YtihgakbopkaemaaK1
import Derived.Test.YtihgakbopkaemaaK8
import Derived.Test.YtihgakbopkaemaaK37
namespace Go.Proofs.Ytihgakbopkaemaa
open Go.RowKit
theorem OI.put {w : World} {B : Nat} {A : Option Addr} {c : Nat} {l : List Int} (h : OI w B A c l) {k : Nat} (hk : k < l.length) (x : Int) :
    ∃ b, A = some ⟨b, 0, none⟩ ∧ B ≤ b ∧ b < w.heap.size ∧ (∀ j (hj : j < l.length), w.cell? ⟨b, j, none⟩ = some (.int .i64 l[j])) ∧ (∀ j, w.frozen? ⟨b, j, none⟩ = false) ∧ OI (w.setCell ⟨b, k, none⟩ (.int .i64 x)) B A c (l.set k x) := by
  have hr := h.ri
  rcases h.2 with ⟨hv, hn⟩ | ⟨b, cap, cur, hv, hb, hg, hnc, hcm, hcs, ht⟩
  · omega
  · injection hv with hA hn hc
    subst hA
    have hlt := (Array.getElem?_eq_some_iff.1 hg).1
    refine ⟨b, rfl, hb, hlt, ?_, fun j => by simp [World.frozen?, hg], ?_⟩
    · intro j hj
      obtain ⟨b', o', e, _, _, hc0⟩ := hr j hj
      cases e
      rw [Nat.zero_add] at hc0
      exact hc0
    · unfold OI
      refine ⟨by simp, .inr ⟨b, cap, cur.setIfInBounds k (.int .i64 x), by rw [List.length_set, hc], hb, heap_setCell_same w b k cur _ _ hg, by rw [List.length_set]; exact hnc, hcm, by rw [Array.size_setIfInBounds]; exact hcs, ?_⟩⟩
      rw [Array.toList_setIfInBounds, List.length_set, List.take_set, ht, List.map_set]
/-- x in its place before those that come later -/
def stL (o : List Int) (x : Int) (k : Nat) : List Int := o.take k ++ x :: o.drop k
theorem stL_len (o : List Int) (x : Int) (k : Nat) (hk : k ≤ o.length) : (stL o x k).length = o.length + 1 := by
  unfold stL
  rw [List.length_append, List.length_take, List.length_cons, List.length_drop]
  omega
theorem stL_end (o : List Int) (x : Int) : stL o x o.length = o ++ [x] := by simp [stL]
theorem stL_at (o : List Int) (x : Int) (k : Nat) (hk : k ≤ o.length) : (stL o x k)[k]? = some x := by
  unfold stL
  rw [List.getElem?_append_right (by rw [List.length_take]; omega), List.length_take, Nat.min_eq_left hk, Nat.sub_self]
  rfl
theorem stL_before (o : List Int) (x : Int) (j : Nat) (hj : j < o.length) : (stL o x (j + 1))[j]? = some o[j] := by
  unfold stL
  rw [List.getElem?_append_left (by rw [List.length_take]; omega), List.getElem?_take_of_lt (by omega), List.getElem?_eq_getElem hj]
theorem stL_swap (o : List Int) (x : Int) (j : Nat) (hj : j < o.length) : ((stL o x (j + 1)).set (j + 1) o[j]).set j x = stL o x j := by
  have e1 : o.take (j + 1) = o.take j ++ [o[j]] := List.take_succ_eq_append_getElem hj
  have e2 : o.drop j = o[j] :: o.drop (j + 1) := List.drop_eq_getElem_cons hj
  have hl : (o.take j).length = j := by rw [List.length_take]; omega
  unfold stL
  rw [e1, e2, List.append_assoc]
  rw [List.set_append_right _ _ (by omega), hl, List.set_append_right _ _ (by omega), hl]
  simp
theorem stL_sorted {K : Int → Int} {o : List Int} {x : Int} {k : Nat} (hs : o.Pairwise (fun a b => K a < K b)) (h1 : ∀ y ∈ o.take k, K y < K x) (h2 : ∀ y ∈ o.drop k, K x < K y) : (stL o x k).Pairwise (fun a b => K a < K b) := by
  unfold stL
  rw [List.pairwise_append, List.pairwise_cons]
  refine ⟨hs.sublist (List.take_sublist _ _), ⟨h2, hs.sublist (List.drop_sublist _ _)⟩, ?_⟩
  intro a ha b hb
  rw [List.mem_cons] at hb
  rcases hb with rfl | hb
  · exact h1 a ha
  · have := h1 a ha
    have := h2 b hb
    omega
theorem stL_mem {o : List Int} {x : Int} {k : Nat} (y : Int) : y ∈ stL o x k ↔ y ∈ o ∨ y = x := by
  unfold stL
  rw [List.mem_append, List.mem_cons]
  have e : y ∈ o ↔ y ∈ o.take k ∨ y ∈ o.drop k := by rw [← List.mem_append, List.take_append_drop]
  rw [e]
  constructor
  · rintro (h | h | h)
    · exact .inl (.inl h)
    · exact .inr h
    · exact .inl (.inr h)
  · rintro ((h | h) | h)
    · exact .inl h
    · exact .inr (.inr h)
    · exact .inr (.inl h)
theorem take_below {K : Int → Int} {o : List Int} {x : Int} {j : Nat} (hj : j < o.length) (hs : o.Pairwise (fun a b => K a < K b)) (h : K o[j] < K x) : ∀ y ∈ o.take (j + 1), K y < K x := by
  intro y hy
  rw [List.take_succ_eq_append_getElem hj, List.mem_append, List.mem_singleton] at hy
  rcases hy with hy | rfl
  · obtain ⟨i, hi, rfl⟩ := List.mem_iff_getElem.1 hy
    rw [List.length_take] at hi
    rw [List.getElem_take]
    have := List.pairwise_iff_getElem.1 hs i j (by omega) hj (by omega)
    omega
  · exact h
theorem sooner_any (A : Option Addr) (c : Nat) (T : List Int) (a b lo hi : Nat) (w : World) (h : RI w lo hi A T) (ha : a < T.length) (hb : b < T.length) (ha8 : a < 8) (hb8 : b < 8) (_hT : T.length ≤ 1000) (n : Nat) :
    Calls Try.prog 120 #[.slice A T.length c, .int .i64 (a : Int), .int .i64 (b : Int)] (w.drewN n) fun e w' => e = .returned (.bool (decide (Bs.kkT T (a : Int) < Bs.kkT T (b : Int)))) ∧ ∃ m, w' = w.drewN m := by
  have hk := Bs.kkT_lt (T := T) (a := (a : Int)) (b := (b : Int)) (by omega) (by omega)
  rw [Int.toNat_natCast, Int.toNat_natCast, gi_at ha, gi_at hb] at hk
  have h' : RI (w.drewN n) lo hi A T := h
  obtain ⟨ba, oa, rfl, _, _, ca⟩ := h'.at_ ha
  obtain ⟨bb, ob, e, _, _, cb⟩ := h'.at_ hb
  cases e
  have a0 : (0 : Int) ≤ (a : Int) := by omega
  have b0 : (0 : Int) ≤ (b : Int) := by omega
  have a1 : (a : Int) < (T.length : Int) := by omega
  have b1 : (b : Int) < (T.length : Int) := by omega
  have HK := Lib.hid hk
  have HD := Lib.hid (show ∀ k, ∃ m, (w.drewN n).drewN k = w.drewN m from fun k => ⟨n + k, World.drewN_drewN _ _ _⟩)
  generalize w.drewN n = W at *
  generalize T[a] = x at *
  generalize T[b] = y at *
  clear hk h h'
  by_cases h1 : y < x
  · have d1 : decide (y < x) = true := by simpa using h1
    have HV := Lib.hid (show decide (Bs.kkT T (a : Int) < Bs.kkT T (b : Int)) = true from by rw [decide_eq_true_eq]; exact HK.out.2 (.inl h1))
    clear h1
    go_enter Try.func120, Try.ntmps120
    go_wp2_with fail
    go_quiet (fail)
    go_wp2
    go_ret
    exact ⟨ret_bool HV.out.symm, HD.out _⟩
  · have d1 : decide (y < x) = false := by simpa using h1
    by_cases h2 : x = y
    · have d2 : (x == y) = true := by simp [h2]
      by_cases h3 : a < b
      · have d3 : decide ((a : Int) < (b : Int)) = true := by simp; omega
        have HV := Lib.hid (show decide (Bs.kkT T (a : Int) < Bs.kkT T (b : Int)) = true from by rw [decide_eq_true_eq]; exact HK.out.2 (.inr ⟨h2, by omega⟩))
        clear h1 h2 h3
        go_enter Try.func120, Try.ntmps120
        go_wp2_with fail
        go_quiet (fail)
        go_wp2
        go_ret
        exact ⟨ret_bool (by rw [HV.out]; simp at d3 ⊢; omega), HD.out _⟩
      · have d3 : decide ((a : Int) < (b : Int)) = false := by simp; omega
        have HV := Lib.hid (show decide (Bs.kkT T (a : Int) < Bs.kkT T (b : Int)) = false from by
          rw [decide_eq_false_iff_not]
          intro h
          rcases HK.out.1 h with h | h
          · exact h1 h
          · omega)
        clear h1 h2 h3
        go_enter Try.func120, Try.ntmps120
        go_wp2_with fail
        go_quiet (fail)
        go_wp2
        go_ret
        exact ⟨ret_bool (by rw [HV.out]; simp at d3 ⊢; omega), HD.out _⟩
    · have d2 : (x == y) = false := by simp [h2]
      have HV := Lib.hid (show decide (Bs.kkT T (a : Int) < Bs.kkT T (b : Int)) = false from by
        rw [decide_eq_false_iff_not]
        intro h
        rcases HK.out.1 h with h | h
        · exact h1 h
        · exact h2 h.1)
      clear h1 h2
      go_enter Try.func120, Try.ntmps120
      go_wp2_with fail
      go_quiet (fail)
      go_wp2
      go_ret
      exact ⟨ret_bool HV.out.symm, HD.out _⟩
set_option maxRecDepth 20000 in
set_option maxHeartbeats 3200000 in
theorem byTail_any (A : Option Addr) (c : Nat) (g : List Bs.T) (A1 : Option Addr) (c1 : Nat) (R : List Int) (lo hi l1 h1 : Nat) (w : World) (h : RG w lo hi A g) (hh : hi ≤ w.heap.size) (h' : RI w l1 h1 A1 R) (hh1 : h1 ≤ w.heap.size) (hv : Bs.valid g = true) (hR : ∀ x ∈ R, 0 ≤ x ∧ x < g.length) (hnd : R.Nodup) :
    Calls Try.prog 118 #[.slice A g.length c, .slice A1 R.length c1] w fun e w' => (∃ A' c' o, e = .returned (.slice A' (List.length o) c') ∧ OI w' w.heap.size A' c' o ∧ o.Pairwise (fun a b => Bs.kkT (Bs.tailsC g) a < Bs.kkT (Bs.tailsC g) b) ∧ ∀ x, x ∈ o ↔ x ∈ R) ∧ Below w.heap.size w w' := by
  have hF := valid_fine hv
  have h8 := Bs.fine_len hF
  have hRl : R.length ≤ g.length := (show Bs.Dist g.length R from ⟨hnd, hR⟩).le
  have htl := tails_len hv
  have hal : Below w.heap.size w (w.alloc (.cells #[] 3)) := (Below.refl _ _).alloc (Nat.le_refl _) _
  have C1 := Lib.hid (tailsS_ret A c g lo hi (w.alloc (.cells #[] 3)) (h.below hal hh) (Nat.le_trans hh hal.size) hv)
  have HL := Lib.hid h'
  have HR := Lib.hid hR
  have HN := Lib.hid hnd
  obtain ⟨T, hT⟩ : ∃ T, T = Bs.tailsC g := ⟨_, rfl⟩
  rw [← hT] at C1 htl ⊢
  have HTL := Lib.hid htl
  clear h h' hv hR hnd hF hT htl
  go_enter Try.func118, Try.ntmps118
  go_wp2_with fail
  with_reducible refine (C1.out).mono ?_
  rintro e w2 ⟨⟨A5, c5, rfl, ho5⟩, hb2⟩
  have HT := Lib.hid ho5.ri
  have HO0 := Lib.hid ((OI.new w w.heap.size (Nat.le_refl _)).below hb2 (Nat.le_refl _))
  have HB2 := Lib.hid (hal.trans (hb2.mono hal.size))
  have s2 := HB2.out.size
  clear ho5 hb2 hal C1
  go_wp2
  go_loopw [5, 7, 8, 9] (fun vo i _ _ wr => ∃ (k : Nat) (A4 : Option Addr) (c4 : Nat) (o : List Int), k ≤ R.length ∧ i = .int .i64 k ∧ vo = .slice A4 o.length c4 ∧ o.length ≤ k ∧ OZ wr w2.heap.size A4 c4 o ∧ OI wr w.heap.size A4 c4 o ∧ o.Pairwise (fun a b => Bs.kkT T a < Bs.kkT T b) ∧ (∀ x, x ∈ o ↔ x ∈ R.take k) ∧ Below w2.heap.size w2 wr) (fun _ i _ _ _ => R.length - (intOf i).toNat)
  case atStart => exact ⟨0, _, _, [], Nat.zero_le _, rfl, rfl, Nat.le_refl _, .inl ⟨rfl, rfl⟩, HO0.out, List.Pairwise.nil, by simp, Below.refl _ _⟩
  case round =>
    obtain ⟨k, A4, c4, o, hk, rfl, rfl, hol, hz, ho, hs, hm, hb⟩ := hrel
    have sr := hb.size
    have HZ := Lib.hid hz
    have HO := Lib.hid ho
    have HS := Lib.hid hs
    have HM := Lib.hid hm
    have HB := Lib.hid hb
    clear hz ho hs hm hb
    by_cases hlt : k < R.length
    · obtain ⟨b, ob, rfl, _, _, hc⟩ := (HL.out.below (HB2.out.trans (HB.out.mono s2)) hh1).at_ hlt
      have hx := HR.out _ (List.getElem_mem hlt)
      have HNX := Lib.hid (show R[k] ∉ R.take k from by
        intro hmem
        obtain ⟨i, hi, e⟩ := List.mem_iff_getElem.1 hmem
        rw [List.length_take] at hi
        rw [List.getElem_take] at e
        have := (List.pairwise_iff_getElem.1 (List.nodup_iff_pairwise_ne.1 HN.out)) i k (by omega) hlt (by omega)
        exact this e)
      have HMX := Lib.hid (fun x => Bs.take_succ_mem hlt x)
      obtain ⟨v, hv⟩ : ∃ v : Nat, R[k] = (v : Int) := ⟨R[k].toNat, by omega⟩
      rw [hv] at hc hx HNX HMX
      have hvl : v < g.length := by omega
      clear hv
      have d1 : (k : Int) < (R.length : Int) := by omega
      go_wp2_with (at_builtin; go_loud (refine push_z rfl _ _ rfl w2.heap.size A4 c4 o (v : Int) rfl (HZ.out.alloc _) wr.heap.size 1 rfl (by simp [go_sem]) (by omega) (by simp; omega) ?_; intro A6 c6 w6 ho6 hb6))
      have HO6 := Lib.hid ho6
      have HB6 := Lib.hid ((HB.out.alloc sr (.cells #[.int .i64 (v : Int)] 3)).trans hb6)
      have s6 := HB6.out.size
      clear ho6 hb6 HZ HO
      go_wp2
      have HOS := Lib.hid (show OI w6 w2.heap.size A6 c6 (stL o (v : Int) o.length) from by rw [stL_end]; exact HO6.out)
      have hxo : ∀ y ∈ o, 0 ≤ y ∧ y < g.length := fun y hy => HR.out y (List.mem_of_mem_take ((HM.out y).1 hy))
      have HXO := Lib.hid hxo
      have HNE := Lib.hid (show ∀ y ∈ o, y ≠ (v : Int) from fun y hy e => HNX.out (by rw [← e]; exact (HM.out y).1 hy))
      clear HO6 hxo hc
      go_loopw [8, 9] (fun i _ wr2 => ∃ j : Nat, j ≤ o.length ∧ i = .int .i64 j ∧ OI wr2 w2.heap.size A6 c6 (stL o (v : Int) j) ∧ (∀ y ∈ o.drop j, Bs.kkT T (v : Int) < Bs.kkT T y) ∧ Below w2.heap.size w2 wr2) (fun i _ _ => (intOf i).toNat)
      case atStart => exact ⟨o.length, Nat.le_refl _, by first | rfl | (go_num), HOS.out, by simp, HB6.out⟩
      case round =>
        clear HOS HB6
        obtain ⟨j, hj, rfl, ho8, hdr, hb8⟩ := hrel
        have HO8 := Lib.hid ho8
        have HDR := Lib.hid hdr
        have HB8 := Lib.hid hb8
        have hlen := stL_len o (v : Int) j hj
        by_cases hj0 : 0 < j
        · obtain ⟨i, hi⟩ : ∃ i, j = i + 1 := ⟨j - 1, by omega⟩
          have hio : i < o.length := by omega
          obtain ⟨u, hu⟩ : ∃ u : Nat, o[i] = (u : Int) := ⟨o[i].toNat, by have := (HXO.out _ (List.getElem_mem hio)).1; omega⟩
          have hur := HXO.out _ (List.getElem_mem hio)
          rw [hu] at hur
          have eA := stL_at o (v : Int) j hj
          have eB := stL_before o (v : Int) i hio
          rw [hu, ← hi] at eB
          have eS := stL_swap o (v : Int) i hio
          rw [hu, ← hi] at eS
          have hdrop : o.drop i = (u : Int) :: o.drop j := by rw [hi, ← hu]; exact List.drop_eq_getElem_cons hio
          have HUN := Lib.hid (show Bs.kkT T (u : Int) < Bs.kkT T (v : Int) → ∀ y ∈ o.take j, Bs.kkT T y < Bs.kkT T (v : Int) from by
            intro h
            rw [hi]
            exact take_below hio HS.out (by rw [hu]; exact h))
          have hne := HNE.out _ (List.getElem_mem hio)
          rw [hu] at hne
          have HNK := Lib.hid (show ¬ Bs.kkT T (v : Int) < Bs.kkT T (u : Int) → Bs.kkT T (u : Int) < Bs.kkT T (v : Int) from by
            intro h
            have : Bs.kkT T (u : Int) ≠ Bs.kkT T (v : Int) := fun e => hne (Bs.kkT_inj (by omega) (by omega) e)
            omega)
          generalize hst : stL o (v : Int) j = L at *
          have hLj : j < L.length := by omega
          have hLi : i < L.length := by omega
          have eA' : L[j] = (v : Int) := by rw [List.getElem?_eq_getElem hLj] at eA; exact Option.some.inj eA
          have eB' : L[i] = (u : Int) := by rw [List.getElem?_eq_getElem hLi] at eB; exact Option.some.inj eB
          obtain ⟨b5, rfl, hb5, hb5l, hcells, hfz, hput⟩ := ho8.put hLj (u : Int)
          have k0 := hcells j hLj
          have k1 := hcells i hLi
          rw [eA'] at k0
          rw [eB'] at k1
          have f0 := hfz j
          have f1 := hfz i
          have HPUT := Lib.hid (show OI ((wr.setCell ⟨b5, j, none⟩ (.int .i64 (u : Int))).setCell ⟨b5, i, none⟩ (.int .i64 (v : Int))) w2.heap.size (some ⟨b5, 0, none⟩) c6 (stL o (v : Int) i) from by
            obtain ⟨b', e', _, _, _, _, hput2⟩ := hput.put (k := i) (by rw [List.length_set]; exact hLi) (v : Int)
            cases e'
            rw [eS] at hput2
            exact hput2)
          have hn5 : b5 < wr.heap.size := hb5l
          have sr8 := hb8.size
          have hT8 := HT.out.below hb8 (Nat.le_refl _)
          have C5 := fun n => Lib.hid (sooner_any A5 c5 T v u _ _ wr hT8 (by have := HTL.out; omega) (by have := HTL.out; omega) (by omega) (by omega) (by have := HTL.out; omega) n)
          have ej : (j : Int) - 1 = (i : Int) := by omega
          have p0 : (0 : Int) < (j : Int) := by omega
          have p1 : (j : Int) < (o.length : Int) + 1 := by omega
          have i0 : (0 : Int) ≤ (i : Int) := by omega
          have i1 : (i : Int) < (o.length : Int) + 1 := by omega
          have HJI := Lib.hid (And.intro hi hst)
          have HLEN := Lib.hid hlen
          have HDP := Lib.hid hdrop
          have hw := IntWalk.i64_in ((j : Int) - 1) (by omega)
          rw [ej] at hw
          clear ho8 hdr hb8 hput hcells hfz eA eB eA' eB' eS hT8 hi hst hlen hdrop
          cases hk8 : decide (Bs.kkT T (v : Int) < Bs.kkT T (u : Int))
          · rw [hk8] at C5
            have HKK := Lib.hid (HUN.out (HNK.out (by simpa using hk8)))
            clear hk8
            have HFS := Lib.hid (show L.Pairwise (fun a b => Bs.kkT T a < Bs.kkT T b) from by rw [← HJI.out.2]; exact stL_sorted HS.out HKK.out HDR.out)
            go_wp2_with fail
            go_quiet ((go_at_call 120; with_reducible exact (C5 _).out))
            clear hw
            go_wp2
            go_roundw
            case rel =>
              refine ⟨k + 1, some ⟨b5, 0, none⟩, c6, L, by omega, by go_num, by rw [HLEN.out], by rw [HLEN.out]; omega, .inr (HO8.out.drewN nq), (HO8.out.drewN nq).base s2, HFS.out, ?_, HB8.out.drewN nq⟩
              intro x
              rw [← HJI.out.2]
              rw [stL_mem, HM.out x, HMX.out x]
            case measure => simp [intOf]; omega
          · rw [hk8] at C5
            have HKK := Lib.hid (of_decide_eq_true hk8)
            clear hk8
            go_wp2_with fail
            go_quiet ((go_at_call 120; with_reducible exact (C5 _).out))
            clear hw
            go_wp2
            go_roundw
            case rel =>
              refine ⟨i, by omega, by first | rfl | (rw [ej]), HPUT.out, ?_, ((HB8.out.drewN nq).setCell (by exact hb5) _).setCell (by exact hb5) _⟩
              rw [HDP.out]
              intro y hy
              rw [List.mem_cons] at hy
              rcases hy with rfl | hy
              · exact HKK.out
              · exact HDR.out y hy
            case measure => simp [intOf]; omega
        · obtain rfl : j = 0 := by omega
          have HFS := Lib.hid (show (stL o (v : Int) 0).Pairwise (fun a b => Bs.kkT T a < Bs.kkT T b) from stL_sorted HS.out (by simp) HDR.out)
          have HLEN := Lib.hid hlen
          clear ho8 hdr hb8 hlen
          generalize hst : stL o (v : Int) 0 = L at *
          have HST := Lib.hid hst
          clear hst
          go_wp2_with fail
          go_quiet (fail)
          go_wp2
          go_roundw
          case rel =>
            refine ⟨k + 1, A6, c6, L, by omega, by go_num, by rw [HLEN.out], by rw [HLEN.out]; omega, .inr (HO8.out.drewN nq), (HO8.out.drewN nq).base s2, HFS.out, ?_, HB8.out.drewN nq⟩
            intro x
            rw [← HST.out]
            rw [stL_mem, HM.out x, HMX.out x]
          case measure => simp [intOf]; omega
    · obtain rfl : k = R.length := by omega
      have HM2 := Lib.hid (show ∀ x, x ∈ o ↔ x ∈ R from fun x => by have := HM.out x; rwa [List.take_length] at this)
      go_wp2
      go_ret
      exact ⟨⟨A4, c4, o, rfl, HO.out, HS.out, HM2.out⟩, HB2.out.trans (HB.out.mono s2)⟩
end Go.Proofs.Ytihgakbopkaemaa
