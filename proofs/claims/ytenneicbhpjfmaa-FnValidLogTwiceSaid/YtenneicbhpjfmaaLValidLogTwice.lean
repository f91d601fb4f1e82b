/-
  THE WALK OF laws.FnValidLogTwice.
-/
import Derived.Test.YtenneicbhpjfmaaX16
import Derived.Test.YtenneicbhpjfmaaR75
import Derived.Test.YtenneicbhpjfmaaW114
import Derived.Test.YtenneicbhpjfmaaMath95
import Derived.Test.YtenneicbhpjfmaaRI
namespace Go.Proofs.Ytenneicbhpjfmaa
open Go.RowKit
theorem run_evL {op : Oper} {c : Act} {W : World} (x : Operand) (ho : op.op = .load 30 x) (a : Nat) (hx : c.eval x = .pointer (some ⟨a, 0, none⟩)) {cs : Array Value} (h : Blk W a 30 cs) (hs : cs.size = 3) :
    (execOp c.eval op).run Try.prog W = .ok (.value (.agg cs)) W := by
  unfold execOp
  simp only [ho, hx, Instr.loadAt, Instr.sureAddr, Sem.run_bind, Sem.run_pure, Result.andThen_ok, run_loadVar_row W a 30 30 cs (0, 0) _ h Try.underlying30 rfl (by rw [hs]; exact Try.sizeEvD)]
theorem step_push_evsG {ops : Array Oper} {o : Oper} {a : Act} {w : World} {K : Act → World → Prop} {Q : Exit → Act → World → Prop} {E : Prop} (hgd : o.guard = none) (s x : Operand)
    (ho : o.op = .call { callee := .builtin .append, args := #[s, x], argTypes := #[24, 24] })
    (B : Nat) (A : Option Addr) (c : Nat) (l m : List Bs.E) (hs : a.eval s = .slice A l.length c) (hown : OE w B A c l)
    (b off cc : Nat) (hx : a.eval x = .slice (some ⟨b, off, none⟩) m.length cc) (hc : ∀ j u, (m.flatMap ec)[j]? = some u → w.cell? ⟨b, off + j, none⟩ = some u) (hlen : l.length + m.length ≤ 1000000000) (hB : B ≤ w.heap.size)
    (h : ∀ A' c' w', OE w' B A' c' (l ++ m) → Below B w w' → w.grownBy w' (Value.slice A l.length c).ownBlock → K (a.put o.dst (.slice A' (l.length + m.length) c')) w') :
    if Region.wanted o (yielded ops a.tmps) = true then Oper.wp Try.prog o a w K Q else E := by
  have hw : Region.wanted o (yielded ops a.tmps) = true := by simp [Region.wanted, hgd]
  rw [if_pos hw]
  obtain ⟨i0, hi0, hz0, hz1, hz2⟩ := info_parts Try.infoEvD
  obtain ⟨v', w', hr, hown', hg, _⟩ := run_append_own (P := Try.prog) w B 24 o.type 30 i0 _ 3 24 Try.underlying24 hi0 hz0 hz1 hz2 rfl (by decide) _ _ _ hown ⟨b, off, none⟩ m.length cc (m.flatMap ec) OE.len
    (by intro j u hj; rw [Addr.add_lit]; exact hc j u hj) (fun u hu => ec_one hu) (by unfold maxLen; omega) (by omega) hB
  have h1 : w'.ownsRow B 30 3 v' (l ++ m).length ((l ++ m).flatMap ec) := by
    rw [List.length_append, List.flatMap_append]
    exact hown'
  obtain ⟨A', c', hv, ho'⟩ := OE.form h1
  rw [hv, List.length_append] at hr
  have hb : Below B w w' := by
    refine (Below.refl B w).grown hg hB ?_
    intro k hk
    exact (hown.lt k hk).1
  unfold Oper.wp
  simp [execOp, ho, resolve, invoke, builtin, hs, hx, hr, Result.andThen]
  exact h A' c' w' ho' hb hg
set_option linter.unusedSimpArgs false in
set_option linter.unusedVariables false in
set_option maxRecDepth 20000 in
set_option maxHeartbeats 6400000 in
theorem fnValidLogTwice_walk (A : Option Addr) (c : Nat) (l : List Int) (w : World) (hb : RB w 0 w.heap.size A l) (hlc : l.length ≤ c ∧ c ≤ maxLen) :
    Calls Try.prog 4 #[.slice A l.length c] w fun e w' => e = .returned (.bool true) ∧ Below w.heap.size w w' := by
  have hl63 : l.length ≤ 9223372036854775807 := by have := hlc.2; unfold maxLen at this; omega
  by_cases hbig : 1048576 < l.length
  · go_enter Try.func4, Try.ntmps4
    go_wp2
    go_ret
    exact ⟨rfl, Below.refl _ _⟩
  · have C1 := Lib.hid (DrawValidLog_any A c l w hb hlc.1 hlc.2)
    clear hb
    go_enter Try.func4, Try.ntmps4
    go_wp2_with fail
    refine (C1.out).mono ?_
    rintro e w1 ⟨⟨A1, c1, g, A0, c0, d, rfl, hg, hg16, hgc, hcm, hd, hd100, hdc, hdm⟩, hb1⟩
    have HG := Lib.hid hg
    have HD := Lib.hid hd
    have s1 := hb1.size
    have hl9 : g.length ≤ 9223372036854775807 := by omega
    have hd9 : d.length ≤ 9223372036854775807 := by omega
    have c2 := fun W hg hs hd hs2 => ValidLog_any A1 c1 g A0 c0 d w.heap.size w1.heap.size w.heap.size w1.heap.size W hg hs hd hs2 hl9 hd9
    have cs := fun W hg hs hd hs2 => ValidLogS_any A1 c1 g A0 c0 d w.heap.size w1.heap.size w.heap.size w1.heap.size W hg hs hd hs2 hl9 hd9
    have C2 := Lib.hid (c2 w1 HG.out (Nat.le_refl _) HD.out (Nat.le_refl _))
    obtain ⟨ok, hok⟩ : ∃ ok, ok = Bs.logV g d := ⟨_, rfl⟩
    have HOK := Lib.hid hok
    rw [← hok] at C2 cs
    have CS := Lib.hid cs
    have HB1 := Lib.hid hb1
    clear C1 hg hd c2 cs hb1 hok
    go_wp2_with fail
    refine (C2.out).mono ?_
    rintro e w2 ⟨rfl, hb2⟩
    have s2 := hb2.size
    have HG2 := Lib.hid (HG.out.below hb2 (Nat.le_refl _))
    have HD2 := Lib.hid (HD.out.below hb2 (Nat.le_refl _))
    have HB2 := Lib.hid (HB1.out.trans (hb2.mono s1))
    have C3 := Lib.hid (CS.out w2 HG2.out s2 HD2.out s2)
    clear hb2 C2 HG HD HB1
    go_wp2_with fail
    refine (C3.out).mono ?_
    rintro e w3 ⟨rfl, hb3⟩
    have s3 := hb3.size
    have HG3 := Lib.hid (HG2.out.below hb3 s2)
    have HD3 := Lib.hid (HD2.out.below hb3 s2)
    have HB3 := Lib.hid (HB2.out.trans (hb3.mono (Nat.le_trans s1 s2)))
    have hs3 : w1.heap.size ≤ w3.heap.size := Nat.le_trans s2 s3
    have hne : (ok != ok) = false := by simp
    have heq : (ok == ok) = true := by simp
    have s13 : w.heap.size ≤ w3.heap.size := Nat.le_trans s1 hs3
    clear hb3 C3 HG2 HD2 HB2
    by_cases hag : ok = false ∨ d.length = 0
    · have C6 := Lib.hid (CS.out w3 HG3.out hs3 HD3.out hs3)
      rcases hag with h0 | h0
      · subst h0
        clear HOK CS
        go_wp2_with fail
        refine (C6.out).mono ?_
        rintro e w6 ⟨rfl, hb6⟩
        have HB6 := Lib.hid (HB3.out.trans (hb6.mono s13))
        clear hb6 C6
        go_wp2
        go_ret
        exact ⟨rfl, HB6.out⟩
      · have z1 : ((d.length : Int) == 0) = true := by rw [h0]; rfl
        cases ok
        all_goals
          clear HOK CS h0
          go_wp2_with fail
          refine (C6.out).mono ?_
          rintro e w6 ⟨rfl, hb6⟩
          have HB6 := Lib.hid (HB3.out.trans (hb6.mono s13))
          clear hb6 C6
          go_wp2
          go_ret
          exact ⟨rfl, HB6.out⟩
    obtain ⟨hok1, h0⟩ := not_or.1 hag
    have hokt : ok = true := by cases ok; exact absurd rfl hok1; rfl
    subst hokt
    have z1 : ((d.length : Int) == 0) = false := by rw [beq_eq_false_iff_ne]; omega
    have z1' : (d.length == 0) = false := by rw [beq_eq_false_iff_ne]; omega
    have hpos : 0 < d.length := by omega
    have HLV := Lib.hid HOK.out.symm
    clear HOK CS hne heq hag hok1
    have hlt16 : d.length ≤ 16 := (Bs.logV_iff.1 HLV.out).2.1
    obtain ⟨n, hn⟩ : ∃ n, d.length = n + 1 := ⟨d.length - 1, by omega⟩
    obtain ⟨bA, oA, hA, hbA1, hbA2, p0, p1, p2⟩ := HD3.out.at_ hpos
    obtain ⟨bB, oB, hB, _, _, q0, _, _⟩ := HD3.out.at_ (k := n) (by omega)
    rw [hA] at hB
    cases hB
    subst hA
    have HNO := Lib.hid (Bs.log_twice HLV.out hpos (Bs.ge d n).at_)
    generalize (Bs.ge d 0).at_ = x0 at *
    generalize (Bs.ge d 0).task = x1 at *
    generalize (Bs.ge d 0).over = x2 at *
    generalize (Bs.ge d n).at_ = y0 at *
    rw [Nat.zero_mul, Nat.add_zero] at p0 p1 p2
    have hgl : IntKind.i64.wrap ((d.length : Int) - 1) = (n : Int) := by rw [show (d.length : Int) - 1 = (n : Int) by omega]; exact IntWalk.i64_in _ ⟨by omega, by omega⟩
    have i0 : (0 : Int) ≤ (n : Int) := by omega
    have i1 : (n : Int) < (d.length : Int) := by omega
    have i2 : (0 : Int) < (d.length : Int) := by omega
    have hsA : bA < w3.heap.size := by omega
    have q0' : (w3.alloc (.cells #[.int .i64 x0, .int .i64 x1, .bool x2] 30)).cell? ⟨bA, oA + n * 3, none⟩ = some (.int .i64 y0) := by
      rw [World.cell?_alloc_some _ _ _ (by rw [q0]; rfl)]; exact q0
    have HX0 := Lib.hid (Blk.set_ (Blk.new w3 30 #[.int .i64 x0, .int .i64 x1, .bool x2]) 0 (.int .i64 y0))
    have HBX := Lib.hid ((((Below.refl w3.heap.size w3).alloc (Nat.le_refl _) (.cells #[.int .i64 x0, .int .i64 x1, .bool x2] 30)).trans ((OnlyB.setE (w3.alloc (.cells #[.int .i64 x0, .int .i64 x1, .bool x2] 30)) w3.heap.size 0 (.int .i64 y0)).below (Nat.le_refl _))))
    have HN := Lib.hid hn
    clear HLV hn
    go_wp2_with fail
    obtain ⟨W, hW⟩ : ∃ W, W = w3.alloc (.cells #[.int .i64 y0, .int .i64 x1, .bool x2] 30) := ⟨_, rfl⟩
    rw [← hW]
    have HXW := Lib.hid (show Blk W w3.heap.size 30 #[.int .i64 y0, .int .i64 x1, .bool x2] from by rw [hW]; exact Blk.new w3 _ _)
    have HBW := Lib.hid (show Below w3.heap.size w3 W from by rw [hW]; exact (Below.refl w3.heap.size w3).alloc (Nat.le_refl _) _)
    have sW : W.heap.size = w3.heap.size + 1 := by rw [hW]; simp
    clear hW q0' p0 p1 p2 q0 HX0 HBX
    have HDC := Lib.hid (fun (W' : World) (hb : Below w3.heap.size w3 W') => RE.cells (HD3.out.below hb hs3))
    have HC := Lib.hid (fun (W' : World) (A6 : Option Addr) (c6 : Nat) (hb : Below w3.heap.size w3 W') (ho : OE W' w3.heap.size A6 c6 (d ++ [⟨y0, x1, x2⟩])) => show Calls Try.prog 16 #[.slice A1 g.length c1, .slice A6 (d.length + 1) c6] W' (fun e w' => e = .returned (.bool false) ∧ Below W'.heap.size W' w') from by
      have h := ValidLog_any A1 c1 g A6 c6 (d ++ [⟨y0, x1, x2⟩]) w.heap.size w1.heap.size w3.heap.size W'.heap.size W' (HG3.out.below hb hs3) (Nat.le_trans hs3 hb.size) ho.re (Nat.le_refl _) hl9 (by simp; omega)
      rw [HNO.out, List.length_append] at h
      exact h)
    clear HNO
    refine wp_region_held_drew (S := fun W' => Blk W' w3.heap.size 30 #[.int .i64 y0, .int .i64 x1, .bool x2]) (by kernel_rfl) HXW.out (fun hHeld => ?_)
    obtain ⟨V, hV⟩ : ∃ V, V = W.drew := ⟨_, rfl⟩
    rw [← hV] at hHeld ⊢
    have HBV := Lib.hid (show Below w3.heap.size w3 V from by rw [hV]; exact HBW.out.drewN 1)
    have SV := Lib.hid (show V.heap.size = w3.heap.size + 1 from by rw [hV]; exact sW)
    clear hV HXW HBW sW
    refine wpAnyH_take (i := 0) (v := .slice A1 g.length c1) rfl (by kernel_rfl) (by kernel_rfl) (by kernel_rfl) (fun _ _ _ h => h) (Or.inl ⟨by rfl, fun W hS => by first | rfl | (go_simp; done) | (go_simp; rfl)⟩) hHeld ?_
    try simp only [Act.put, List.getElem_toArray, List.getElem_cons_zero, List.getElem_cons_succ, List.setIfInBounds_toArray, List.set_cons_zero, List.set_cons_succ]
    refine wpAnyH_take (i := 2) (v := .slice (some ⟨bA, oA, none⟩) d.length c0) rfl (by kernel_rfl) (by kernel_rfl) (by kernel_rfl) (fun _ _ _ h => h) (Or.inl ⟨by rfl, fun W hS => by first | rfl | (go_simp; done) | (go_simp; rfl)⟩) hHeld ?_
    try simp only [Act.put, List.getElem_toArray, List.getElem_cons_zero, List.getElem_cons_succ, List.setIfInBounds_toArray, List.set_cons_zero, List.set_cons_succ]
    refine wpAnyH_take (i := 4) (v := .agg #[.int .i64 y0, .int .i64 x1, .bool x2]) rfl (by kernel_rfl) (by kernel_rfl) (by kernel_rfl) (fun _ _ _ h => h) (Or.inl ⟨by rfl, fun W hS => run_evL _ rfl w3.heap.size rfl hS rfl⟩) hHeld ?_
    try simp only [Act.put, List.getElem_toArray, List.getElem_cons_zero, List.getElem_cons_succ, List.setIfInBounds_toArray, List.set_cons_zero, List.set_cons_succ]
    refine wpAnyH_ready (rs := [1, 5]) (by kernel_rfl) (by simp) ?_
    refine AllReadyH.cons rfl (fun K hK => ?_) (AllReadyH.cons rfl (fun K hK => ?_) AllReadyH.nil)
    · rw [if_pos (by rfl)]
      go_simp
      refine hK.out _ _ (Blk.alloc hHeld _) (fun hHeld => ?_)
      clear hK K
      try simp only [Act.put, List.getElem_toArray, List.getElem_cons_zero, List.getElem_cons_succ, List.setIfInBounds_toArray, List.set_cons_zero, List.set_cons_succ]
      refine wpAnyH_ready (rs := [3, 5]) (by kernel_rfl) (by simp) ?_
      refine AllReadyH.cons rfl (fun K hK => ?_) (AllReadyH.cons rfl (fun K hK => ?_) AllReadyH.nil)
      · refine step_push_evsG rfl _ _ rfl V.heap.size (some ⟨V.heap.size, 0, none⟩) 0 [] d rfl (OE.nil V V.heap.size (Nat.le_refl _)) bA oA c0 rfl (HDC.out _ ((HBV.out).alloc (by first | (simp; done) | (have := SV.out; simp; omega) | (have := SV.out; omega)) (.cells #[] 30))) (by first | (simp; done) | (have := SV.out; simp; omega) | (have := SV.out; omega)) (by first | (simp; done) | (have := SV.out; simp; omega) | (have := SV.out; omega)) ?_
        intro A4 c4 w4 ho4 hb4 hg4
        have s4' := hb4.size
        simp only [World.size_alloc] at s4'
        rw [show ([] : List Bs.E).length + d.length = d.length from Nat.zero_add _]
        have HO4 := Lib.hid (show OE w4 _ A4 c4 d from ho4)
        have HB4 := Lib.hid (show Below w3.heap.size w3 w4 from (((HBV.out).alloc (by first | (simp; done) | (have := SV.out; simp; omega) | (have := SV.out; omega)) (.cells #[] 30))).trans (hb4.mono (by first | (simp; done) | (have := SV.out; simp; omega) | (have := SV.out; omega))))
        have s4 := HB4.out.size
        skip
        have HX4 := Lib.hid (show Blk w4 w3.heap.size 30 #[.int .i64 y0, .int .i64 x1, .bool x2] from Blk.below hHeld hb4 (by first | (simp; done) | (have := SV.out; simp; omega) | (have := SV.out; omega)))
        clear ho4 hb4 hg4
        try go_simp
        refine hK.out _ _ HX4.out (fun hHeld => ?_)
        clear hK K
        try simp only [Act.put, List.getElem_toArray, List.getElem_cons_zero, List.getElem_cons_succ, List.setIfInBounds_toArray, List.set_cons_zero, List.set_cons_succ]
        refine wpAnyH_ready (rs := [5]) (by kernel_rfl) (by simp) ?_
        refine AllReadyH.cons rfl (fun K hK => ?_) AllReadyH.nil
        rw [if_pos (by rfl)]
        go_simp
        refine hK.out _ _ (Blk.alloc hHeld _) (fun hHeld => ?_)
        clear hK K
        try simp only [Act.put, List.getElem_toArray, List.getElem_cons_zero, List.getElem_cons_succ, List.setIfInBounds_toArray, List.set_cons_zero, List.set_cons_succ]
        refine wpAnyH_ready (rs := [6]) (by kernel_rfl) (by simp) ?_
        refine AllReadyH.cons rfl (fun K hK => ?_) AllReadyH.nil
        refine step_push_ev rfl _ _ rfl _ A4 c4 d ⟨y0, x1, x2⟩ rfl (HO4.out.alloc _) w4.heap.size 1 rfl (fun j u hu => new_cellsE w4 ⟨y0, x1, x2⟩ j u (by simpa using hu)) (by omega) (by first | (simp; done) | (have := SV.out; simp; omega) | (have := SV.out; omega)) ?_
        intro A6 c6 w6 ho6 hb6
        have HO6 := Lib.hid (ho6.lower (B' := w3.heap.size) (by first | (simp; done) | (have := SV.out; simp; omega) | (have := SV.out; omega)))
        have HB6 := Lib.hid (show Below w3.heap.size w3 w6 from (HB4.out.alloc HB4.out.size (.cells #[.int .i64 y0, .int .i64 x1, .bool x2] 30)).trans (hb6.mono (by first | (simp; done) | (have := SV.out; simp; omega) | (have := SV.out; omega))))
        have HX6 := Lib.hid (show Blk w6 w3.heap.size 30 #[.int .i64 y0, .int .i64 x1, .bool x2] from Blk.below hHeld hb6 (by first | (simp; done) | (have := SV.out; simp; omega) | (have := SV.out; omega)))
        clear ho6 hb6
        try go_simp
        refine hK.out _ _ HX6.out (fun hHeld => ?_)
        clear hK K
        try simp only [Act.put, List.getElem_toArray, List.getElem_cons_zero, List.getElem_cons_succ, List.setIfInBounds_toArray, List.set_cons_zero, List.set_cons_succ]
        refine wpAnyH_ready (rs := [7]) (by kernel_rfl) (by simp) ?_
        refine AllReadyH.cons rfl (fun K hK => ?_) AllReadyH.nil
        rw [if_pos (by rfl)]
        go_simp
        go_at_call 16
        with_reducible refine (HC.out w6 A6 c6 HB6.out HO6.out).mono ?_
        rintro e w7 ⟨rfl, hb7⟩
        have HB7 := Lib.hid (HB6.out.trans (hb7.mono HB6.out.size))
        have HX7 := Lib.hid (show Blk w7 w3.heap.size 30 #[.int .i64 y0, .int .i64 x1, .bool x2] from Blk.below HX6.out hb7 (Blk.lt HX6.out))
        clear hb7
        go_wp2_with fail
        refine hK.out _ _ HX7.out (fun hHeld => ?_)
        clear hK K
        try simp only [Act.put, List.getElem_toArray, List.getElem_cons_zero, List.getElem_cons_succ, List.setIfInBounds_toArray, List.set_cons_zero, List.set_cons_succ]
        refine wpAnyH_take (i := 8) (v := .bool true) rfl (by kernel_rfl) (by kernel_rfl) (by kernel_rfl) (fun _ _ _ h => h) (Or.inl ⟨by rfl, fun W hS => by first | rfl | (go_simp; done) | (go_simp; rfl)⟩) hHeld ?_
        try simp only [Act.put, List.getElem_toArray, List.getElem_cons_zero, List.getElem_cons_succ, List.setIfInBounds_toArray, List.set_cons_zero, List.set_cons_succ]
        refine wpAnyH_take (i := 9) (v := .bool true) rfl (by kernel_rfl) (by kernel_rfl) (by kernel_rfl) (fun _ _ _ h => h) (Or.inl ⟨by rfl, fun W hS => by first | rfl | (go_simp; done) | (go_simp; rfl)⟩) hHeld ?_
        try simp only [Act.put, List.getElem_toArray, List.getElem_cons_zero, List.getElem_cons_succ, List.setIfInBounds_toArray, List.set_cons_zero, List.set_cons_succ]
        refine wpAnyH_done (by kernel_rfl) ?_ _
        go_wp2
        go_ret
        exact ⟨rfl, HB3.out.trans (HB7.out.mono s13)⟩
      · rw [if_pos (by rfl)]
        go_simp
        refine hK.out _ _ (Blk.alloc hHeld _) (fun hHeld => ?_)
        clear hK K
        try simp only [Act.put, List.getElem_toArray, List.getElem_cons_zero, List.getElem_cons_succ, List.setIfInBounds_toArray, List.set_cons_zero, List.set_cons_succ]
        refine wpAnyH_ready (rs := [3]) (by kernel_rfl) (by simp) ?_
        refine AllReadyH.cons rfl (fun K hK => ?_) AllReadyH.nil
        refine step_push_evsG rfl _ _ rfl V.heap.size (some ⟨V.heap.size, 0, none⟩) 0 [] d rfl ((OE.nil V V.heap.size (Nat.le_refl _)).alloc _) bA oA c0 rfl (HDC.out _ (((HBV.out).alloc (by first | (simp; done) | (have := SV.out; simp; omega) | (have := SV.out; omega)) (.cells #[] 30)).alloc (by first | (simp; done) | (have := SV.out; simp; omega) | (have := SV.out; omega)) (.cells #[.int .i64 y0, .int .i64 x1, .bool x2] 30))) (by first | (simp; done) | (have := SV.out; simp; omega) | (have := SV.out; omega)) (by first | (simp; done) | (have := SV.out; simp; omega) | (have := SV.out; omega)) ?_
        intro A4 c4 w4 ho4 hb4 hg4
        have s4' := hb4.size
        simp only [World.size_alloc] at s4'
        rw [show ([] : List Bs.E).length + d.length = d.length from Nat.zero_add _]
        have HO4 := Lib.hid (show OE w4 _ A4 c4 d from ho4)
        have HB4 := Lib.hid (show Below w3.heap.size w3 w4 from ((((HBV.out).alloc (by first | (simp; done) | (have := SV.out; simp; omega) | (have := SV.out; omega)) (.cells #[] 30)).alloc (by first | (simp; done) | (have := SV.out; simp; omega) | (have := SV.out; omega)) (.cells #[.int .i64 y0, .int .i64 x1, .bool x2] 30))).trans (hb4.mono (by first | (simp; done) | (have := SV.out; simp; omega) | (have := SV.out; omega))))
        have s4 := HB4.out.size
        have HY4 := Lib.hid (show Blk w4 (V.heap.size + 1) 30 #[.int .i64 y0, .int .i64 x1, .bool x2] from (hg4.block (V.heap.size + 1) (by first | (simp; done) | (have := SV.out; simp; omega) | (have := SV.out; omega)) (by simp [Value.ownBlock])).trans (by have := Blk.new (V.alloc (.cells #[] 30)) 30 #[.int .i64 y0, .int .i64 x1, .bool x2]; rw [World.size_alloc] at this; exact this))
        have HX4 := Lib.hid (show Blk w4 w3.heap.size 30 #[.int .i64 y0, .int .i64 x1, .bool x2] from Blk.below hHeld hb4 (by first | (simp; done) | (have := SV.out; simp; omega) | (have := SV.out; omega)))
        clear ho4 hb4 hg4
        try go_simp
        refine hK.out _ _ HX4.out (fun hHeld => ?_)
        clear hK K
        try simp only [Act.put, List.getElem_toArray, List.getElem_cons_zero, List.getElem_cons_succ, List.setIfInBounds_toArray, List.set_cons_zero, List.set_cons_succ]
        refine wpAnyH_ready (rs := [6]) (by kernel_rfl) (by simp) ?_
        refine AllReadyH.cons rfl (fun K hK => ?_) AllReadyH.nil
        refine step_push_ev rfl _ _ rfl _ A4 c4 d ⟨y0, x1, x2⟩ rfl HO4.out (V.heap.size + 1) 1 rfl (fun j u hu => by rw [HY4.out.cell]; simpa [ec] using hu) (by omega) (by first | (simp; done) | (have := SV.out; simp; omega) | (have := SV.out; omega)) ?_
        intro A6 c6 w6 ho6 hb6
        have HO6 := Lib.hid (ho6.lower (B' := w3.heap.size) (by first | (simp; done) | (have := SV.out; simp; omega) | (have := SV.out; omega)))
        have HB6 := Lib.hid (show Below w3.heap.size w3 w6 from (HB4.out).trans (hb6.mono (by first | (simp; done) | (have := SV.out; simp; omega) | (have := SV.out; omega))))
        have HX6 := Lib.hid (show Blk w6 w3.heap.size 30 #[.int .i64 y0, .int .i64 x1, .bool x2] from Blk.below hHeld hb6 (by first | (simp; done) | (have := SV.out; simp; omega) | (have := SV.out; omega)))
        clear ho6 hb6
        try go_simp
        refine hK.out _ _ HX6.out (fun hHeld => ?_)
        clear hK K
        try simp only [Act.put, List.getElem_toArray, List.getElem_cons_zero, List.getElem_cons_succ, List.setIfInBounds_toArray, List.set_cons_zero, List.set_cons_succ]
        refine wpAnyH_ready (rs := [7]) (by kernel_rfl) (by simp) ?_
        refine AllReadyH.cons rfl (fun K hK => ?_) AllReadyH.nil
        rw [if_pos (by rfl)]
        go_simp
        go_at_call 16
        with_reducible refine (HC.out w6 A6 c6 HB6.out HO6.out).mono ?_
        rintro e w7 ⟨rfl, hb7⟩
        have HB7 := Lib.hid (HB6.out.trans (hb7.mono HB6.out.size))
        have HX7 := Lib.hid (show Blk w7 w3.heap.size 30 #[.int .i64 y0, .int .i64 x1, .bool x2] from Blk.below HX6.out hb7 (Blk.lt HX6.out))
        clear hb7
        go_wp2_with fail
        refine hK.out _ _ HX7.out (fun hHeld => ?_)
        clear hK K
        try simp only [Act.put, List.getElem_toArray, List.getElem_cons_zero, List.getElem_cons_succ, List.setIfInBounds_toArray, List.set_cons_zero, List.set_cons_succ]
        refine wpAnyH_take (i := 8) (v := .bool true) rfl (by kernel_rfl) (by kernel_rfl) (by kernel_rfl) (fun _ _ _ h => h) (Or.inl ⟨by rfl, fun W hS => by first | rfl | (go_simp; done) | (go_simp; rfl)⟩) hHeld ?_
        try simp only [Act.put, List.getElem_toArray, List.getElem_cons_zero, List.getElem_cons_succ, List.setIfInBounds_toArray, List.set_cons_zero, List.set_cons_succ]
        refine wpAnyH_take (i := 9) (v := .bool true) rfl (by kernel_rfl) (by kernel_rfl) (by kernel_rfl) (fun _ _ _ h => h) (Or.inl ⟨by rfl, fun W hS => by first | rfl | (go_simp; done) | (go_simp; rfl)⟩) hHeld ?_
        try simp only [Act.put, List.getElem_toArray, List.getElem_cons_zero, List.getElem_cons_succ, List.setIfInBounds_toArray, List.set_cons_zero, List.set_cons_succ]
        refine wpAnyH_done (by kernel_rfl) ?_ _
        go_wp2
        go_ret
        exact ⟨rfl, HB3.out.trans (HB7.out.mono s13)⟩
    · rw [if_pos (by rfl)]
      go_simp
      refine hK.out _ _ (Blk.alloc hHeld _) (fun hHeld => ?_)
      clear hK K
      try simp only [Act.put, List.getElem_toArray, List.getElem_cons_zero, List.getElem_cons_succ, List.setIfInBounds_toArray, List.set_cons_zero, List.set_cons_succ]
      refine wpAnyH_ready (rs := [1]) (by kernel_rfl) (by simp) ?_
      refine AllReadyH.cons rfl (fun K hK => ?_) AllReadyH.nil
      rw [if_pos (by rfl)]
      go_simp
      refine hK.out _ _ (Blk.alloc hHeld _) (fun hHeld => ?_)
      clear hK K
      try simp only [Act.put, List.getElem_toArray, List.getElem_cons_zero, List.getElem_cons_succ, List.setIfInBounds_toArray, List.set_cons_zero, List.set_cons_succ]
      refine wpAnyH_ready (rs := [3]) (by kernel_rfl) (by simp) ?_
      refine AllReadyH.cons rfl (fun K hK => ?_) AllReadyH.nil
      refine step_push_evsG rfl _ _ rfl (V.heap.size + 1) (some ⟨V.heap.size + 1, 0, none⟩) 0 [] d rfl (by have := OE.nil (V.alloc (.cells #[.int .i64 y0, .int .i64 x1, .bool x2] 30)) (V.heap.size + 1) (by first | (simp; done) | (have := SV.out; simp; omega) | (have := SV.out; omega)); simpa using this) bA oA c0 rfl (HDC.out _ (((HBV.out).alloc (by first | (simp; done) | (have := SV.out; simp; omega) | (have := SV.out; omega)) (.cells #[.int .i64 y0, .int .i64 x1, .bool x2] 30)).alloc (by first | (simp; done) | (have := SV.out; simp; omega) | (have := SV.out; omega)) (.cells #[] 30))) (by first | (simp; done) | (have := SV.out; simp; omega) | (have := SV.out; omega)) (by first | (simp; done) | (have := SV.out; simp; omega) | (have := SV.out; omega)) ?_
      intro A4 c4 w4 ho4 hb4 hg4
      have s4' := hb4.size
      simp only [World.size_alloc] at s4'
      rw [show ([] : List Bs.E).length + d.length = d.length from Nat.zero_add _]
      have HO4 := Lib.hid (show OE w4 _ A4 c4 d from ho4)
      have HB4 := Lib.hid (show Below w3.heap.size w3 w4 from ((((HBV.out).alloc (by first | (simp; done) | (have := SV.out; simp; omega) | (have := SV.out; omega)) (.cells #[.int .i64 y0, .int .i64 x1, .bool x2] 30)).alloc (by first | (simp; done) | (have := SV.out; simp; omega) | (have := SV.out; omega)) (.cells #[] 30))).trans (hb4.mono (by first | (simp; done) | (have := SV.out; simp; omega) | (have := SV.out; omega))))
      have s4 := HB4.out.size
      have HY4 := Lib.hid (show Blk w4 V.heap.size 30 #[.int .i64 y0, .int .i64 x1, .bool x2] from Blk.below (Blk.alloc (Blk.new V 30 #[.int .i64 y0, .int .i64 x1, .bool x2]) _) hb4 (by first | (simp; done) | (have := SV.out; simp; omega) | (have := SV.out; omega)))
      have HX4 := Lib.hid (show Blk w4 w3.heap.size 30 #[.int .i64 y0, .int .i64 x1, .bool x2] from Blk.below hHeld hb4 (by first | (simp; done) | (have := SV.out; simp; omega) | (have := SV.out; omega)))
      clear ho4 hb4 hg4
      try go_simp
      refine hK.out _ _ HX4.out (fun hHeld => ?_)
      clear hK K
      try simp only [Act.put, List.getElem_toArray, List.getElem_cons_zero, List.getElem_cons_succ, List.setIfInBounds_toArray, List.set_cons_zero, List.set_cons_succ]
      refine wpAnyH_ready (rs := [6]) (by kernel_rfl) (by simp) ?_
      refine AllReadyH.cons rfl (fun K hK => ?_) AllReadyH.nil
      refine step_push_ev rfl _ _ rfl _ A4 c4 d ⟨y0, x1, x2⟩ rfl HO4.out V.heap.size 1 rfl (fun j u hu => by rw [HY4.out.cell]; simpa [ec] using hu) (by omega) (by first | (simp; done) | (have := SV.out; simp; omega) | (have := SV.out; omega)) ?_
      intro A6 c6 w6 ho6 hb6
      have HO6 := Lib.hid (ho6.lower (B' := w3.heap.size) (by first | (simp; done) | (have := SV.out; simp; omega) | (have := SV.out; omega)))
      have HB6 := Lib.hid (show Below w3.heap.size w3 w6 from (HB4.out).trans (hb6.mono (by first | (simp; done) | (have := SV.out; simp; omega) | (have := SV.out; omega))))
      have HX6 := Lib.hid (show Blk w6 w3.heap.size 30 #[.int .i64 y0, .int .i64 x1, .bool x2] from Blk.below hHeld hb6 (by first | (simp; done) | (have := SV.out; simp; omega) | (have := SV.out; omega)))
      clear ho6 hb6
      try go_simp
      refine hK.out _ _ HX6.out (fun hHeld => ?_)
      clear hK K
      try simp only [Act.put, List.getElem_toArray, List.getElem_cons_zero, List.getElem_cons_succ, List.setIfInBounds_toArray, List.set_cons_zero, List.set_cons_succ]
      refine wpAnyH_ready (rs := [7]) (by kernel_rfl) (by simp) ?_
      refine AllReadyH.cons rfl (fun K hK => ?_) AllReadyH.nil
      rw [if_pos (by rfl)]
      go_simp
      go_at_call 16
      with_reducible refine (HC.out w6 A6 c6 HB6.out HO6.out).mono ?_
      rintro e w7 ⟨rfl, hb7⟩
      have HB7 := Lib.hid (HB6.out.trans (hb7.mono HB6.out.size))
      have HX7 := Lib.hid (show Blk w7 w3.heap.size 30 #[.int .i64 y0, .int .i64 x1, .bool x2] from Blk.below HX6.out hb7 (Blk.lt HX6.out))
      clear hb7
      go_wp2_with fail
      refine hK.out _ _ HX7.out (fun hHeld => ?_)
      clear hK K
      try simp only [Act.put, List.getElem_toArray, List.getElem_cons_zero, List.getElem_cons_succ, List.setIfInBounds_toArray, List.set_cons_zero, List.set_cons_succ]
      refine wpAnyH_take (i := 8) (v := .bool true) rfl (by kernel_rfl) (by kernel_rfl) (by kernel_rfl) (fun _ _ _ h => h) (Or.inl ⟨by rfl, fun W hS => by first | rfl | (go_simp; done) | (go_simp; rfl)⟩) hHeld ?_
      try simp only [Act.put, List.getElem_toArray, List.getElem_cons_zero, List.getElem_cons_succ, List.setIfInBounds_toArray, List.set_cons_zero, List.set_cons_succ]
      refine wpAnyH_take (i := 9) (v := .bool true) rfl (by kernel_rfl) (by kernel_rfl) (by kernel_rfl) (fun _ _ _ h => h) (Or.inl ⟨by rfl, fun W hS => by first | rfl | (go_simp; done) | (go_simp; rfl)⟩) hHeld ?_
      try simp only [Act.put, List.getElem_toArray, List.getElem_cons_zero, List.getElem_cons_succ, List.setIfInBounds_toArray, List.set_cons_zero, List.set_cons_succ]
      refine wpAnyH_done (by kernel_rfl) ?_ _
      go_wp2
      go_ret
      exact ⟨rfl, HB3.out.trans (HB7.out.mono s13)⟩
end Go.Proofs.Ytenneicbhpjfmaa
