/-
  WALKS: slack times of the model.
-/
import Derived.Test.YtiokblodjhmjmabW19
import Derived.Test.YtiokblodjhmjmabMem2
import Derived.Deep.RegionHeld3
import Derived.Deep.RegionLawGrows
namespace Go.Proofs.Ytiokblodjhmjmab
open Go.RowKit
/-- 'out = append(out, q)' in a region that draws its order -/
theorem step_push_z {ops : Array Oper} {o : Oper} {a : Act} {w : World} {K : Act → World → Prop} {Q : Exit → Act → World → Prop} {E : Prop} (hgd : o.guard = none) (s x : Operand)
    (ho : o.op = .call { callee := .builtin .append, args := #[s, x], argTypes := #[25, 25] })
    (B : Nat) (A : Option Addr) (c : Nat) (l : List Int) (q : Int) (hs : a.eval s = .slice A l.length c) (hown : OZ w B A c l)
    (g cc : Nat) (hx : a.eval x = .slice (some ⟨g, 0, none⟩) 1 cc) (hc : w.cell? ⟨g, 0, none⟩ = some (.int .i64 q)) (hlen : l.length ≤ 1000000000) (hB : B ≤ w.heap.size)
    (h : ∀ A' c' w', OI w' B A' c' (l ++ [q]) → Below B w w' → K (a.put o.dst (.slice A' (l.length + 1) c')) w') : if Region.wanted o (yielded ops a.tmps) = true then Oper.wp Try.prog o a w K Q else E := by
  obtain ⟨i0, hi0, hz0, hz1, hz2⟩ := info_parts Try.info3
  have hnews : ∀ j u, [Value.int .i64 q][j]? = some u → w.cell? ((⟨g, 0, none⟩ : Addr).add j) = some u := by
    intro j u hj
    cases j with
    | zero =>
      simp only [List.getElem?_cons_zero, Option.some.injEq] at hj
      subst hj
      rw [Addr.add_lit]
      exact hc
    | succ j => simp at hj
  have hone : ∀ u ∈ [Value.int .i64 q], u.oneCell' = true := by
    intro u hu
    simp only [List.mem_singleton] at hu
    subst hu
    rfl
  rcases hown with ⟨rfl, rfl⟩ | hown
  · refine step_append_grows hgd s x 25 ho 3 i0 (.int .i64 0) 1 8 Try.underlying25 hi0 hz0 hz1 hz2 rfl (by decide) A 0 0 [] hs (fun _ => ⟨rfl, rfl⟩) rfl (fun _ _ j u hu => by simp at hu) ⟨g, 0, none⟩ 1 cc [.int .i64 q] hx rfl hnews hone (by omega) (by unfold maxLen; omega) (by omega) ?_
    intro v' w' hown' hg
    have h1 : w'.ownsRow w.heap.size 3 1 v' ([] ++ [q] : List Int).length (([] ++ [q] : List Int).map (Value.int .i64)) := hown'
    obtain ⟨A', c', hv, ho'⟩ := OI.form h1
    rw [hv]
    exact h A' c' w' (ho'.base hB) ((Below.refl B w).grown hg hB (fun k hk => by cases hk))
  · rw [if_pos (by simp [Region.wanted, hgd])]
    refine wp_append_own w s x 25 ho B 3 i0 (.int .i64 0) 1 8 Try.underlying25 hi0 hz0 hz1 hz2 rfl (by decide) _ _ _ hs hown ⟨g, 0, none⟩ 1 cc [.int .i64 q] hx rfl hnews hone (by unfold maxLen; omega) (by omega) hB ?_
    intro v' w' hown' hg _
    have h1 : w'.ownsRow B 3 1 v' (l ++ [q]).length ((l ++ [q]).map (Value.int .i64)) := by
      rw [List.length_append, List.map_append]
      exact hown'
    obtain ⟨A', c', hv, ho'⟩ := OI.form h1
    rw [hv, List.length_append]
    exact h A' c' w' ho' ((Below.refl B w).grown hg hB (fun k hk => (hown.lt k hk).1))

theorem headsS_ret (A : Option Addr) (c : Nat) (g : List Bs.T) (lo hi : Nat) (w : World) (hG : RG w lo hi A g) (hh : hi ≤ w.heap.size) (hf : Bs.valid g = true) :
    Calls Try.prog 53 #[.slice A g.length c] w (RetI w (Bs.headsC g)) := headsS_any A c g lo hi w hG hh (valid_fine hf)
set_option maxHeartbeats 3200000 in
theorem SlackTimesS_any (A : Option Addr) (c : Nat) (g : List Bs.T) (lo hi : Nat) (w : World) (hG : RG w lo hi A g) (hh : hi ≤ w.heap.size) (hl : g.length ≤ 9223372036854775807) :
    Calls Try.prog 23 #[.slice A g.length c] w (RetI w (slackL g)) := by
  have hb0 : Below w.heap.size w (w.alloc (.cells #[] 3)) := (Below.refl _ _).alloc (Nat.le_refl _) _
  have c1 := fun W (hb : Below w.heap.size w W) => validGraphS_any A c g lo hi W (hG.below hb hh) (Nat.le_trans hh hb.size) hl
  cases hf : Bs.valid g
  · rw [hf] at c1
    have C1 := Lib.hid c1
    have HV := Lib.hid (slackL_no hf)
    clear c1 hf
    go_enter Try.func23, Try.ntmps23
    go_wp2_with (go_at_call 48; refine (C1.out _ hb0).mono ?_; rintro e w' ⟨rfl, hb⟩)
    go_ret
    exact RetI.nil (hb0.trans (hb.mono hb0.size)) HV.out
  · rw [hf] at c1
    have C1 := Lib.hid c1
    have C2 := Lib.hid (fun W (hb : Below w.heap.size w W) => headsS_ret A c g lo hi W (hG.below hb hh) (Nat.le_trans hh hb.size) hf)
    have C3 := Lib.hid (fun W (hb : Below w.heap.size w W) => tailsS_ret A c g lo hi W (hG.below hb hh) (Nat.le_trans hh hb.size) hf)
    have C4 := Lib.hid (fun W (hb : Below w.heap.size w W) => longestS_any A c g lo hi W (hG.below hb hh) (Nat.le_trans hh hb.size) hf)
    have HV := Lib.hid ((slackL_yes hf).trans (show slackC g = (List.range g.length).map fun i => longC g - Bs.gi (Bs.headsC g) i - Bs.gi (Bs.tailsC g) i from rfl))
    obtain ⟨hhl, htl, hL0, hL1, hbd⟩ := bounds_of hf
    have h8 := Bs.fine_len (valid_fine hf)
    have HBD := Lib.hid hbd
    have hhl := Nat.le_of_eq hhl.symm
    have htl := Nat.le_of_eq htl.symm
    have o0 := OI.new w w.heap.size (Nat.le_refl _)
    clear c1 hf hbd
    generalize Bs.tailsC g = t at *
    generalize Bs.headsC g = hd at *
    generalize longC g = L at *
    go_enter Try.func23, Try.ntmps23
    go_wp2_with fail
    refine (C1.out _ hb0).mono ?_; rintro e w1 ⟨rfl, hb1⟩
    have hb01 := hb0.trans (hb1.mono hb0.size)
    have o1 := o0.below hb1 (Nat.le_refl _)
    go_wp2_with fail
    refine (C2.out _ hb01).mono ?_; rintro e w2 ⟨⟨A2, c2, rfl, ho2⟩, hb2⟩
    have hb02 := hb01.trans (hb2.mono hb01.size)
    have o2 := o1.below hb2 (Nat.le_refl _)
    go_wp2_with fail
    refine (C3.out _ hb02).mono ?_; rintro e w3 ⟨⟨A3, c3, rfl, ho3⟩, hb3⟩
    have hb03 := hb02.trans (hb3.mono hb02.size)
    have o3 := Lib.hid (o2.below hb3 (Nat.le_refl _))
    have q2 := ho2.ri.below hb3 (Nat.le_refl _)
    have s3 := hb3.size
    have s03 := hb03.size
    have q3 := ho3.ri
    clear ho2 ho3 o0 o1 o2
    go_wp2
    go_loopw [3, 6] (fun v i wr => ∃ (k : Nat) (A' : Option Addr) (c' : Nat) (l : List Int), k ≤ g.length ∧ i = .int .i64 k ∧ l = (List.range k).map (fun i => L - Bs.gi hd i - Bs.gi t i) ∧ v = .slice A' l.length c' ∧ OZ wr w3.heap.size A' c' l ∧ OI wr w.heap.size A' c' l ∧ Below w3.heap.size w3 wr) (fun _ i _ => g.length - (intOf i).toNat)
    case atStart => exact ⟨0, _, _, [], Nat.zero_le _, rfl, rfl, rfl, .inl ⟨rfl, rfl⟩, o3.out, Below.refl _ _⟩
    case round =>
      obtain ⟨k, A', c', l, hk, rfl, hle, rfl, hz, ho, hb⟩ := hrel
      have hll : l.length ≤ 8 := by rw [hle]; simp; omega
      have HL := Lib.hid hle
      clear hle
      have sr := hb.size
      have hb0r := hb03.trans (hb.mono s03)
      by_cases hlt : k < g.length
      · obtain ⟨b, o, rfl, _, hbh, hc⟩ := ((q2.below hb s3).gi (k := k) (by omega))
        obtain ⟨b', o', rfl, _, hbt, hc'⟩ := ((q3.below hb (Nat.le_refl _)).gi (k := k) (by omega))
        obtain ⟨u1, u2, u3, u4⟩ := HBD.out k hlt
        have HX := Lib.hid (show l ++ [L - Bs.gi hd k - Bs.gi t k] = (List.range (k + 1)).map (fun i => L - Bs.gi hd i - Bs.gi t i) from by rw [List.range_succ, List.map_append, HL.out]; rfl)
        generalize Bs.gi hd k = x at *
        generalize Bs.gi t k = y at *
        have hk0 : (0 : Int) ≤ (k : Int) := by omega
        have hk1 : (k : Int) < (hd.length : Int) := by omega
        have hk2 : (k : Int) < (t.length : Int) := by omega
        have HW := Lib.hid (show IntKind.i64.wrap (IntKind.i64.wrap (L - x) - y) = L - x - y from by rw [IntWalk.i64_in (L - x) (by omega), IntWalk.i64_in (L - x - y) (by omega)])
        have kc1 : b < w3.heap.size := by omega
        have kc2 : b' < w3.heap.size := by omega
        have kb1 : b < wr.heap.size := by omega
        have kb2 : b' < wr.heap.size := by omega
        have C5 := Lib.hid (fun n => C4.out (wr.drewN n) (hb0r.drewN n))
        go_wp2
        go_region_held3 (fun w' => w'.cell? ⟨b, o + k, none⟩ = some (.int .i64 x) ∧ w'.cell? ⟨b', o' + k, none⟩ = some (.int .i64 y))
          (first | go_keep | (go_split_ands; refine ⟨?_, ?_⟩; (exact (hb4.cell (p := ⟨b, o + k, none⟩) kb1).trans hc); (exact (hb4.cell (p := ⟨b', o' + k, none⟩) kb2).trans hc')) | (go_split_ands; refine ⟨?_, ?_⟩; (exact ((hb5.cell (p := ⟨b, o + k, none⟩) kc1).trans (World.cell?_alloc_lt w4 _ ⟨b, o + k, none⟩ (Nat.lt_of_lt_of_le kb1 s4))).trans ((hb4.cell (p := ⟨b, o + k, none⟩) kb1).trans hc)); (exact ((hb5.cell (p := ⟨b', o' + k, none⟩) kc2).trans (World.cell?_alloc_lt w4 _ ⟨b', o' + k, none⟩ (Nat.lt_of_lt_of_le kb2 s4))).trans ((hb4.cell (p := ⟨b', o' + k, none⟩) kb2).trans hc'))))
          (first | (go_at_call 50; refine (C5.out 1).mono ?_; rintro e w4 ⟨rfl, hb4⟩; have hz4 := (hz.drewN 1).below hb4 (Nat.le_refl _); have s4 : wr.heap.size ≤ w4.heap.size := hb4.size) | ((refine step_push_z rfl _ _ rfl w3.heap.size A' c' l (IntKind.i64.wrap (IntKind.i64.wrap (L - x) - y)) rfl ?_ w4.heap.size 1 rfl ?_ ?_ ?_ ?_; (exact hz4.alloc _); (simp [go_sem]); omega; (simp; omega); intro A5 c5 w5 ho5 hb5)))
        go_wp2
        rw [HW.out] at ho5
        have hb45 : Below w3.heap.size w3 w4 := (hb.drewN 1).trans (hb4.mono sr)
        go_roundw
        case rel => exact ⟨k + 1, A5, c5, l ++ [L - x - y], by omega, by go_num, HX.out, by simp, .inr ho5, ho5.base s03, (hb45.alloc (by omega) _).trans hb5⟩
        case measure => simp [intOf]; omega
      · obtain rfl : k = g.length := by omega
        go_wp2
        go_ret
        have e := HL.out
        rw [HV.out, ← e]
        exact ⟨⟨A', c', rfl, ho⟩, hb0r⟩
end Go.Proofs.Ytiokblodjhmjmab
