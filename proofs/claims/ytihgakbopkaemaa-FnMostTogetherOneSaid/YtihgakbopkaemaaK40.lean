/-
  MERGED TEXTS: W118 W119.
-/
import Derived.Test.YtihgakbopkaemaaK41
import Derived.Test.YtihgakbopkaemaaK44
import Derived.Maps.AppendAt
import Derived.Test.YtihgakbopkaemaaK39
import Derived.Test.YtihgakbopkaemaaK14
namespace Go.Proofs.Ytihgakbopkaemaa
open Go.RowKit
/-- 'g = append(g, x...)', of events: and where the row then lies -/
theorem push_evsB {ops : Array Oper} {rest : List Oper} {o : Oper} {a : Act} {Q : Exit → Act → World → Prop} {w : World} (hgd : o.guard = none) (s x : Operand)
    (ho : o.op = .call { callee := .builtin .append, args := #[s, x], argTypes := #[27, 27] })
    (B b1 : Nat) (c : Nat) (l m : List Bs.E) (hs : a.eval s = .slice (some ⟨b1, 0, none⟩) l.length c) (hown : OE w B (some ⟨b1, 0, none⟩) c l)
    (b cc : Nat) (hx : a.eval x = .slice (some ⟨b, 0, none⟩) m.length cc) (hc : ∀ j u, (m.flatMap ec)[j]? = some u → w.cell? ⟨b, j, none⟩ = some u) (hlen : l.length + m.length ≤ 1000000000) (hB : B ≤ w.heap.size)
    (h : ∀ b' c' w', OE w' B (some ⟨b', 0, none⟩) c' (l ++ m) → Below B w w' → w.grownBy w' (some b1) → (b' = b1 ∨ b' = w.heap.size) → wpList Try.prog ops Q rest (a.put o.dst (.slice (some ⟨b', 0, none⟩) (l.length + m.length) c')) w') : wpList Try.prog ops Q (o :: rest) a w := by
  refine wpList_plain hgd fun K hK => ?_
  obtain ⟨i0, hi0, hz0, hz1, hz2⟩ := info_parts Try.infoEvD
  obtain ⟨v', w', hr, hown', hg, hnn, hat⟩ := run_append_own_at (P := Try.prog) w B 27 o.type 33 i0 _ 3 24 Try.underlying27 hi0 hz0 hz1 hz2 rfl (by decide) _ _ _ hown ⟨b, 0, none⟩ m.length cc (m.flatMap ec) OE.len
    (by intro j u hj; rw [Addr.add_lit, Nat.zero_add]; exact hc j u hj) (fun u hu => ec_one hu) (by unfold maxLen; omega) (by omega) hB
  have h1 : w'.ownsRow B 33 3 v' (l ++ m).length ((l ++ m).flatMap ec) := by
    rw [List.length_append, List.flatMap_append]
    exact hown'
  have hv : ∃ b' c', v' = .slice (some ⟨b', 0, none⟩) (l ++ m).length c' := by
    rcases h1.2 with ⟨hv, _⟩ | ⟨b', cap, cur, hv, _⟩
    · have := (hnn.1 hv).1
      simp at this
    · exact ⟨b', cap, hv⟩
  obtain ⟨b', c', hv⟩ := hv
  have hb : Below B w w' := by
    refine (Below.refl B w).grown hg hB ?_
    intro k hk
    exact (hown.lt k hk).1
  rw [hv] at h1 hat
  have hpos : b' = b1 ∨ b' = w.heap.size := by simpa [Value.ownBlock] using hat
  rw [hv, List.length_append] at hr
  unfold Oper.wp
  simp [execOp, ho, resolve, invoke, builtin, hs, hx, hr, Result.andThen]
  exact hK _ _ (h b' c' w' h1 hb hg hpos)
theorem OE.keepB {w w' : World} {B b1 b2 : Nat} {c : Nat} {l : List Bs.E} (h : OE w B (some ⟨b2, 0, none⟩) c l) (hg : w.grownBy w' (some b1)) (hne : b1 ≠ b2) : OE w' B (some ⟨b2, 0, none⟩) c l :=
  h.kept hg (Or.inr (by simp [Value.ownBlock]; omega))
theorem OE.ltB {w : World} {B b2 : Nat} {c : Nat} {l : List Bs.E} (h : OE w B (some ⟨b2, 0, none⟩) c l) : b2 < w.heap.size := (h.lt b2 rfl).2
theorem OE.cellsB {w : World} {B b2 : Nat} {c : Nat} {l : List Bs.E} (h : OE w B (some ⟨b2, 0, none⟩) c l) : ∀ j u, (l.flatMap ec)[j]? = some u → w.cell? ⟨b2, j, none⟩ = some u := by
  intro j u hu
  have := RE.cells h.re j u hu
  rwa [Nat.zero_add] at this
set_option maxRecDepth 20000 in
set_option maxHeartbeats 3200000 in
theorem eventsAt_any (A : Option Addr) (c : Nat) (g : List Bs.T) (S : List Int) (bs : Nat) (now : Int) (lo hi : Nat) (w : World) (h : RG w lo hi A g) (hh : hi ≤ w.heap.size) (hF : Bs.fine g = true) (hS : ∀ i, 0 ≤ Bs.giZ S i ∧ Bs.giZ S i ≤ 200) :
    Calls Try.prog 35 #[.agg (bgA (Bs.giZ S) bs), .slice A g.length c, .int .i64 now] w fun e w' => (∃ b' c', e = .returned (.slice (some ⟨b', 0, none⟩) (Bs.ovE g S now g.length ++ Bs.bgE S now g.length).length c') ∧ OE w' w.heap.size (some ⟨b', 0, none⟩) c' (Bs.ovE g S now g.length ++ Bs.bgE S now g.length)) ∧ Below w.heap.size w w' := by
  have h8 := Bs.fine_len hF
  have HOS := Lib.hid (fun k => show Bs.ovE g S now (k + 1) = if Bs.giZ S k + Bs.timeOf g k == now then Bs.ovE g S now k ++ [⟨now, (k : Int), true⟩] else Bs.ovE g S now k from rfl)
  have HBS := Lib.hid (fun k => show Bs.bgE S now (k + 1) = if Bs.giZ S k == now then Bs.bgE S now k ++ [⟨now, (k : Int), false⟩] else Bs.bgE S now k from rfl)
  have HOL := Lib.hid (fun k => Bs.ovE_len g S now k)
  have HBL := Lib.hid (fun k => Bs.bgE_len S now k)
  have hb0 : Below w.heap.size w (w.alloc (.cells (bgA (Bs.giZ S) bs) 57)) := (Below.refl _ _).alloc (Nat.le_refl _) _
  have hb1 := hb0.alloc hb0.size (.cells #[] 33)
  have hb2 := hb1.alloc hb1.size (.cells #[] 33)
  have HG0 := Lib.hid ((BG.new w (Bs.giZ S) bs).alloc (.cells #[] 33) |>.alloc (.cells #[] 33))
  have HB0 := Lib.hid hb2
  have he1 := OE.nil (w.alloc (.cells (bgA (Bs.giZ S) bs) 57)) (w.heap.size + 1) (by simp)
  have he2 := OE.nil ((w.alloc (.cells (bgA (Bs.giZ S) bs) 57)).alloc (.cells #[] 33)) (w.heap.size + 1) (by simp)
  rw [World.size_alloc] at he1
  rw [World.size_alloc, World.size_alloc] at he2
  have HE1 := Lib.hid (he1.alloc (.cells #[] 33))
  have HE2 := Lib.hid he2
  have CO := Lib.hid (fun v (hv : v < g.length) W (hb : Below w.heap.size w W) => over_any (Bs.giZ S) bs A c g v lo hi W (h.below hb hh) (Nat.le_trans hh hb.size) hF hv (fun i _ => by have := hS i; omega))
  clear hb0 hb1 hb2 he1 he2 h hS hF
  go_enter Try.func35, Try.ntmps35
  go_wp2
  go_loopw [7, 8, 14] (fun u v i wr => ∃ (k b1 c1 b2 c2 : Nat) (P Q : List Bs.E), k ≤ g.length ∧ i = .int .i64 (k : Int) ∧ u = .slice (some ⟨b1, 0, none⟩) P.length c1 ∧ v = .slice (some ⟨b2, 0, none⟩) Q.length c2 ∧ P = Bs.ovE g S now k ∧ Q = Bs.bgE S now k ∧ OE wr (w.heap.size + 1) (some ⟨b1, 0, none⟩) c1 P ∧ OE wr (w.heap.size + 1) (some ⟨b2, 0, none⟩) c2 Q ∧ b1 ≠ b2 ∧ BG wr w.heap.size (Bs.giZ S) bs ∧ Below w.heap.size w wr ∧ w.heap.size + 1 ≤ wr.heap.size) (fun _ _ i _ => g.length - (intOf i).toNat)
  case atStart => exact ⟨0, w.heap.size + 1, 0, w.heap.size + 1 + 1, 0, [], [], Nat.zero_le _, rfl, rfl, rfl, rfl, rfl, HE1.out, HE2.out, by omega, HG0.out, HB0.out, by simp⟩
  case round =>
    obtain ⟨k, b1, c1, b2, c2, P, Q, hk, rfl, rfl, rfl, hP, hQ, hO1, hO2, hne, hbg, hb, hsz⟩ := hrel
    clear HG0 HB0 HE1 HE2
    have hpl := HOL.out k
    have hql := HBL.out k
    rw [← hP] at hpl
    rw [← hQ] at hql
    by_cases hlt : k < g.length
    · have hos := HOS.out k
      have hbs := HBS.out k
      rw [← hP] at hos
      rw [← hQ] at hbs
      have C1 := Lib.hid (CO.out k hlt wr hb)
      have HO1 := Lib.hid hO1
      have HO2 := Lib.hid hO2
      have HBG := Lib.hid hbg
      have HBr := Lib.hid hb
      clear hO1 hO2 hbg hb hP hQ HOS HBS HOL HBL CO
      generalize hov : Bs.giZ S k + Bs.timeOf g k = ov at *
      generalize hsk : Bs.giZ S k = sk at *
      have HSK := Lib.hid hsk
      clear hov hsk
      go_wp2_with (first
        | (refine bg_load rfl _ rfl w.heap.size (Bs.giZ S) bs rfl HBG.out ?_))
      with_reducible refine (C1.out).mono ?_
      rintro e w5 ⟨rfl, hb5⟩
      have s5 := hb5.size
      have HB5 := Lib.hid (HBr.out.trans (hb5.mono HBr.out.size))
      have HO1a := Lib.hid (HO1.out.below hb5 (Nat.le_refl _))
      have HO2a := Lib.hid (HO2.out.below hb5 (Nat.le_refl _))
      have HBGa := Lib.hid (HBG.out.below hb5 HBG.out.lt)
      clear hb5 C1 HO1 HO2 HBG HBr
      cases hq : (ov == now)
      · rw [hq] at hos
        have HOV := Lib.hid hos
        have HNE := Lib.hid hne
        clear hos hne
        have kc : w5.cell? ⟨w.heap.size, k, none⟩ = some (.int .i64 sk) := by
          have := HBGa.out.at_ (i := k) (by omega)
          rw [HSK.out] at this
          exact this
        have szx : w.heap.size + 1 ≤ w5.heap.size := by have := HBGa.out.lt; omega
        cases hr : (sk == now)
        · rw [hr] at hbs
          have HBSr := Lib.hid hbs
          clear hbs
          go_wp2
          go_roundw
          case rel => exact ⟨k + 1, b1, c1, b2, c2, P, Q, by omega, by go_num, by first | rfl | simp, rfl, HOV.out.symm, HBSr.out.symm, HO1a.out, HO2a.out, HNE.out, HBGa.out, HB5.out, szx⟩
          case measure => simp [intOf]; omega
        · rw [hr] at hbs
          have HBSr := Lib.hid hbs
          clear hbs
          go_wp2_with (first
            | (at_builtin; go_loud (refine push_evsB rfl _ _ rfl (w.heap.size + 1) b2 c2 Q [⟨now, (k : Int), false⟩] rfl (HO2a.out.alloc _) w5.heap.size 1 rfl (new_cellsE _ _) (by simp; omega) (by simp; omega) ?_; intro b9 c9 w9 ho9 hb9 hg9 hp9; have HP9 := Lib.hid hp9; have HO9 := Lib.hid ho9; have HG9 := Lib.hid hg9; have HX9 := Lib.hid hb9; clear ho9 hb9 hg9 hp9)))
          have HB9 := Lib.hid ((HB5.out.alloc HB5.out.size (.cells #[.int .i64 now, .int .i64 (k : Int), .bool false] 33)).trans (HX9.out.mono (by omega)))
          have HA9 := Lib.hid ((HO1a.out.alloc (.cells #[.int .i64 now, .int .i64 (k : Int), .bool false] 33)).keepB HG9.out (Ne.symm HNE.out))
          have HBG9 := Lib.hid (BG.below (HBGa.out.alloc (.cells #[.int .i64 now, .int .i64 (k : Int), .bool false] 33)) HX9.out (by omega))
          have HN9 := Lib.hid (show b1 ≠ b9 from by
            have h1 := HO1a.out.ltB
            have h2 := HP9.out
            have h3 := HNE.out
            rw [World.size_alloc] at h2
            omega)
          have sz9 : w.heap.size + 1 ≤ w9.heap.size := by have := HBG9.out.lt; omega
          go_roundw
          case rel => exact ⟨k + 1, b1, c1, b9, c9, P, Q ++ [⟨now, (k : Int), false⟩], by omega, by go_num, by first | rfl | simp, by simp, HOV.out.symm, HBSr.out.symm, HA9.out, HO9.out, HN9.out, HBG9.out, HB9.out, sz9⟩
          case measure => simp [intOf]; omega
      · rw [hq] at hos
        have HOV := Lib.hid hos
        clear hos
        have sz5 : w.heap.size + 1 ≤ w5.heap.size := by omega
        cases hr : (sk == now)
        · rw [hr] at hbs
          have HBSr := Lib.hid hbs
          clear hbs
          go_wp2_with (first | (at_builtin; go_loud (refine push_evsB rfl _ _ rfl (w.heap.size + 1) b1 c1 P [⟨now, (k : Int), true⟩] rfl (HO1a.out.alloc _) w5.heap.size 1 rfl (new_cellsE _ _) (by simp; omega) (by simp; omega) ?_; intro b6 c6 w6 ho6 hb6 hg6 hp6; have HP6 := Lib.hid hp6; have HO6 := Lib.hid ho6; have HG6 := Lib.hid hg6; have HX6 := Lib.hid hb6; have HBG6 := Lib.hid (BG.below (HBGa.out.alloc (.cells #[.int .i64 now, .int .i64 (k : Int), .bool true] 33)) hb6 (by omega)); have kc6 : w6.cell? ⟨w.heap.size, k, none⟩ = some (.int .i64 sk) := (by have := HBG6.out.at_ (i := k) (by omega); rw [HSK.out] at this; exact this); have HB6 := Lib.hid ((HB5.out.alloc HB5.out.size (.cells #[.int .i64 now, .int .i64 (k : Int), .bool true] 33)).trans (hb6.mono (by omega))); have HA6 := Lib.hid ((HO2a.out.alloc (.cells #[.int .i64 now, .int .i64 (k : Int), .bool true] 33)).keepB hg6 hne); have HNE := Lib.hid (show b6 ≠ b2 from by (have h1 := HO2a.out.ltB; have h2 := HP6.out; rw [World.size_alloc] at h2; omega)); have sz6 : w.heap.size + 1 ≤ w6.heap.size := (by have := HBG6.out.lt; omega); clear ho6 hb6 hg6 hp6)))
          go_roundw
          case rel => exact ⟨k + 1, b6, c6, b2, c2, (P ++ [⟨now, (k : Int), true⟩]), Q, by omega, by go_num, by first | rfl | simp, rfl, HOV.out.symm, HBSr.out.symm, HO6.out, HA6.out, HNE.out, HBG6.out, HB6.out, sz6⟩
          case measure => simp [intOf]; omega
        · rw [hr] at hbs
          have HBSr := Lib.hid hbs
          clear hbs
          go_wp2_with (first | (at_builtin; go_loud (refine push_evsB rfl _ _ rfl (w.heap.size + 1) b1 c1 P [⟨now, (k : Int), true⟩] rfl (HO1a.out.alloc _) w5.heap.size 1 rfl (new_cellsE _ _) (by simp; omega) (by simp; omega) ?_; intro b6 c6 w6 ho6 hb6 hg6 hp6; have HP6 := Lib.hid hp6; have HO6 := Lib.hid ho6; have HG6 := Lib.hid hg6; have HX6 := Lib.hid hb6; have HBG6 := Lib.hid (BG.below (HBGa.out.alloc (.cells #[.int .i64 now, .int .i64 (k : Int), .bool true] 33)) hb6 (by omega)); have kc6 : w6.cell? ⟨w.heap.size, k, none⟩ = some (.int .i64 sk) := (by have := HBG6.out.at_ (i := k) (by omega); rw [HSK.out] at this; exact this); have HB6 := Lib.hid ((HB5.out.alloc HB5.out.size (.cells #[.int .i64 now, .int .i64 (k : Int), .bool true] 33)).trans (hb6.mono (by omega))); have HA6 := Lib.hid ((HO2a.out.alloc (.cells #[.int .i64 now, .int .i64 (k : Int), .bool true] 33)).keepB hg6 hne); have HNE := Lib.hid (show b6 ≠ b2 from by (have h1 := HO2a.out.ltB; have h2 := HP6.out; rw [World.size_alloc] at h2; omega)); have sz6 : w.heap.size + 1 ≤ w6.heap.size := (by have := HBG6.out.lt; omega); clear ho6 hb6 hg6 hp6)) | (at_builtin; go_loud (refine push_evsB rfl _ _ rfl (w.heap.size + 1) b2 c2 Q [⟨now, (k : Int), false⟩] rfl (HA6.out.alloc _) w6.heap.size 1 rfl (new_cellsE _ _) (by simp; omega) (by simp; omega) ?_; intro b9 c9 w9 ho9 hb9 hg9 hp9; have HP9 := Lib.hid hp9; have HO9 := Lib.hid ho9; have HG9 := Lib.hid hg9; have HX9 := Lib.hid hb9; clear ho9 hb9 hg9 hp9)))
          have HB9 := Lib.hid ((HB6.out.alloc HB6.out.size (.cells #[.int .i64 now, .int .i64 (k : Int), .bool false] 33)).trans (HX9.out.mono (by omega)))
          have HA9 := Lib.hid ((HO6.out.alloc (.cells #[.int .i64 now, .int .i64 (k : Int), .bool false] 33)).keepB HG9.out (Ne.symm HNE.out))
          have HBG9 := Lib.hid (BG.below (HBG6.out.alloc (.cells #[.int .i64 now, .int .i64 (k : Int), .bool false] 33)) HX9.out (by omega))
          have HN9 := Lib.hid (show b6 ≠ b9 from by
            have h1 := HO6.out.ltB
            have h2 := HP9.out
            have h3 := HNE.out
            rw [World.size_alloc] at h2
            omega)
          have sz9 : w.heap.size + 1 ≤ w9.heap.size := by have := HBG9.out.lt; omega
          go_roundw
          case rel => exact ⟨k + 1, b6, c6, b9, c9, (P ++ [⟨now, (k : Int), true⟩]), Q ++ [⟨now, (k : Int), false⟩], by omega, by go_num, by first | rfl | simp, by simp, HOV.out.symm, HBSr.out.symm, HA9.out, HO9.out, HN9.out, HBG9.out, HB9.out, sz9⟩
          case measure => simp [intOf]; omega
    · obtain rfl : k = g.length := by omega
      have HO1 := Lib.hid hO1
      have HO2 := Lib.hid hO2
      have HBr := Lib.hid hb
      have HC2 := Lib.hid (hO2.cellsB)
      have HP := Lib.hid hP
      have HQ := Lib.hid hQ
      clear hO1 hO2 hb hbg hP hQ
      go_wp2_with (first
        | (at_builtin; go_loud (refine push_evsB rfl _ _ rfl (w.heap.size + 1) b1 c1 P Q rfl HO1.out b2 c2 rfl HC2.out (by omega) hsz ?_; intro b6 c6 w6 ho6 hb6 hg6 hp6; have HO6 := Lib.hid ho6; have HB6 := Lib.hid (HBr.out.trans (hb6.mono (by omega))); clear ho6 hb6 hg6 hp6)))
      go_ret
      exact ⟨⟨b6, c6, by rw [← HP.out, ← HQ.out, List.length_append]; rfl, by rw [← HP.out, ← HQ.out]; exact HO6.out.lower (by omega)⟩, HB6.out⟩
end Go.Proofs.Ytihgakbopkaemaa
namespace Go.Proofs.Ytihgakbopkaemaa
open Go.RowKit
theorem RetE.nil {w w1 : World} {L : List Bs.E} (hb : Below w.heap.size w w1) (h : L = []) : RetE w L (.returned (.slice none 0 0)) w1 := by
  subst h
  exact ⟨⟨none, 0, rfl, OE.none_ _ _⟩, hb⟩
set_option maxHeartbeats 1600000 in
theorem LogOf_any (A : Option Addr) (c : Nat) (g : List Bs.T) (A1 : Option Addr) (c1 : Nat) (m : List Int) (A2 : Option Addr) (c2 : Nat) (S : List Int) (wk : Int) (lo hi l1 h1 l2 h2 : Nat) (w : World) (h : RG w lo hi A g) (hh : hi ≤ w.heap.size) (hm : RI w l1 h1 A1 m) (hh1 : h1 ≤ w.heap.size) (hs : RI w l2 h2 A2 S) (hh2 : h2 ≤ w.heap.size) (hl : g.length ≤ 9223372036854775807) (hml : m.length ≤ 9223372036854775807) (hsl : S.length ≤ 9223372036854775807) :
    Calls Try.prog 11 #[.slice A g.length c, .slice A1 m.length c1, .int .i64 wk, .slice A2 S.length c2] w (RetE w (Bs.logL g m wk S)) := by
  have q1 := ValidStarts_any A c g A1 c1 m A2 c2 S wk lo hi l1 h1 l2 h2 w h hh hm hh1 hs hh2 hl hml hsl
  cases hv : Bs.stV g m wk S
  · rw [hv] at q1
    have C1 := Lib.hid q1
    have HV := Lib.hid (Bs.logL_no hv)
    clear q1 hv h hm hs
    go_enter Try.func11, Try.ntmps11
    go_wp2_with fail
    with_reducible refine (C1.out).mono ?_
    rintro e w1 ⟨rfl, hb⟩
    have HB := Lib.hid hb
    clear hb
    go_wp2
    go_ret
    exact RetE.nil HB.out HV.out
  rw [hv] at q1
  have C1 := Lib.hid q1
  obtain ⟨n, hend, hn, hlog⟩ := Bs.logL_end hv
  obtain ⟨hcan, hk, _⟩ := Bs.stV_iff.1 hv
  have hF := valid_fine (Bs.canV_iff.1 hcan).1
  have h8 := Bs.fine_len hF
  have hlen := Bs.clk_len hk
  have hfb := fun i => Bs.clk_at hk i
  have q3 := fun W (hb : Below w.heap.size w W) => beginningsOf_any A2 c2 S l2 h2 W (hs.below hb hh2) (Nat.le_trans hh2 hb.size) (by omega)
  rw [show Bs.full S.length = Bs.full g.length from by rw [hlen]] at q3
  have C3 := Lib.hid q3
  have q4 := fun W (hb : Below w.heap.size w W) => EndTime_any A c g A1 c1 m A2 c2 S wk lo hi l1 h1 l2 h2 W (h.below hb hh) (Nat.le_trans hh hb.size) (hm.below hb hh1) (Nat.le_trans hh1 hb.size) (hs.below hb hh2) (Nat.le_trans hh2 hb.size) hl hml hsl
  rw [hend] at q4
  have C4 := Lib.hid q4
  have C5 := Lib.hid (fun (t : Nat) W (hb : Below w.heap.size w W) => eventsAt_any A c g S (Bs.full g.length) (t : Int) lo hi W (h.below hb hh) (Nat.le_trans hh hb.size) hF hfb)
  have HK := Lib.hid (fun (t : Nat) => show Bs.lgK g S (t + 1) = Bs.lgK g S t ++ (Bs.ovE g S (t : Int) g.length ++ Bs.bgE S (t : Int) g.length) from rfl)
  have HKL := Lib.hid (fun (t : Nat) (ht : t ≤ 221) => Bs.lgK_len8 (g := g) S h8 ht)
  have HPL := Lib.hid (fun (t : Nat) => show (Bs.ovE g S (t : Int) g.length ++ Bs.bgE S (t : Int) g.length).length ≤ 16 from by
    have a := Bs.ovE_len g S (t : Int) g.length
    have b := Bs.bgE_len S (t : Int) g.length
    rw [List.length_append]
    omega)
  have HLOG := Lib.hid hlog
  clear q1 q3 q4 hF hfb h hm hs hv hk hl hml hsl hcan hend hlog hlen
  go_enter Try.func11, Try.ntmps11
  go_wp2_with fail
  with_reducible refine (C1.out).mono ?_
  rintro e w1 ⟨rfl, hb⟩
  have HB := Lib.hid hb
  clear hb
  go_wp2_with fail
  with_reducible refine (C3.out _ HB.out).mono ?_
  rintro e w3 ⟨rfl, hb3⟩
  have HB3 := Lib.hid (HB.out.trans (hb3.mono HB.out.size))
  have hz3 := BG.new w3 z8 0
  have ha3 := HB3.out.alloc HB3.out.size (.cells (bgA z8 0) 57)
  rw [z8A] at hz3 ha3
  have HZ3 := Lib.hid hz3
  have HAZ3 := Lib.hid ha3
  have s3 := HB3.out.size
  clear hb3 C1 C3 hz3 ha3
  go_wp2_with (first | (refine bg_store rfl _ _ rfl w3.heap.size z8 (Bs.giZ S) 0 (Bs.full g.length) rfl rfl HZ3.out ?_; intro w4 h4 o4))
  have HN4 := Lib.hid h4
  have HA4 := Lib.hid (HAZ3.out.trans (o4.below s3))
  have C6 := Lib.hid (C4.out w4 HA4.out)
  clear h4 o4 C4
  with_reducible refine (C6.out).mono ?_
  rintro e w5 ⟨rfl, hb5⟩
  have hlt5 : w3.heap.size < w5.heap.size := Nat.lt_of_lt_of_le HN4.out.lt hb5.size
  have HN5 := Lib.hid ((HN4.out.below hb5 HN4.out.lt).alloc (.cells #[] 33))
  have hA5 := HA4.out.trans (hb5.mono HA4.out.size)
  have s5 := hA5.size
  have HA5 := Lib.hid (hA5.alloc s5 (.cells #[] 33))
  have HO5 := Lib.hid (OE.nil w5 w.heap.size s5)
  have hL0 : Bs.lgK g S 0 = [] := rfl
  clear hb5 hA5 C6 HN4 HA4
  go_wp2
  go_loopw [11, 12] (fun v i wr => ∃ (t b1 c' : Nat) (r : List Bs.E), t ≤ n + 1 ∧ i = .int .i64 (t : Int) ∧ v = .slice (some ⟨b1, 0, none⟩) r.length c' ∧ r = Bs.lgK g S t ∧ OE wr w.heap.size (some ⟨b1, 0, none⟩) c' r ∧ w3.heap.size < b1 ∧ BG wr w3.heap.size (Bs.giZ S) (Bs.full g.length) ∧ Below w.heap.size w wr) (fun _ i _ => n + 2 - (intOf i).toNat)
  case atStart => exact ⟨0, _, _, [], Nat.zero_le _, rfl, rfl, rfl, HO5.out, hlt5, HN5.out, HA5.out⟩
  case round =>
    obtain ⟨t, b1, c', r, ht, rfl, rfl, hr, hO, hb1, hB, hb⟩ := hrel
    clear HN5 HA5 HO5 hL0
    by_cases hlt : t ≤ n
    · have hrl := HKL.out t (by omega)
      rw [← hr] at hrl
      have hpl := HPL.out t
      have HKt := Lib.hid (HK.out t)
      rw [← hr] at HKt
      have C7 := Lib.hid (C5.out t wr hb)
      have HO := Lib.hid hO
      have HBG := Lib.hid hB
      have HB := Lib.hid hb
      have sr := hb.size
      have d1 : decide ((t : Int) ≤ (n : Int)) = true := decide_eq_true (by omega)
      have d1b : decide (t ≤ n) = true := decide_eq_true (by omega)
      clear hr hO hB hb C5 HK HKL HPL
      generalize Bs.ovE g S (t : Int) g.length ++ Bs.bgE S (t : Int) g.length = P at *
      go_wp2_with (first | (refine bg_load rfl _ rfl w3.heap.size (Bs.giZ S) (Bs.full g.length) rfl HBG.out ?_))
      with_reducible refine (C7.out).mono ?_
      rintro e w6 ⟨⟨b6, c6, rfl, ho6⟩, hb6⟩
      have s6 := hb6.size
      have hwb := HBG.out.lt
      have HO6 := Lib.hid (HO.out.below hb6 (Nat.le_refl _))
      have HC6 := Lib.hid (ho6.cellsB)
      have HBG6 := Lib.hid (HBG.out.below hb6 hwb)
      have HB6 := Lib.hid (HB.out.trans (hb6.mono sr))
      clear ho6 hb6 C7 HO HBG HB
      go_wp2_with (first
        | (at_builtin; go_loud (refine push_evsB rfl _ _ rfl w.heap.size b1 c' r P rfl HO6.out b6 c6 rfl HC6.out (by omega) (by omega) ?_; intro b9 c9 w9 ho9 hb9 hg9 hp9; have HO9 := Lib.hid ho9; have HB9 := Lib.hid (HB6.out.trans hb9); have HBG9 := Lib.hid (show BG w9 w3.heap.size (Bs.giZ S) (Bs.full g.length) from (hg9.block w3.heap.size HBG6.out.lt (by simp; omega)).trans HBG6.out); have HP9 := Lib.hid (show w3.heap.size < b9 from by rcases hp9 with e | e <;> omega); clear ho9 hb9 hg9 hp9)))
      go_roundw
      case rel => exact ⟨t + 1, b9, c9, r ++ P, by omega, by go_num, by rw [List.length_append], by rw [HKt.out], HO9.out, HP9.out, HBG9.out, HB9.out⟩
      case measure => simp [intOf]; omega
    · obtain rfl : t = n + 1 := by omega
      have HR := Lib.hid (HLOG.out.trans hr.symm)
      have HO := Lib.hid hO
      have HB := Lib.hid hb
      have d1 : decide (((n + 1 : Nat) : Int) ≤ (n : Int)) = false := decide_eq_false (by omega)
      have d1b : decide ((n : Int) + 1 ≤ (n : Int)) = false := decide_eq_false (by omega)
      have d1c : decide (n + 1 ≤ n) = false := decide_eq_false (by omega)
      clear hr hO hB hb
      go_wp2
      go_ret
      rw [HR.out]
      exact ⟨⟨_, _, rfl, HO.out⟩, HB.out⟩
end Go.Proofs.Ytihgakbopkaemaa
