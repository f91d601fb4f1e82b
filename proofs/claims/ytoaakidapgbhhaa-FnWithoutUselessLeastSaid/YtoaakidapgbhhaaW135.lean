/-
  WALKS: graphs without useless needs, of the program.
-/
import Derived.Test.YtoaakidapgbhhaaW134
namespace Go.Proofs.Ytoaakidapgbhhaa
open Go.RowKit
theorem OI.set_far {w : World} {B : Nat} {A : Option Addr} {c : Nat} {l : List Int} (h : OI w B A c l) {p : Addr} (u : Value) (hp : p.block < B) : OI (w.setCell p u) B A c l := by
  refine ⟨h.1, ?_⟩
  rcases h.2 with hn | ⟨b, cap, cur, hv, h1, hg, rest⟩
  · exact .inl hn
  · exact .inr ⟨b, cap, cur, hv, h1, by rw [Below.heap_setCell w p u b (by omega)]; exact hg, rest⟩
theorem OI.set_ne {w : World} {B : Nat} {A : Option Addr} {c : Nat} {l : List Int} (h : OI w B A c l) {p : Addr} (u : Value) (hp : ∀ a, A = some a → a.block ≠ p.block) : OI (w.setCell p u) B A c l := by
  refine ⟨h.1, ?_⟩
  rcases h.2 with hn | ⟨b, cap, cur, hv, h1, hg, rest⟩
  · exact .inl hn
  · refine .inr ⟨b, cap, cur, hv, h1, ?_, rest⟩
    injection hv with hA _ _
    rw [Below.heap_setCell w p u b (hp _ hA)]
    exact hg
theorem TSc.set_far {w : World} {lo hi : Nat} {rs : List RW} {g : List Bs.T} (h : TSc w lo hi rs g) {p : Addr} (u : Value) (hp : hi ≤ p.block) : TSc (w.setCell p u) lo hi rs g := by
  refine ⟨h.1, ?_⟩
  obtain ⟨f, h0, h1, h2, h3, h4⟩ := h.2
  refine ⟨f, h0, h1, h2, h3, fun k hk => ?_⟩
  obtain ⟨N, c, e, ho, hn⟩ := h4 k hk
  have hle := cut_le h2 (show k + 1 ≤ (g.map Bs.T.needs).length from hk) (Nat.le_refl _)
  exact ⟨N, c, e, ho.set_ne u (fun a ea => by have := hn a ea; omega), hn⟩
theorem Blk.set_far {w : World} {b : Nat} {t : TypeId} {cs : Array Value} (h : Blk w b t cs) {p : Addr} (u : Value) (hp : b ≠ p.block) : Blk (w.setCell p u) b t cs := by
  unfold Blk at h ⊢
  rw [Below.heap_setCell w p u b hp]
  exact h
theorem new_cellsV (w : World) (r : RW) : ∀ j u, ([r].flatMap tcU)[j]? = some u → (w.alloc (.cells #[.int .i64 r.t.time, .slice r.N r.t.needs.length r.c, .int .i64 r.t.pool, .int .i64 r.t.units] 29)).cell? ⟨w.heap.size, 0 + j, none⟩ = some u := by
  intro j u hu
  rw [Nat.zero_add, (Blk.new w _ _).cell]
  simpa [tcU] using hu
set_option maxHeartbeats 3200000 in
theorem WithoutUseless_any (A : Option Addr) (c : Nat) (g : List Bs.T) (lo hi : Nat) (w : World) (h : RG w lo hi A g) (hh : hi ≤ w.heap.size) (hl : g.length ≤ 9223372036854775807) :
    Calls Try.prog 29 #[.slice A g.length c] w (RetT w (Bs.wuL g)) := by
  have q1 := ValidGraph_any A c g lo hi w h hh hl
  cases hv : Bs.valid g
  · rw [hv] at q1
    have C1 := Lib.hid q1
    have HV := Lib.hid (Bs.wuL_no hv)
    clear q1 hv h
    go_enter Try.func29, Try.ntmps29
    go_wp2_with fail
    with_reducible refine (C1.out).mono ?_
    rintro e w1 ⟨rfl, hb⟩
    have HB := Lib.hid hb
    clear hb
    go_wp2
    go_ret
    exact RetT.nil HB.out HV.out
  rw [hv] at q1
  have C1 := Lib.hid q1
  have hF := valid_fine hv
  have h8 := Bs.fine_len hF
  have C2 := Lib.hid (fun W (hb : Below w.heap.size w W) => allNeedSets_any A c g lo hi W (h.below hb hh) (Nat.le_trans hh hb.size) hF)
  have C3 := Lib.hid (fun bs ss (a : Nat) W (hb : Below w.heap.size w W) hm hB ha => uselessOf_any A c g bs ss a lo hi W (h.below hb hh) hv hm hB ha)
  have C4 := Lib.hid (fun (a : Nat) (ha : a < g.length) W => show Calls Try.prog 43 #[.int .u64 (bits .andNot .u64 ((Bs.bits g[a].needs : Nat) : Int) ((Bs.bits (Bs.uslL g a) : Nat) : Int))] W (RetI W (Bs.keepL g a)) from by
    have e1 := Bs.bits_lt _ (Bs.need_sub8 hF a)
    have e2 := Bs.bits_lt _ (Bs.usl_eight hF a)
    have q := listOf_any (Bs.bits (Bs.need g a) &&& (18446744073709551615 - Bs.bits (Bs.uslL g a))) W (Nat.lt_of_le_of_lt Nat.and_le_left e1)
    rw [Bs.minus_usl hF a] at q
    rw [← Bs.need_eq ha, u64_andNot_nat _ _ (by omega) (by omega)]
    exact q)
  have C5 := Lib.hid (fun (a : Nat) (ha : a < g.length) N cN l2 h2 W (hN : RI W l2 h2 N g[a].needs) => setOf_any N cN g[a].needs l2 h2 W hN (by have := Bs.fine_needs_len hF ha; omega) (Bs.need_eight hF ha))
  have HG := Lib.hid h
  have HT := Lib.hid (fun k (hk : k < g.length) => Bs.wuG_take hk)
  have HE := Lib.hid ((Bs.wuL_yes hv).trans (show Bs.wuG g = (Bs.wuG g).take g.length from by rw [List.take_of_length_le (by rw [Bs.wuG_len]; exact Nat.le_refl _)]))
  have HKL := Lib.hid (fun (a : Nat) (ha : a < g.length) => show (Bs.keepL g a).length ≤ 8 from by
    have h3 := List.length_filter_le (fun x => !Bs.uslB g a x) (Bs.need g a)
    have h4 := Bs.fine_needs_len hF ha
    rw [Bs.need_eq ha] at h3
    unfold Bs.keepL
    rw [Bs.need_eq ha]
    omega)
  clear q1 hv h hF
  go_enter Try.func29, Try.ntmps29
  go_wp2_with fail
  with_reducible refine (C1.out).mono ?_
  rintro e w1 ⟨rfl, hb⟩
  have HB1 := Lib.hid hb
  have s1 := hb.size
  have C6 := Lib.hid (C2.out w1 hb)
  clear hb C1 C2
  go_wp2_with fail
  with_reducible refine (C6.out).mono ?_
  rintro e w2 ⟨rfl, ⟨ss, hB, hS⟩, hb2⟩
  have s2 := hb2.size
  have HS := Lib.hid hS
  have hw12 := hB.lt
  have HBK := Lib.hid (hB.alloc (.cells #[] 29))
  have HB2 := Lib.hid ((HB1.out.trans (hb2.mono s1)).alloc (Nat.le_trans s1 s2) (.cells #[] 29))
  have HO2 := Lib.hid (OU.nil w2 w.heap.size (Nat.le_trans s1 s2))
  have s12 : w.heap.size ≤ w1.heap.size := s1
  clear hS hB hb2 C6 HB1
  generalize w1.heap.size = bs at *
  go_wp2
  go_loopw [4, 15] (fun vo i wr => ∃ (k : Nat) (A' : Option Addr) (c' : Nat) (rs : List RW), k ≤ g.length ∧ vo = .slice A' rs.length c' ∧ i = .int .i64 k ∧ OU wr w.heap.size A' c' rs ∧ TSc wr w.heap.size wr.heap.size rs ((Bs.wuG g).take k) ∧ Blk wr bs 45 (setsA ss) ∧ Below w.heap.size w wr) (fun _ i _ => g.length - (intOf i).toNat)
  case atStart => exact ⟨0, _, _, [], Nat.zero_le _, rfl, rfl, HO2.out, TSc.nil _ HB2.out.size, HBK.out, HB2.out⟩
  case round =>
    clear HO2 HB2 HBK
    obtain ⟨k, A', c', rs, hk, rfl, rfl, hO, hT, hK, hb⟩ := hrel
    have sr := hb.size
    by_cases hlt : k < g.length
    · obtain ⟨b, o, N, cN, rfl, h1, h2, t0, t1, t2, t3, hlN, hcN, hN⟩ := (HG.out.below hb hh) k hlt
      have hrl := hT.len
      rw [List.length_take, Bs.wuG_len] at hrl
      have hr8 : rs.length ≤ 8 := by omega
      have hwr : wr.heap.size < (wr.alloc (.cells #[.int .i64 g[k].time, .slice N g[k].needs.length cN, .int .i64 g[k].pool, .int .i64 g[k].units] 29)).heap.size := by simp
      have HBL := Lib.hid (Blk.new wr 29 #[.int .i64 g[k].time, .slice N g[k].needs.length cN, .int .i64 g[k].pool, .int .i64 g[k].units])
      have HB5 := Lib.hid (hb.alloc sr (.cells #[.int .i64 g[k].time, .slice N g[k].needs.length cN, .int .i64 g[k].pool, .int .i64 g[k].units] 29))
      have HK5 := Lib.hid (hK.alloc (.cells #[.int .i64 g[k].time, .slice N g[k].needs.length cN, .int .i64 g[k].pool, .int .i64 g[k].units] 29))
      have HO5 := Lib.hid (hO.alloc0 (.cells #[.int .i64 g[k].time, .slice N g[k].needs.length cN, .int .i64 g[k].pool, .int .i64 g[k].units] 29))
      have HT5 := Lib.hid (hT.alloc (.cells #[.int .i64 g[k].time, .slice N g[k].needs.length cN, .int .i64 g[k].pool, .int .i64 g[k].units] 29))
      have HN5 := Lib.hid (hN.below ((Below.refl wr.heap.size wr).alloc (Nat.le_refl _) (.cells #[.int .i64 g[k].time, .slice N g[k].needs.length cN, .int .i64 g[k].pool, .int .i64 g[k].units] 29)) (Nat.le_trans hh sr))
      have hOlt := fun a (e : A' = some a) => show a.block < wr.heap.size from by
        subst e
        rcases hO.2 with ⟨hv, hn⟩ | ⟨b', cap, cur, hv, hb', hg, _⟩
        · cases hv
        · injection hv with hA _ _
          injection hA with hA
          rw [hA]
          exact (Array.getElem?_eq_some_iff.1 hg).1
      have HOL := Lib.hid hOlt
      have HTk := Lib.hid (HT.out k hlt)
      have hkl := HKL.out k hlt
      have C7 := Lib.hid (C5.out k hlt N cN lo hi _ HN5.out)
      have C8 := Lib.hid (C3.out bs ss k _ HB5.out HS.out HK5.out hlt)
      have C9 := Lib.hid (C4.out k hlt (wr.alloc (.cells #[.int .i64 g[k].time, .slice N g[k].needs.length cN, .int .i64 g[k].pool, .int .i64 g[k].units] 29)))
      have i0 : (0 : Int) ≤ (k : Int) := by omega
      have i1 : (k : Int) < (g.length : Int) := by omega
      have n1 := HBL.out.cell 1
      have hbk := hK.lt
      have HWT := Lib.hid (show Bs.wuT g k g[k] = { time := g[k].time, needs := Bs.keepL g k, pool := g[k].pool, units := g[k].units } from rfl)
      clear hO hT hK hb hN C3 C4 C5 HT HKL hOlt hrl HG
      generalize Bs.bits g[k].needs = X at *
      generalize Bs.bits (Bs.uslL g k) = Y at *
      generalize Bs.keepL g k = P at *
      go_wp2_with fail
      with_reducible refine (C7.out).mono ?_
      rintro e w3 ⟨rfl, rfl⟩
      go_wp2_with fail
      with_reducible refine (C8.out).mono ?_
      rintro e w4 ⟨rfl, rfl⟩
      go_wp2_with fail
      with_reducible refine (C9.out).mono ?_
      rintro e w6 ⟨⟨A6, c6, rfl, ho6⟩, hb6⟩
      have s6 := hb6.size
      have HBL6 := Lib.hid ((HBL.out.below hb6 hwr).set_ 1 (.slice A6 P.length c6))
      have HB6 := Lib.hid ((HB5.out.trans (hb6.mono HB5.out.size)).setCell (p := ⟨wr.heap.size, 1, none⟩) sr (.slice A6 P.length c6))
      have HK6 := Lib.hid (HK5.out.below hb6 (by simp; omega))
      have HO6 := Lib.hid ((HO5.out.below hb6 (Nat.le_refl _)).set_ (p := ⟨wr.heap.size, 1, none⟩) (.slice A6 P.length c6) (fun a e => by have := HOL.out a e; show a.block ≠ wr.heap.size; omega))
      have HP6 := Lib.hid (ho6.set_far (p := ⟨wr.heap.size, 1, none⟩) (.slice A6 P.length c6) (by show wr.heap.size < _; simp))
      have HT6 := Lib.hid ((HT5.out.below hb6 (Nat.le_refl _)).set_far (p := ⟨wr.heap.size, 1, none⟩) (.slice A6 P.length c6) (by show _ ≤ wr.heap.size; exact Nat.le_refl _))
      have hK6 := Lib.hid (HK6.out.set_far (p := ⟨wr.heap.size, 1, none⟩) (.slice A6 P.length c6) (by show bs ≠ wr.heap.size; omega))
      have m1 : w6.cell? ⟨wr.heap.size, 1, none⟩ = some (.slice N g[k].needs.length cN) := (HBL.out.below hb6 hwr).cell 1
      have mf := (HBL.out.below hb6 hwr).frozen 1
      have c0 : (w6.setCell ⟨wr.heap.size, 1, none⟩ (.slice A6 P.length c6)).cell? ⟨wr.heap.size, 0, none⟩ = some (.int .i64 g[k].time) := HBL6.out.cell 0
      have c1 : (w6.setCell ⟨wr.heap.size, 1, none⟩ (.slice A6 P.length c6)).cell? ⟨wr.heap.size, 1, none⟩ = some (.slice A6 P.length c6) := HBL6.out.cell 1
      have c2 : (w6.setCell ⟨wr.heap.size, 1, none⟩ (.slice A6 P.length c6)).cell? ⟨wr.heap.size, 2, none⟩ = some (.int .i64 g[k].pool) := HBL6.out.cell 2
      have c3 : (w6.setCell ⟨wr.heap.size, 1, none⟩ (.slice A6 P.length c6)).cell? ⟨wr.heap.size, 3, none⟩ = some (.int .i64 g[k].units) := HBL6.out.cell 3
      have hlt6 : ∀ a, A6 = some a → a.block < w6.heap.size := fun a e => ho6.blk_lt e
      have HLT6 := Lib.hid hlt6
      clear hb6 ho6 hlt6 C7 C8 C9 n1
      have hs6 : (w6.setCell ⟨wr.heap.size, 1, none⟩ (.slice A6 P.length c6)).heap.size = w6.heap.size := by simp [World.setCell]
      have HS6 := Lib.hid hs6
      have HNC := Lib.hid (new_cellsV (w6.setCell ⟨wr.heap.size, 1, none⟩ (.slice A6 P.length c6)) ⟨{ time := g[k].time, needs := P, pool := g[k].pool, units := g[k].units }, A6, c6⟩)
      rw [hs6] at HNC
      have HWS := Lib.hid HB6.out.size
      rw [hs6] at HWS
      have HO7 := Lib.hid (HO6.out.alloc0 (.cells #[.int .i64 g[k].time, .slice A6 P.length c6, .int .i64 g[k].pool, .int .i64 g[k].units] 29))
      have HT7 := Lib.hid (((HT6.out.more (Nat.le_of_lt hwr)).snoc (t := { time := g[k].time, needs := P, pool := g[k].pool, units := g[k].units }) (N := A6) (c := c6) HP6.out (h2 := w6.heap.size) s6 HLT6.out).alloc (.cells #[.int .i64 g[k].time, .slice A6 P.length c6, .int .i64 g[k].pool, .int .i64 g[k].units] 29))
      have HK7 := Lib.hid (hK6.out.alloc (.cells #[.int .i64 g[k].time, .slice A6 P.length c6, .int .i64 g[k].pool, .int .i64 g[k].units] 29))
      have HB7 := Lib.hid (HB6.out.alloc (by rw [HS6.out]; exact HWS.out) (.cells #[.int .i64 g[k].time, .slice A6 P.length c6, .int .i64 g[k].pool, .int .i64 g[k].units] 29))
      have HS7 := Lib.hid (show ((w6.setCell ⟨wr.heap.size, 1, none⟩ (.slice A6 P.length c6)).alloc (.cells #[.int .i64 g[k].time, .slice A6 P.length c6, .int .i64 g[k].pool, .int .i64 g[k].units] 29)).heap.size = w6.heap.size + 1 from by rw [World.size_alloc, HS6.out])
      have hpl : [({ t := { time := g[k].time, needs := P, pool := g[k].pool, units := g[k].units }, N := A6, c := c6 } : RW)].length = 1 := rfl
      clear HO5 HT5 HK5 HB5 HN5 HBL HBL6 HO6 HP6 HT6 hK6 HB6 hs6
      go_wp2_with (first
        | (at_builtin; refine push_rowsG rfl _ _ rfl w.heap.size A' c' rs [⟨{ time := g[k].time, needs := P, pool := g[k].pool, units := g[k].units }, A6, c6⟩] rfl HO7.out (by simp) w6.heap.size 0 1 rfl HNC.out (by simp; omega) (by rw [HS7.out]; have := HWS.out; omega) ?_; intro A9 c9 w9 ho9 hb9 hg9 s9; have HO9 := Lib.hid ho9; have HT9 := Lib.hid ((HT7.out.kept HO7.out hg9).more (show w6.heap.size ≤ w9.heap.size from by rw [HS7.out] at s9; omega)); have HK9 := Lib.hid (HK7.out.kept_ou HO7.out hg9); have HB9 := Lib.hid (HB7.out.trans hb9); clear ho9 hb9 hg9))
      go_roundw
      case rel => exact ⟨k + 1, A9, c9, rs ++ [⟨{ time := g[k].time, needs := P, pool := g[k].pool, units := g[k].units }, A6, c6⟩], by omega, by rw [List.length_append]; rfl, by go_num, HO9.out, by rw [HTk.out, HWT.out]; exact HT9.out, HK9.out, HB9.out⟩
      case measure => simp [intOf]; omega
    · obtain rfl : k = g.length := by omega
      have HO := Lib.hid hO
      have HT := Lib.hid hT
      have HB := Lib.hid hb
      clear hO hT hK hb
      go_wp2
      go_ret
      rw [HE.out]
      exact ⟨⟨A', c', rs, rfl, HO.out, HT.out⟩, HB.out⟩
end Go.Proofs.Ytoaakidapgbhhaa
