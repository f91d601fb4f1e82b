/-
  WALKS: the draws of chapter 9.
-/
import Derived.Test.YtcoipkogfgcdeaaK22
import Derived.Test.YtcoipkogfgcdeaaK17
import Derived.Test.YtcoipkogfgcdeaaW101
namespace Go.Proofs.Ytcoipkogfgcdeaa
open Go.RowKit
def OneP (p : Int → Prop) (lo rb P : Nat) (w : World) (e : Ending) (w' : World) : Prop := (∃ x, e = .returned (.int .i64 x) ∧ p x) ∧ RD w' lo rb (P + 1) ∧ Fx rb w w'
/-- 'r.one([]int{..})', what all of its numbers are -/
theorem one_newP (p : Int → Prop) (cs : Array Value) (n lo rb P : Nat) (w : World) (hs : RD w lo rb P) (hP : P ≤ 1000000) (h : ∀ k, k < n → ∃ x, cs[k]? = some (.int .i64 x) ∧ p x) (h0 : 0 < n) (h1 : n ≤ 1000) {g : Nat} (hg : w.heap.size = g) :
    Calls Try.prog 46 #[.pointer (some ⟨rb, 0, none⟩), .slice (some ⟨g, 0, none⟩) n n] (w.alloc (.cells cs 3)) (OneP p lo rb P w) := by
  subst hg
  have hlt := hs.lt
  have hal := Below.alloc (Below.refl w.heap.size w) (Nat.le_refl _) (.cells cs 3)
  have C1 := Lib.hid (pickX n lo rb P _ (hs.after hal) hP (by omega))
  have HF := Lib.hid (Fx.of (rb := rb) hal)
  have HB := Lib.hid (Blk.new w 3 cs)
  clear hs hal
  go_enter Try.func46, Try.ntmps46
  go_wp2_with fail
  refine (C1.out).mono ?_
  rintro e w1 ⟨⟨k, rfl, hk, _⟩, hs1, hf1⟩
  have hk := hk h0
  obtain ⟨x, hx, hpx⟩ := h k hk
  have hc : w1.cell? ⟨w.heap.size, k, none⟩ = some (.int .i64 x) := by
    rw [hf1.cell (by simp) (by show w.heap.size ≠ rb; omega), HB.out.cell, hx]
  have HS := Lib.hid hs1
  have HF := Lib.hid (HF.out.trans hf1)
  have HP := Lib.hid hpx
  clear hs1 hf1 h hx hpx
  go_wp2_with fail
  go_ret
  exact ⟨⟨x, rfl, HP.out⟩, HS.out, HF.out⟩
theorem OR.fx {w w' : World} {rb B : Nat} {A : Option Addr} {c : Nat} {l : List Bs.U} (h : OR w B A c l) (hf : Fx rb w w') (hB : rb < B) : OR w' B A c l := by
  refine ⟨h.1, ?_⟩
  rcases h.2 with hn | ⟨g, cap, cur, hv, h1, hg, rest⟩
  · exact .inl hn
  · exact .inr ⟨g, cap, cur, hv, h1, by rw [hf.block g (Array.getElem?_eq_some_iff.1 hg).1 (by omega)]; exact hg, rest⟩
theorem RU.fx {w w' : World} {rb lo hi : Nat} {A : Option Addr} {l : List Bs.U} (h : RU w lo hi A l) (hf : Fx rb w w') (hlo : rb < lo) (hhi : hi ≤ w.heap.size) : RU w' lo hi A l :=
  h.keep fun p h1 h2 => hf.cell (by omega) (by omega)
theorem set3_only (w : World) (b o : Nat) (x : Bs.U) : OnlyB b w (set3 w b o x) := by
  unfold set3
  exact ((OnlyB.set w b o _).trans' (OnlyB.set _ b (o + 1) _)).trans' (OnlyB.set _ b (o + 2) _)
theorem uA_one (u : Bs.U) : (#[.int .i64 u.share, .int .i64 u.used, .int .i64 u.waits] : Array Value).all (·.oneCell') = true := by simp [Value.oneCell']
theorem OR.there {w : World} {B : Nat} {b : Nat} {c : Nat} {l : List Bs.U} (h : OR w B (some ⟨b, 0, none⟩) c l) {k : Nat} (hk : k < l.length) : w.there b (k * 3) 3 := by
  obtain ⟨b', e', h1, h2, hc, hf⟩ := h.blk (by omega)
  cases e'
  intro j hj
  refine ⟨?_, hf _⟩
  have hlen : (l.flatMap uc).length = l.length * 3 := OR.len
  have hlt : k * 3 + j < (l.flatMap uc).length := by rw [hlen]; omega
  rw [hc (k * 3 + j) _ (List.getElem?_eq_getElem hlt)]
  rfl
/-- a user is stored into a row -/
theorem ur_store {ops : Array Oper} {rest : List Oper} {o : Oper} {a : Act} {w : World} {Q : Exit → Act → World → Prop} (hgd : o.guard = none) (x y : Operand) (ho : o.op = .store 29 x y)
    (B b : Nat) (c : Nat) (l : List Bs.U) (k : Nat) (hk : k < l.length) (u : Bs.U) (hx : a.eval x = .pointer (some ⟨b, k * 3, none⟩)) (hy : a.eval y = .agg #[.int .i64 u.share, .int .i64 u.used, .int .i64 u.waits]) (hown : OR w B (some ⟨b, 0, none⟩) c l)
    (h : ∀ w', OR w' B (some ⟨b, 0, none⟩) c (l.set k u) → OnlyB b w w' → wpList Try.prog ops Q rest (a.put o.dst undef) w') : wpList Try.prog ops Q (o :: rest) a w := by
  refine wpList_store_mid hgd 29 x y ho b (k * 3) #[.int .i64 u.share, .int .i64 u.used, .int .i64 u.waits] hx hy (hown.there hk) Try.sizeUserD (uA_one u) ?_
  obtain ⟨b', e', h1, h2, h3⟩ := hown.setR hk u
  cases e'
  exact h _ h3 (set3_only w b (k * 3) u)
theorem oneU1 : ∀ k, k < 7 → ∃ x, (#[Value.int .i64 3, .int .i64 2, .int .i64 4, .int .i64 1, .int .i64 0, .int .i64 5, .int .i64 6] : Array Value)[k]? = some (.int .i64 x) ∧ (0 ≤ x ∧ x ≤ 6) := by
  intro k hk
  match k, hk with
  | 0, _ => exact ⟨_, rfl, by decide⟩
  | 1, _ => exact ⟨_, rfl, by decide⟩
  | 2, _ => exact ⟨_, rfl, by decide⟩
  | 3, _ => exact ⟨_, rfl, by decide⟩
  | 4, _ => exact ⟨_, rfl, by decide⟩
  | 5, _ => exact ⟨_, rfl, by decide⟩
  | 6, _ => exact ⟨_, rfl, by decide⟩
theorem oneU2 (a0 a1 : Int) : ∀ k, k < 2 → ∃ x, (#[Value.int .i64 a0, .int .i64 a1] : Array Value)[k]? = some (.int .i64 x) := by
  intro k hk
  match k, hk with
  | 0, _ => exact ⟨_, rfl⟩
  | 1, _ => exact ⟨_, rfl⟩
theorem oneU3 (a0 a1 a2 : Int) : ∀ k, k < 3 → ∃ x, (#[Value.int .i64 a0, .int .i64 a1, .int .i64 a2] : Array Value)[k]? = some (.int .i64 x) := by
  intro k hk
  match k, hk with
  | 0, _ => exact ⟨_, rfl⟩
  | 1, _ => exact ⟨_, rfl⟩
  | 2, _ => exact ⟨_, rfl⟩
theorem oneU6 (a0 a1 a2 a3 a4 a5 : Int) : ∀ k, k < 6 → ∃ x, (#[Value.int .i64 a0, .int .i64 a1, .int .i64 a2, .int .i64 a3, .int .i64 a4, .int .i64 a5] : Array Value)[k]? = some (.int .i64 x) := by
  intro k hk
  match k, hk with
  | 0, _ => exact ⟨_, rfl⟩
  | 1, _ => exact ⟨_, rfl⟩
  | 2, _ => exact ⟨_, rfl⟩
  | 3, _ => exact ⟨_, rfl⟩
  | 4, _ => exact ⟨_, rfl⟩
  | 5, _ => exact ⟨_, rfl⟩
/-- users, drawn -/
def UsX (lo rb P : Nat) (w : World) (e : Ending) (w' : World) : Prop := (∃ A c l, e = .returned (.slice A (List.length l) c) ∧ RU w' w.heap.size w'.heap.size A l ∧ l.length ≤ 6 ∧ l.length ≤ c ∧ c ≤ maxLen) ∧ RD w' lo rb P ∧ Fx rb w w'
set_option maxRecDepth 20000 in
set_option maxHeartbeats 3200000 in
theorem anyUsersX (lo rb P : Nat) (w : World) (hs : RD w lo rb P) (hP : P ≤ 800000) :
    Calls Try.prog 40 #[.pointer (some ⟨rb, 0, none⟩)] w (UsX lo rb (P + 60) w) := by
  have hrb := hs.lt
  have hal := Below.alloc (Below.refl w.heap.size w) (Nat.le_refl _) (.cells #[] 29)
  have C1 := Lib.hid (one_newP (fun x => 0 ≤ x ∧ x ≤ 6) #[.int .i64 3, .int .i64 2, .int .i64 4, .int .i64 1, .int .i64 0, .int .i64 5, .int .i64 6] 7 lo rb P _ (hs.after hal) (by omega) oneU1 (by omega) (by omega) (g := w.heap.size + 1) (by simp))
  have HF0 := Lib.hid (Fx.of (rb := rb) hal)
  have HO0 := Lib.hid (OR.nil w w.heap.size (Nat.le_refl _))
  clear hs hal
  go_enter Try.func40, Try.ntmps40
  go_wp2_with fail
  refine (C1.out).mono ?_
  rintro e w1 ⟨⟨n, rfl, hn0, hn6⟩, hs1, hf1⟩
  have HO1 := Lib.hid (HO0.out.fx hf1 hrb)
  have HS1 := Lib.hid hs1
  have HF1 := Lib.hid (HF0.out.trans hf1)
  obtain ⟨n', rfl⟩ : ∃ n' : Nat, n = (n' : Int) := ⟨n.toNat, by omega⟩
  clear hs1 hf1 C1 HO0 HF0
  go_wp2
  go_loopw [3, 4] (fun v i wr => ∃ (k : Nat) (A1 : Option Addr) (c1 : Nat) (l : List Bs.U), i = .int .i64 (k : Int) ∧ v = .slice A1 l.length c1 ∧ l.length + k ≤ 6 ∧ OR wr w.heap.size A1 c1 l ∧ RD wr lo rb (P + 1 + 3 * l.length) ∧ Fx rb w wr) (fun _ i _ => (intOf i).toNat)
  case atStart => exact ⟨n', _, _, [], rfl, rfl, by simp; omega, HO1.out, HS1.out, HF1.out⟩
  case round =>
    obtain ⟨k, A1, c1, l, rfl, rfl, hlk, ho, hs, hf⟩ := hrel
    have sr := hf.size
    have HO := Lib.hid ho
    have HS := Lib.hid hs
    have HF := Lib.hid hf
    clear ho hs hf HO1 HS1 HF1
    by_cases hlt : 0 < k
    · have C1 := Lib.hid (one_newX #[.int .i64 1, .int .i64 2, .int .i64 3, .int .i64 10, .int .i64 1] 5 lo rb (P + 1 + 3 * l.length) wr HS.out (by omega) (one5 _ _ _ _ _) (by omega) (by omega) rfl)
      have d1 : decide ((0 : Int) < (k : Int)) = true := by simp; omega
      go_wp2_with fail
      refine (C1.out).mono ?_
      rintro e w1 ⟨⟨x, rfl⟩, hs1, hf1⟩
      have s1 := hf1.size
      have C2 := Lib.hid (one_newX #[.int .i64 0, .int .i64 5, .int .i64 10, .int .i64 100, .int .i64 9990, .int .i64 10000, .int .i64 30] 7 lo rb _ w1 hs1 (by omega) (one7 _ _ _ _ _ _ _) (by omega) (by omega) rfl)
      have HF1 := Lib.hid (HF.out.trans hf1)
      have HO1 := Lib.hid (HO.out.fx hf1 hrb)
      clear hs1 hf1 C1 HO HS HF
      go_wp2_with fail
      refine (C2.out).mono ?_
      rintro e w2 ⟨⟨y, rfl⟩, hs2, hf2⟩
      have s2 := hf2.size
      have C3 := Lib.hid (one_newX #[.int .i64 0, .int .i64 1, .int .i64 2, .int .i64 6, .int .i64 3] 5 lo rb _ w2 hs2 (by omega) (one5 _ _ _ _ _) (by omega) (by omega) rfl)
      have HF2 := Lib.hid (HF1.out.trans hf2)
      have HO2 := Lib.hid (HO1.out.fx hf2 hrb)
      clear hs2 hf2 C2 HO1 HF1
      go_wp2_with fail
      refine (C3.out).mono ?_
      rintro e w3 ⟨⟨z, rfl⟩, hs3, hf3⟩
      have s3 := hf3.size
      have HS3 := Lib.hid hs3
      have HF3 := Lib.hid (HF2.out.trans hf3)
      have HO3 := Lib.hid (HO2.out.fx hf3 hrb)
      clear hs3 hf3 C3 HO2 HF2
      go_wp2_with (at_builtin; go_loud (refine push_users rfl _ _ rfl w.heap.size A1 c1 l [⟨x, y, z⟩] rfl (HO3.out.alloc _) w3.heap.size 1 rfl (new_cellsR w3 ⟨x, y, z⟩) (by simp; omega) (by simp; omega) ?_; intro A3 c3 w4 ho4 hb4; have HB4 := Lib.hid hb4; have HO4 := Lib.hid ho4; clear hb4 ho4))
      have HS4 := Lib.hid ((HS3.out.after (Below.alloc (Below.refl _ _) (Nat.le_refl _) (.cells #[.int .i64 x, .int .i64 y, .int .i64 z] 29))).below HB4.out hrb)
      have HF4 := Lib.hid ((HF3.out.alloc (.cells #[.int .i64 x, .int .i64 y, .int .i64 z] 29)).then_ HB4.out)
      go_wp2
      go_roundw
      case rel => exact ⟨k - 1, A3, c3, l ++ [⟨x, y, z⟩], by go_num, by simp, by simp; omega, HO4.out, HS4.out.more (by simp; omega), HF4.out⟩
      case measure => simp [intOf]; omega
    · obtain rfl : k = 0 := by omega
      by_cases h0 : l.length = 0
      · have d1 : decide ((0 : Int) < (l.length : Int)) = false := by simp [h0]
        have hcp := HO.out.cap
        go_wp2
        go_ret
        exact ⟨⟨A1, c1, l, rfl, HO.out.ru, by omega, hcp.1, hcp.2⟩, HS.out.more (by omega), HF.out⟩
      · have d1 : decide ((0 : Int) < (l.length : Int)) = true := by simp; omega
        have C4 := Lib.hid (pickX 14 lo rb _ wr HS.out (by omega) (by omega))
        go_wp2_with fail
        refine (C4.out).mono ?_
        rintro e w4 ⟨⟨q, rfl, _, _⟩, hs4, hf4⟩
        have s4 := hf4.size
        have HF4 := Lib.hid (HF.out.trans hf4)
        have HO4 := Lib.hid (HO.out.fx hf4 hrb)
        have HS4 := Lib.hid hs4
        clear hs4 hf4 C4 HO HS HF
        by_cases hq : q = 0
        · subst hq
          have C5 := Lib.hid (pickX l.length lo rb _ w4 HS4.out (by omega) (by omega))
          go_wp2_with fail
          refine (C5.out).mono ?_
          rintro e w5 ⟨⟨j, rfl, hj, _⟩, hs5, hf5⟩
          have hj := hj (by omega)
          have s5 := hf5.size
          have HF5 := Lib.hid (HF4.out.trans hf5)
          have HO5 := Lib.hid (HO4.out.fx hf5 hrb)
          have C6 := Lib.hid (one_newX #[.int .i64 0, .int .i64 11, .int .i64 1] 3 lo rb _ w5 hs5 (by omega) (oneU3 _ _ _) (by omega) (by omega) rfl)
          clear hs5 hf5 C5 HO4 HS4 HF4
          go_wp2_with fail
          refine (C6.out).mono ?_
          rintro e w6 ⟨⟨x, rfl⟩, hs6, hf6⟩
          have s6 := hf6.size
          have HF6 := Lib.hid (HF5.out.trans hf6)
          have HO6 := Lib.hid (HO5.out.fx hf6 hrb)
          have C7 := Lib.hid (one_newX #[.int .i64 (-1), .int .i64 10001] 2 lo rb _ w6 hs6 (by omega) (oneU2 _ _) (by omega) (by omega) rfl)
          clear hs6 hf6 C6 HO5 HF5
          go_wp2_with fail
          refine (C7.out).mono ?_
          rintro e w7 ⟨⟨y, rfl⟩, hs7, hf7⟩
          have s7 := hf7.size
          have HF7 := Lib.hid (HF6.out.trans hf7)
          have HO7 := Lib.hid (HO6.out.fx hf7 hrb)
          have C8 := Lib.hid (one_newX #[.int .i64 (-1), .int .i64 7, .int .i64 1] 3 lo rb _ w7 hs7 (by omega) (oneU3 _ _ _) (by omega) (by omega) rfl)
          clear hs7 hf7 C7 HO6 HF6
          go_wp2_with fail
          refine (C8.out).mono ?_
          rintro e w8 ⟨⟨z, rfl⟩, hs8, hf8⟩
          have s8 := hf8.size
          have HF8 := Lib.hid (HF7.out.trans hf8)
          have HO8 := Lib.hid (HO7.out.fx hf8 hrb)
          have HS8 := Lib.hid hs8
          clear hs8 hf8 C8 HO7 HF7
          obtain ⟨b, rfl, hb, hbl, _, _⟩ := HO8.out.blk (by omega)
          have i0 : (0 : Int) ≤ (j : Int) := by omega
          have i1 : (j : Int) < (l.length : Int) := by omega
          have i2 : (0 : Int) ≤ (j : Int) ∧ (j : Int) < (l.length : Int) := ⟨i0, i1⟩
          go_wp2_with (go_loud (refine ur_store rfl _ _ rfl w.heap.size b c1 l j hj ⟨x, y, z⟩ rfl rfl HO8.out ?_; intro w9 h9 o9; have H9 := Lib.hid h9; have HS9 := Lib.hid (HS8.out.below (o9.below (Nat.le_refl _)) (by omega)); have HF9 := Lib.hid (HF8.out.then_ (o9.below hb)); clear h9 o9))
          have hcp := H9.out.cap
          rw [List.length_set] at hcp
          go_wp2
          go_ret
          exact ⟨⟨some ⟨b, 0, none⟩, c1, l.set j ⟨x, y, z⟩, by rw [List.length_set]; rfl, H9.out.ru, by rw [List.length_set]; omega, by rw [List.length_set]; exact hcp.1, hcp.2⟩, HS9.out.more (by omega), HF9.out⟩
        · have hq' : ((q : Int) == 0) = false := by rw [beq_eq_false_iff_ne]; omega
          have hcp := HO4.out.cap
          go_wp2
          go_ret
          exact ⟨⟨A1, c1, l, rfl, HO4.out.ru, by omega, hcp.1, hcp.2⟩, HS4.out.more (by omega), HF4.out⟩
/-- users, drawn by themselves -/
def DrawU (w : World) (e : Ending) (w' : World) : Prop := (∃ A c l, e = .returned (.slice A (List.length l) c) ∧ RU w' w.heap.size w'.heap.size A l ∧ l.length ≤ 6 ∧ l.length ≤ c ∧ c ≤ maxLen) ∧ Below w.heap.size w w'
theorem DrawValidUsers_any (A : Option Addr) (c : Nat) (l : List Int) (w : World) (hb : RB w 0 w.heap.size A l) (hl : l.length ≤ c) (hc : c ≤ maxLen) :
    Calls Try.prog 17 #[.slice A l.length c] w (DrawU w) := by
  have C1 := Lib.hid (newReader_any A c l w hb hl hc)
  clear hb
  go_enter Try.func17, Try.ntmps17
  go_wp2_with fail
  refine (C1.out).mono ?_
  rintro e w1 ⟨rb, rfl, hs1, hf1⟩
  have hrlo := hs1.rd.1
  have hrb := hs1.rd.lt
  have s1 := hf1.1.size
  have C2 := Lib.hid (anyUsersX w.heap.size rb 0 w1 hs1.rd (by omega))
  have HF := Lib.hid hf1.1
  clear hs1 hf1 C1
  go_wp2_with fail
  refine (C2.out).mono ?_
  rintro e w2 ⟨⟨A2, c2, g, rfl, hg, hg6, hgc, hcm⟩, hrd, hf2⟩
  have HG := Lib.hid (hg.more (lo' := w.heap.size) s1 (Nat.le_refl _))
  have HB := Lib.hid (HF.out.trans (hf2.below hrlo hrb))
  clear hg hrd hf2 C2
  go_wp2
  go_ret
  exact ⟨⟨A2, c2, g, rfl, HG.out, hg6, hgc, hcm⟩, HB.out⟩
theorem DrawNextUser_any (A : Option Addr) (c : Nat) (l : List Int) (w : World) (hb : RB w 0 w.heap.size A l) (hl : l.length ≤ c) (hc : c ≤ maxLen) :
    Calls Try.prog 20 #[.slice A l.length c] w (DrawU w) := by
  have C1 := Lib.hid (newReader_any A c l w hb hl hc)
  clear hb
  go_enter Try.func20, Try.ntmps20
  go_wp2_with fail
  refine (C1.out).mono ?_
  rintro e w1 ⟨rb, rfl, hs1, hf1⟩
  have hrlo := hs1.rd.1
  have hrb := hs1.rd.lt
  have s1 := hf1.1.size
  have C2 := Lib.hid (anyUsersX w.heap.size rb 0 w1 hs1.rd (by omega))
  have HF := Lib.hid hf1.1
  clear hs1 hf1 C1
  go_wp2_with fail
  refine (C2.out).mono ?_
  rintro e w2 ⟨⟨A2, c2, g, rfl, hg, hg6, hgc, hcm⟩, hrd, hf2⟩
  have HG := Lib.hid (hg.more (lo' := w.heap.size) s1 (Nat.le_refl _))
  have HB := Lib.hid (HF.out.trans (hf2.below hrlo hrb))
  clear hg hrd hf2 C2
  go_wp2
  go_ret
  exact ⟨⟨A2, c2, g, rfl, HG.out, hg6, hgc, hcm⟩, HB.out⟩
/-- users and a number -/
def DrawUA (w : World) (e : Ending) (w' : World) : Prop := (∃ A c l x, e = .returned (.tuple #[.slice A (List.length l) c, .int .i64 x]) ∧ RU w' w.heap.size w'.heap.size A l ∧ l.length ≤ 6 ∧ l.length ≤ c ∧ c ≤ maxLen) ∧ Below w.heap.size w w'
theorem DrawFairParts_any (A : Option Addr) (c : Nat) (l : List Int) (w : World) (hb : RB w 0 w.heap.size A l) (hl : l.length ≤ c) (hc : c ≤ maxLen) :
    Calls Try.prog 31 #[.slice A l.length c] w (DrawUA w) := by
  have C1 := Lib.hid (newReader_any A c l w hb hl hc)
  clear hb
  go_enter Try.func31, Try.ntmps31
  go_wp2_with fail
  refine (C1.out).mono ?_
  rintro e w1 ⟨rb, rfl, hs1, hf1⟩
  have hrlo := hs1.rd.1
  have hrb := hs1.rd.lt
  have s1 := hf1.1.size
  have C2 := Lib.hid (anyUsersX w.heap.size rb 0 w1 hs1.rd (by omega))
  have HF := Lib.hid hf1.1
  clear hs1 hf1 C1
  go_wp2_with fail
  refine (C2.out).mono ?_
  rintro e w2 ⟨⟨A2, c2, g, rfl, hg, hg6, hgc, hcm⟩, hrd, hf2⟩
  have s2 := hf2.size
  have hrb2 := hrd.lt
  have C3 := Lib.hid (one_newX #[.int .i64 0, .int .i64 1, .int .i64 100, .int .i64 10000, .int .i64 10001, .int .i64 (-1), .int .i64 37] 7 w.heap.size rb _ w2 hrd (by omega) (one7 _ _ _ _ _ _ _) (by omega) (by omega) rfl)
  have HG := Lib.hid hg
  have HF2 := Lib.hid (hf2)
  clear hg hrd hf2 C2
  go_wp2_with fail
  refine (C3.out).mono ?_
  rintro e w3 ⟨⟨x, rfl⟩, hs3, hf3⟩
  have s3 := hf3.size
  have HG3 := Lib.hid ((HG.out.fx hf3 hrb (Nat.le_refl _)).more (lo' := w.heap.size) s1 s3)
  have HB := Lib.hid (HF.out.trans ((HF2.out.trans hf3).below hrlo hrb))
  clear hs3 hf3 C3
  go_wp2
  go_ret2
  exact ⟨⟨A2, c2, g, x, rfl, HG3.out, hg6, hgc, hcm⟩, HB.out⟩
theorem DrawServeUser_any (A : Option Addr) (c : Nat) (l : List Int) (w : World) (hb : RB w 0 w.heap.size A l) (hl : l.length ≤ c) (hc : c ≤ maxLen) :
    Calls Try.prog 23 #[.slice A l.length c] w (DrawUA w) := by
  have C1 := Lib.hid (newReader_any A c l w hb hl hc)
  clear hb
  go_enter Try.func23, Try.ntmps23
  go_wp2_with fail
  refine (C1.out).mono ?_
  rintro e w1 ⟨rb, rfl, hs1, hf1⟩
  have hrlo := hs1.rd.1
  have hrb := hs1.rd.lt
  have s1 := hf1.1.size
  have C2 := Lib.hid (anyUsersX w.heap.size rb 0 w1 hs1.rd (by omega))
  have HF := Lib.hid hf1.1
  clear hs1 hf1 C1
  go_wp2_with fail
  refine (C2.out).mono ?_
  rintro e w2 ⟨⟨A2, c2, g, rfl, hg, hg6, hgc, hcm⟩, hrd, hf2⟩
  have s2 := hf2.size
  have hrb2 := hrd.lt
  have C3 := Lib.hid (one_newX #[.int .i64 1, .int .i64 5, .int .i64 20, .int .i64 0, .int .i64 21, .int .i64 10] 6 w.heap.size rb _ w2 hrd (by omega) (oneU6 _ _ _ _ _ _) (by omega) (by omega) rfl)
  have HG := Lib.hid hg
  have HF2 := Lib.hid (hf2)
  clear hg hrd hf2 C2
  go_wp2_with fail
  refine (C3.out).mono ?_
  rintro e w3 ⟨⟨x, rfl⟩, hs3, hf3⟩
  have s3 := hf3.size
  have HG3 := Lib.hid ((HG.out.fx hf3 hrb (Nat.le_refl _)).more (lo' := w.heap.size) s1 s3)
  have HB := Lib.hid (HF.out.trans ((HF2.out.trans hf3).below hrlo hrb))
  clear hs3 hf3 C3
  go_wp2
  go_ret2
  exact ⟨⟨A2, c2, g, x, rfl, HG3.out, hg6, hgc, hcm⟩, HB.out⟩
theorem DrawServeAll_any (A : Option Addr) (c : Nat) (l : List Int) (w : World) (hb : RB w 0 w.heap.size A l) (hl : l.length ≤ c) (hc : c ≤ maxLen) :
    Calls Try.prog 27 #[.slice A l.length c] w (DrawUA w) := by
  have C1 := Lib.hid (DrawServeUser_any A c l w hb hl hc)
  clear hb
  go_enter Try.func27, Try.ntmps27
  go_wp2_with fail
  with_reducible refine (C1.out).mono ?_
  rintro e w4 ⟨⟨A2, c2, g, x, rfl, hg, hg6, hgc, hcm⟩, hb4⟩
  have HG4 := Lib.hid hg
  have HB4 := Lib.hid hb4
  clear hg hb4
  go_wp2
  go_ret2
  exact ⟨⟨A2, c2, g, x, rfl, HG4.out, hg6, hgc, hcm⟩, HB4.out⟩
end Go.Proofs.Ytcoipkogfgcdeaa
