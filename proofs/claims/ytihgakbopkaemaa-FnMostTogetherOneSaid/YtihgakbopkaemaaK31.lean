/-
  MERGED TEXTS: X15 X16.
-/
import Derived.Test.YtihgakbopkaemaaK17
import Derived.Test.YtihgakbopkaemaaK29
namespace Go.Proofs.Ytihgakbopkaemaa
open Go.RowKit
theorem oneE7 (a0 a1 a2 a3 a4 a5 a6 : Int) : ∀ k, k < 7 → ∃ x, (#[Value.int .i64 a0, .int .i64 a1, .int .i64 a2, .int .i64 a3, .int .i64 a4, .int .i64 a5, .int .i64 a6] : Array Value)[k]? = some (.int .i64 x) := by
  intro k hk
  match k, hk with
  | 0, _ => exact ⟨_, rfl⟩
  | 1, _ => exact ⟨_, rfl⟩
  | 2, _ => exact ⟨_, rfl⟩
  | 3, _ => exact ⟨_, rfl⟩
  | 4, _ => exact ⟨_, rfl⟩
  | 5, _ => exact ⟨_, rfl⟩
  | 6, _ => exact ⟨_, rfl⟩
def OneE (p : Int → Prop) (lo rb P : Nat) (w : World) (e : Ending) (w' : World) : Prop := (∃ x, e = .returned (.int .i64 x) ∧ p x) ∧ RD w' lo rb (P + 1) ∧ Fx rb w w'
theorem one_newE (p : Int → Prop) (cs : Array Value) (n lo rb P : Nat) (w : World) (hs : RD w lo rb P) (hP : P ≤ 1000000) (h : ∀ k, k < n → ∃ x, cs[k]? = some (.int .i64 x) ∧ p x) (h0 : 0 < n) (h1 : n ≤ 1000) {g : Nat} (hg : w.heap.size = g) :
    Calls Try.prog 43 #[.pointer (some ⟨rb, 0, none⟩), .slice (some ⟨g, 0, none⟩) n n] (w.alloc (.cells cs 3)) (OneE p lo rb P w) := by
  subst hg
  have hlt := hs.lt
  have hal := Below.alloc (Below.refl w.heap.size w) (Nat.le_refl _) (.cells cs 3)
  have C1 := Lib.hid (pickX n lo rb P _ (hs.after hal) hP (by omega))
  have HF := Lib.hid (Fx.of (rb := rb) hal)
  have HB := Lib.hid (Blk.new w 3 cs)
  clear hs hal
  go_enter Try.func43, Try.ntmps43
  go_wp2_with fail
  refine (C1.out).mono ?_
  rintro e w1 ⟨⟨k, rfl, hk, _⟩, hs1, hf1⟩
  have hk := hk h0
  obtain ⟨x, hx, hpx⟩ := h k hk
  have hc : w1.cell? ⟨w.heap.size, k, none⟩ = some (.int .i64 x) := by
    rw [hf1.cell (by simp) (by show w.heap.size ≠ rb; omega), HB.out.cell, hx]
  have HS := Lib.hid hs1
  have HF := Lib.hid (HF.out.trans hf1)
  have HP := Lib.hid hpx
  clear hs1 hf1 h hx hpx
  go_wp2_with fail
  go_ret
  exact ⟨⟨x, rfl, HP.out⟩, HS.out, HF.out⟩
theorem oneEs : ∀ k, k < 7 → ∃ x, (#[Value.int .i64 3, .int .i64 4, .int .i64 2, .int .i64 1, .int .i64 0, .int .i64 6, .int .i64 7] : Array Value)[k]? = some (.int .i64 x) ∧ (0 ≤ x ∧ x ≤ 7) := by
  intro k hk
  match k, hk with
  | 0, _ => exact ⟨_, rfl, by decide⟩
  | 1, _ => exact ⟨_, rfl, by decide⟩
  | 2, _ => exact ⟨_, rfl, by decide⟩
  | 3, _ => exact ⟨_, rfl, by decide⟩
  | 4, _ => exact ⟨_, rfl, by decide⟩
  | 5, _ => exact ⟨_, rfl, by decide⟩
  | 6, _ => exact ⟨_, rfl, by decide⟩
theorem oneE5 (a0 a1 a2 a3 a4 : Int) : ∀ k, k < 5 → ∃ x, (#[Value.int .i64 a0, .int .i64 a1, .int .i64 a2, .int .i64 a3, .int .i64 a4] : Array Value)[k]? = some (.int .i64 x) := by
  intro k hk
  match k, hk with
  | 0, _ => exact ⟨_, rfl⟩
  | 1, _ => exact ⟨_, rfl⟩
  | 2, _ => exact ⟨_, rfl⟩
  | 3, _ => exact ⟨_, rfl⟩
  | 4, _ => exact ⟨_, rfl⟩
/-- what a draw of a list and a number hands back -/
def DrawLA (w : World) (e : Ending) (w' : World) : Prop := (∃ A2 c2 l x, e = .returned (.tuple #[.slice A2 (List.length l) c2, .int .i64 x]) ∧ RI w' w.heap.size w'.heap.size A2 l ∧ l.length ≤ 100 ∧ l.length ≤ c2 ∧ c2 ≤ maxLen) ∧ Below w.heap.size w w'
end Go.Proofs.Ytihgakbopkaemaa
namespace Go.Proofs.Ytihgakbopkaemaa
open Go.RowKit
theorem OE.fx {w w' : World} {rb B : Nat} {A : Option Addr} {c : Nat} {l : List Bs.E} (h : OE w B A c l) (hf : Fx rb w w') (hB : rb < B) : OE w' B A c l := by
  refine ⟨h.1, ?_⟩
  rcases h.2 with hn | ⟨g, cap, cur, hv, h1, hg, rest⟩
  · exact .inl hn
  · exact .inr ⟨g, cap, cur, hv, h1, by rw [hf.block g (Array.getElem?_eq_some_iff.1 hg).1 (by omega)]; exact hg, rest⟩
theorem RE.fx {w w' : World} {rb lo hi : Nat} {A : Option Addr} {l : List Bs.E} (h : RE w lo hi A l) (hf : Fx rb w w') (hlo : rb < lo) (hhi : hi ≤ w.heap.size) : RE w' lo hi A l :=
  h.keep fun p h1 h2 => hf.cell (by omega) (by omega)
theorem ec_take : ∀ (l : List Bs.E) (n : Nat), (l.take n).flatMap ec = (l.flatMap ec).take (n * 3)
  | [], n => by simp
  | x :: r, 0 => by simp
  | x :: r, n + 1 => by
    rw [List.take_succ_cons, List.flatMap_cons, List.flatMap_cons, ec_take r n, List.take_append]
    have e : (ec x).length = 3 := rfl
    rw [e, List.take_of_length_le (l := ec x) (by rw [e]; omega), show (n + 1) * 3 - 3 = n * 3 from by omega]
theorem OE.cut {w : World} {B : Nat} {A : Option Addr} {c : Nat} {l : List Bs.E} (h : OE w B A c l) (h0 : 0 < l.length) {n : Nat} (hn : n ≤ l.length) : OE w B A c (l.take n) := by
  have hl : (l.take n).length = n := by rw [List.length_take]; omega
  refine ⟨OE.len, ?_⟩
  rcases h.2 with ⟨hv, h1⟩ | ⟨g, cap, cur, hv, h1, hg, hnc, hcm, hcs, ht⟩
  · omega
  · injection hv with hA hx hc
    subst hA
    subst hc
    refine .inr ⟨g, c, cur, rfl, h1, hg, by omega, hcm, hcs, ?_⟩
    rw [hl, ec_take, ← ht, List.take_take, Nat.min_eq_left (Nat.mul_le_mul_right 3 hn)]
theorem logL_len (g : List Bs.T) (m : List Int) (wk : Int) (S : List Int) : (Bs.logL g m wk S).length ≤ 3536 := by
  cases hv : Bs.stV g m wk S
  · rw [Bs.logL_no hv]; simp
  · rw [Bs.logL_yes hv]
    exact Bs.lgK_len8 S (Bs.fine_len (valid_fine (Bs.canV_iff.1 (Bs.stV_iff.1 hv).1).1)) (Nat.le_refl _)
theorem oneE3 (a0 a1 a2 : Int) : ∀ k, k < 3 → ∃ x, (#[Value.int .i64 a0, .int .i64 a1, .int .i64 a2] : Array Value)[k]? = some (.int .i64 x) := by
  intro k hk
  match k, hk with
  | 0, _ => exact ⟨_, rfl⟩
  | 1, _ => exact ⟨_, rfl⟩
  | 2, _ => exact ⟨_, rfl⟩
/-- events, drawn -/
def EvX (lo rb P : Nat) (w : World) (e : Ending) (w' : World) : Prop := (∃ A c l, e = .returned (.slice A (List.length l) c) ∧ OE w' w.heap.size A c l ∧ l.length ≤ 3536) ∧ RD w' lo rb P ∧ Fx rb w w'
theorem anyLogEnd (w : World) (lor rb P : Nat) (A5 : Option Addr) (c5 : Nat) (L : List Bs.E) (w2 : World) (hO : OE w2 w.heap.size A5 c5 L) (hL : L.length ≤ 3536) (hs : RD w2 lor rb P) (hF : Fx rb w w2) : EvX lor rb P w (.returned (.slice A5 L.length c5)) w2 :=
  ⟨⟨A5, c5, L, rfl, hO, hL⟩, hs, hF⟩
set_option maxRecDepth 20000 in
set_option maxHeartbeats 3200000 in
theorem anyLogX (A : Option Addr) (c : Nat) (g : List Bs.T) (lo hi lor rb P : Nat) (w : World) (hs : RD w lor rb P) (hP : P ≤ 700000) (hg : RGs rb w lo hi A g) (hh : hi ≤ w.heap.size) (hg16 : g.length ≤ 16) :
    Calls Try.prog 41 #[.pointer (some ⟨rb, 0, none⟩), .slice A g.length c] w (EvX lor rb (P + 40) w) := by
  have hrb := hs.lt
  have C1 := Lib.hid (someStartsX A c g lo hi lor rb P w hs hP hg hh hg16)
  have HG := Lib.hid hg
  clear hs hg
  go_enter Try.func41, Try.ntmps41
  go_wp2_with fail
  refine (C1.out).mono ?_
  rintro e w1 ⟨⟨A2, c2, m, x, A3, c3, S, rfl, hm, hm100, hmc, hmm, hS, hS100, hSc, hSm⟩, hs1, hf1⟩
  have s1 := hf1.size
  have C2 := Lib.hid (LogOfS_any A c g A2 c2 m A3 c3 S x lo hi w.heap.size w1.heap.size w.heap.size w1.heap.size w1 (HG.out.fx hf1 hh).rg (by omega) hm (Nat.le_refl _) hS (Nat.le_refl _) (by omega) (by omega) (by omega))
  have hLL := logL_len g m x S
  have HS1 := Lib.hid hs1
  have HF1 := Lib.hid hf1
  clear hs1 hf1 hm hS C1 HG hmc hmm hSc hSm hm100 hS100
  generalize Bs.logL g m x S = L at *
  go_wp2_with fail
  refine (C2.out).mono ?_
  rintro e w2 ⟨⟨A5, c5, rfl, hO⟩, hb2⟩
  have s2 := hb2.size
  have HO2 := Lib.hid (hO.lower s1)
  have HS2 := Lib.hid (HS1.out.after hb2)
  have HF2 := Lib.hid (HF1.out.then_ (hb2.mono s1))
  have hcap := HO2.out.cap
  clear hO hb2 C2 HS1 HF1
  by_cases hL0 : L.length = 0
  · have e1 : decide ((0 : Int) < (L.length : Int)) = false := by simp [hL0]
    have e1' : decide (0 < L.length) = false := by simp [hL0]
    have e1'' : decide ((L.length : Int) > 0) = false := by simp [hL0]
    have HE := Lib.hid (anyLogEnd w lor rb (P + 40) A5 c5 L w2 HO2.out hLL (HS2.out.more (by omega)) HF2.out)
    go_wp2_with fail
    go_ret
    exact (by have := HE.out; rw [hL0] at this; exact this)
  have e1 : decide ((0 : Int) < (L.length : Int)) = true := by simp; omega
  have e1' : decide (0 < L.length) = true := by simp; omega
  have e1'' : decide ((L.length : Int) > 0) = true := by simp; omega
  have C3 := Lib.hid (pickX 3 lor rb (P + 20) w2 HS2.out (by omega) (by omega))
  go_wp2_with fail
  refine (C3.out).mono ?_
  rintro e w3 ⟨⟨k3, rfl, _, _⟩, hs3, hf3⟩
  have s3 := hf3.size
  have HSw3 := Lib.hid hs3
  have HFw3 := Lib.hid (HF2.out.trans hf3)
  have HOw3 := Lib.hid (HO2.out.fx hf3 hrb)
  clear hs3 hf3 C3 HS2 HF2 HO2
  by_cases hk3 : k3 = 0
  rotate_left
  · have f0 : ((k3 : Int) == 0) = false := by rw [beq_eq_false_iff_ne]; omega
    have f0' : (k3 == 0) = false := by rw [beq_eq_false_iff_ne]; omega
    have C4 := Lib.hid (pickX 10 lor rb (P + 21) w3 HSw3.out (by omega) (by omega))
    go_wp2_with fail
    refine (C4.out).mono ?_
    rintro e w5 ⟨⟨k5, rfl, _, _⟩, hs5, hf5⟩
    have HS5 := Lib.hid hs5
    have HF5 := Lib.hid (HFw3.out.trans hf5)
    have HO5 := Lib.hid (HOw3.out.fx hf5 hrb)
    have s5 := HF5.out.size
    clear hs5 hf5 C4
    by_cases hk5 : k5 = 0
    rotate_left
    · have f1 : ((k5 : Int) == 0) = false := by rw [beq_eq_false_iff_ne]; omega
      have f1' : (k5 == 0) = false := by rw [beq_eq_false_iff_ne]; omega
      have HE := Lib.hid (anyLogEnd w lor rb (P + 40) _ c5 (L) w5 HO5.out (by omega) (HS5.out.more (by omega)) HF5.out)
      go_wp2
      go_ret
      exact HE.out
    · subst hk5
      have C5 := Lib.hid (pickX L.length lor rb (P + 22) w5 HS5.out (by omega) (by omega))
      go_wp2_with fail
      refine (C5.out).mono ?_
      rintro e w6 ⟨⟨j, rfl, hj, _⟩, hs6, hf6⟩
      have hjl := hj (by omega)
      have HO6 := Lib.hid (HO5.out.fx hf6 hrb)
      have HF6 := Lib.hid (HF5.out.trans hf6)
      have HS6 := Lib.hid hs6
      have s6 := HF6.out.size
      clear hs6 hf6 C5 hj
      have C6 := Lib.hid (one_newX #[.int .i64 0, .int .i64 5, .int .i64 201] 3 lor rb (P + 23) w6 HS6.out (by omega) (oneE3 0 5 201) (by omega) (by omega) rfl)
      go_wp2_with fail
      refine (C6.out).mono ?_
      rintro e w7 ⟨⟨y, rfl⟩, hs7, hf7⟩
      have HO7 := Lib.hid (HO6.out.fx hf7 hrb)
      have HF7 := Lib.hid (HF6.out.trans hf7)
      have HS7 := Lib.hid hs7
      have s7 := HF7.out.size
      clear hs7 hf7 C6
      have C7 := Lib.hid (pickX 9 lor rb (P + 24) w7 HS7.out (by omega) (by omega))
      go_wp2_with fail
      refine (C7.out).mono ?_
      rintro e w8 ⟨⟨a8, rfl, _, _⟩, hs8, hf8⟩
      have HO8 := Lib.hid (HO7.out.fx hf8 hrb)
      have HF8 := Lib.hid (HF7.out.trans hf8)
      have HS8 := Lib.hid hs8
      have s8 := HF8.out.size
      clear hs8 hf8 C7
      have C8 := Lib.hid (pickX 2 lor rb (P + 25) w8 HS8.out (by omega) (by omega))
      go_wp2_with fail
      refine (C8.out).mono ?_
      rintro e w9 ⟨⟨q9, rfl, _, _⟩, hs9, hf9⟩
      have ho9 := HO8.out.fx hf9 hrb
      have HF9 := Lib.hid (HF8.out.trans hf9)
      have HS9 := Lib.hid hs9
      have s9 := HF9.out.size
      clear hs9 hf9 C8
      obtain ⟨b, hA, hbB, _, _, _⟩ := ho9.blk (by omega)
      cases hA
      have HO9 := Lib.hid ho9
      clear ho9
      obtain ⟨qb, hqb⟩ : ∃ qb, ((q9 : Int) == 0) = qb := ⟨_, rfl⟩
      have hqb' : (q9 == 0) = qb := by rw [← hqb, Bool.eq_iff_iff]; simp
      have i0 : (0 : Int) ≤ (j : Int) := by omega
      have i1 : (j : Int) < (L.length : Int) := by omega
      go_wp2_with (first
        | (refine ev_store2 rfl _ _ rfl w.heap.size b c5 (L) j (by omega) ⟨y, (a8 : Int), qb⟩ rfl rfl HO9.out ?_; intro wz hz oz; have HOz := Lib.hid hz; have HBz := Lib.hid (oz.below hbB); clear hz oz))
      have HE := Lib.hid (anyLogEnd w lor rb (P + 40) _ c5 ((L).set j ⟨y, (a8 : Int), qb⟩) wz HOz.out (by rw [List.length_set]; omega) ((HS9.out.below HBz.out hrb).more (by omega)) (HF9.out.then_ HBz.out))
      go_wp2
      go_ret
      exact by have := HE.out; rw [List.length_set] at this; exact this
  subst hk3
  have hwl : IntKind.i64.wrap ((L.length : Int) + 1) = ((L.length + 1 : Nat) : Int) := by rw [show (L.length : Int) + 1 = ((L.length + 1 : Nat) : Int) from by omega]; exact IntWalk.i64_in _ ⟨by omega, by omega⟩
  have CN := Lib.hid (pickX (L.length + 1) lor rb (P + 21) w3 HSw3.out (by omega) (by omega))
  go_wp2_with fail
  refine (CN.out).mono ?_
  rintro e w4 ⟨⟨n, rfl, hn, _⟩, hs4, hf4⟩
  have hn1 := hn (by omega)
  obtain ⟨b0, hA0, hbB0, _, _, _⟩ := HOw3.out.blk (by omega)
  cases hA0
  have htl : (L.take n).length = n := by rw [List.length_take]; omega
  have HSw4 := Lib.hid hs4
  have HFw4 := Lib.hid (HFw3.out.trans hf4)
  have HOw4 := Lib.hid ((HOw3.out.fx hf4 hrb).cut (by omega) (n := n) (by omega))
  have s4 := HFw4.out.size
  clear hs4 hf4 CN HSw3 HFw3 HOw3 hn
  have hnc : (n : Int) ≤ (c5 : Int) := by omega
  have hnc' : n ≤ c5 := by omega
  have hn0 : (0 : Int) ≤ (n : Int) := by omega
  by_cases hz : n = 0
  · have g1 : decide ((0 : Int) < (n : Int)) = false := by simp [hz]
    have g1' : decide (0 < n) = false := by simp [hz]
    have g1'' : decide ((n : Int) > 0) = false := by simp [hz]
    have HE := Lib.hid (anyLogEnd w lor rb (P + 40) _ c5 (L.take n) w4 HOw4.out (by omega) (HSw4.out.more (by omega)) HFw4.out)
    go_wp2_with fail
    go_ret
    exact (by have := HE.out; rw [htl, hz] at this; exact this)
  have g1 : decide ((0 : Int) < (n : Int)) = true := by simp; omega
  have g1' : decide (0 < n) = true := by simp; omega
  have g1'' : decide ((n : Int) > 0) = true := by simp; omega
  have C4 := Lib.hid (pickX 10 lor rb (P + 22) w4 HSw4.out (by omega) (by omega))
  go_wp2_with fail
  refine (C4.out).mono ?_
  rintro e w5 ⟨⟨k5, rfl, _, _⟩, hs5, hf5⟩
  have HS5 := Lib.hid hs5
  have HF5 := Lib.hid (HFw4.out.trans hf5)
  have HO5 := Lib.hid (HOw4.out.fx hf5 hrb)
  have s5 := HF5.out.size
  clear hs5 hf5 C4
  by_cases hk5 : k5 = 0
  rotate_left
  · have f1 : ((k5 : Int) == 0) = false := by rw [beq_eq_false_iff_ne]; omega
    have f1' : (k5 == 0) = false := by rw [beq_eq_false_iff_ne]; omega
    have HE := Lib.hid (anyLogEnd w lor rb (P + 40) _ c5 (L.take n) w5 HO5.out (by omega) (HS5.out.more (by omega)) HF5.out)
    go_wp2
    go_ret
    exact by have := HE.out; rw [htl] at this; exact this
  · subst hk5
    have C5 := Lib.hid (pickX n lor rb (P + 23) w5 HS5.out (by omega) (by omega))
    go_wp2_with fail
    refine (C5.out).mono ?_
    rintro e w6 ⟨⟨j, rfl, hj, _⟩, hs6, hf6⟩
    have hjl := hj (by omega)
    have HO6 := Lib.hid (HO5.out.fx hf6 hrb)
    have HF6 := Lib.hid (HF5.out.trans hf6)
    have HS6 := Lib.hid hs6
    have s6 := HF6.out.size
    clear hs6 hf6 C5 hj
    have C6 := Lib.hid (one_newX #[.int .i64 0, .int .i64 5, .int .i64 201] 3 lor rb (P + 24) w6 HS6.out (by omega) (oneE3 0 5 201) (by omega) (by omega) rfl)
    go_wp2_with fail
    refine (C6.out).mono ?_
    rintro e w7 ⟨⟨y, rfl⟩, hs7, hf7⟩
    have HO7 := Lib.hid (HO6.out.fx hf7 hrb)
    have HF7 := Lib.hid (HF6.out.trans hf7)
    have HS7 := Lib.hid hs7
    have s7 := HF7.out.size
    clear hs7 hf7 C6
    have C7 := Lib.hid (pickX 9 lor rb (P + 25) w7 HS7.out (by omega) (by omega))
    go_wp2_with fail
    refine (C7.out).mono ?_
    rintro e w8 ⟨⟨a8, rfl, _, _⟩, hs8, hf8⟩
    have HO8 := Lib.hid (HO7.out.fx hf8 hrb)
    have HF8 := Lib.hid (HF7.out.trans hf8)
    have HS8 := Lib.hid hs8
    have s8 := HF8.out.size
    clear hs8 hf8 C7
    have C8 := Lib.hid (pickX 2 lor rb (P + 26) w8 HS8.out (by omega) (by omega))
    go_wp2_with fail
    refine (C8.out).mono ?_
    rintro e w9 ⟨⟨q9, rfl, _, _⟩, hs9, hf9⟩
    have ho9 := HO8.out.fx hf9 hrb
    have HF9 := Lib.hid (HF8.out.trans hf9)
    have HS9 := Lib.hid hs9
    have s9 := HF9.out.size
    clear hs9 hf9 C8
    skip
    have HO9 := Lib.hid ho9
    clear ho9
    obtain ⟨qb, hqb⟩ : ∃ qb, ((q9 : Int) == 0) = qb := ⟨_, rfl⟩
    have hqb' : (q9 == 0) = qb := by rw [← hqb, Bool.eq_iff_iff]; simp
    have i0 : (0 : Int) ≤ (j : Int) := by omega
    have i1 : (j : Int) < (n : Int) := by omega
    go_wp2_with (first
      | (refine ev_store2 rfl _ _ rfl w.heap.size b0 c5 (L.take n) j (by omega) ⟨y, (a8 : Int), qb⟩ rfl rfl HO9.out ?_; intro wz hz oz; have HOz := Lib.hid hz; have HBz := Lib.hid (oz.below hbB0); clear hz oz))
    have HE := Lib.hid (anyLogEnd w lor rb (P + 40) _ c5 ((L.take n).set j ⟨y, (a8 : Int), qb⟩) wz HOz.out (by rw [List.length_set]; omega) ((HS9.out.below HBz.out hrb).more (by omega)) (HF9.out.then_ HBz.out))
    go_wp2
    go_ret
    exact by have := HE.out; rw [List.length_set, htl] at this; exact this
/-- a graph and events -/
def DrawGE (w : World) (e : Ending) (w' : World) : Prop := (∃ A c g A2 c2 l, e = .returned (.tuple #[.slice A (List.length g) c, .slice A2 (List.length l) c2]) ∧ RG w' w.heap.size w'.heap.size A g ∧ g.length ≤ 16 ∧ g.length ≤ c ∧ c ≤ maxLen ∧
  RE w' w.heap.size w'.heap.size A2 l ∧ l.length ≤ 3536 ∧ l.length ≤ c2 ∧ c2 ≤ maxLen) ∧ Below w.heap.size w w'
theorem DrawValidLog_any (A : Option Addr) (c : Nat) (l : List Int) (w : World) (hb : RB w 0 w.heap.size A l) (hl : l.length ≤ c) (hc : c ≤ maxLen) :
    Calls Try.prog 60 #[.slice A l.length c] w (DrawGE w) := by
  have C1 := Lib.hid (newReader_any A c l w hb hl hc)
  clear hb
  go_enter Try.func60, Try.ntmps60
  go_wp2_with fail
  refine (C1.out).mono ?_
  rintro e w1 ⟨rb, rfl, hs1, hf1⟩
  have hrlo := hs1.rd.1
  have C2 := Lib.hid (anyGraph_any w.heap.size rb 0 w1 hs1 (by omega))
  have HF := Lib.hid hf1
  clear hs1 hf1 C1
  go_wp2_with fail
  refine (C2.out).mono ?_
  rintro e w2 hG
  obtain ⟨A2, c2, g, rfl, hg, hg16, hgc, hcm, hrd, hf2⟩ := hG.open_
  have hrb := hrd.lt
  have s2 := hf2.1.size
  have HG := Lib.hid hg
  have HF2 := Lib.hid (HF.out.1.trans hf2.1)
  have HRD := Lib.hid hrd
  have s0 := HF2.out.size
  clear hG hg hrd hf2 C2
  have C3 := Lib.hid (anyLogX A2 c2 g _ _ w.heap.size rb _ w2 HRD.out (by omega) HG.out (Nat.le_refl _) hg16)
  go_wp2_with fail
  refine (C3.out).mono ?_
  rintro e w3 ⟨⟨A3, c3, m, rfl, hm, hm100⟩, hs3, hf3⟩
  have s3 := hf3.size
  have HG4 := Lib.hid ((HG.out.fx hf3 (Nat.le_refl _)).rg.more (hi' := w3.heap.size) (Nat.le_refl _) (by omega))
  have hcp := hm.cap
  have HM4 := Lib.hid (hm.re.more (lo' := w.heap.size) s0 (Nat.le_refl _))
  have HB4 := Lib.hid (HF2.out.trans (hf3.below hrlo hrb))
  clear hs3 hf3 hm C3 HG HRD HF
  go_wp2
  go_ret2
  exact ⟨⟨A2, c2, g, A3, c3, m, rfl, HG4.out, hg16, hgc, hcm, HM4.out, hm100, hcp.1, hcp.2⟩, HB4.out⟩
theorem DrawMostTogether_any (A : Option Addr) (c : Nat) (l : List Int) (w : World) (hb : RB w 0 w.heap.size A l) (hl : l.length ≤ c) (hc : c ≤ maxLen) :
    Calls Try.prog 29 #[.slice A l.length c] w (DrawGE w) := by
  have C1 := Lib.hid (DrawValidLog_any A c l w hb hl hc)
  clear hb
  go_enter Try.func29, Try.ntmps29
  go_wp2_with fail
  with_reducible refine (C1.out).mono ?_
  rintro e w4 ⟨⟨A2, c2, g, A3, c3, m, rfl, hg, hg16, hgc, hcm, hm, hm100, hmc, hmm⟩, hb4⟩
  have HG4 := Lib.hid hg
  have HM4 := Lib.hid hm
  have HB4 := Lib.hid hb4
  clear hg hm hb4
  go_wp2
  go_ret2
  exact ⟨⟨A2, c2, g, A3, c3, m, rfl, HG4.out, hg16, hgc, hcm, HM4.out, hm100, hmc, hmm⟩, HB4.out⟩
end Go.Proofs.Ytihgakbopkaemaa
