/-
  WALKS: the draws beside an exact memory: one of a list, a copy, a spoilt list. No condition.
-/
import Derived.Test.YtoggbndpjcfmiaaX1
import Derived.Test.YtoggbndpjcfmiaaL1
import Derived.Test.YtoggbndpjcfmiaaCp
namespace Go.Proofs.Ytoggbndpjcfmiaa
open Go.RowKit
def OneX (lo rb P : Nat) (w : World) (e : Ending) (w' : World) : Prop := (∃ x, e = .returned (.int .i64 x)) ∧ RD w' lo rb (P + 1) ∧ Fx rb w w'
/-- 'r.one([]int{..})' -/
theorem one_newX (cs : Array Value) (n lo rb P : Nat) (w : World) (hs : RD w lo rb P) (hP : P ≤ 1000000) (h : ∀ k, k < n → ∃ x, cs[k]? = some (.int .i64 x)) (h0 : 0 < n) (h1 : n ≤ 1000) {g : Nat} (hg : w.heap.size = g) :
    Calls Try.prog 36 #[.pointer (some ⟨rb, 0, none⟩), .slice (some ⟨g, 0, none⟩) n n] (w.alloc (.cells cs 3)) (OneX lo rb P w) := by
  subst hg
  have hlt := hs.lt
  have hal := Below.alloc (Below.refl w.heap.size w) (Nat.le_refl _) (.cells cs 3)
  have C1 := Lib.hid (pickX n lo rb P _ (hs.after hal) hP (by omega))
  have HF := Lib.hid (Fx.of (rb := rb) hal)
  have HB := Lib.hid (Blk.new w 3 cs)
  clear hs hal
  go_enter Try.func36, Try.ntmps36
  go_wp2_with fail
  refine (C1.out).mono ?_
  rintro e w1 ⟨⟨k, rfl, hk, _⟩, hs1, hf1⟩
  have hk := hk h0
  obtain ⟨x, hx⟩ := h k hk
  have hc : w1.cell? ⟨w.heap.size, k, none⟩ = some (.int .i64 x) := by
    rw [hf1.cell (by simp) (by show w.heap.size ≠ rb; omega), HB.out.cell, hx]
  have HS := Lib.hid hs1
  have HF := Lib.hid (HF.out.trans hf1)
  clear hs1 hf1 h hx
  go_wp2_with fail
  go_ret
  exact ⟨⟨x, rfl⟩, HS.out, HF.out⟩
theorem OI.fx {w w' : World} {rb B : Nat} {A : Option Addr} {c : Nat} {l : List Int} (h : OI w B A c l) (hf : Fx rb w w') (hB : rb < B) : OI w' B A c l := by
  refine ⟨h.1, ?_⟩
  rcases h.2 with hn | ⟨g, cap, cur, hv, h1, hg, rest⟩
  · exact .inl hn
  · exact .inr ⟨g, cap, cur, hv, h1, by rw [hf.block g (Array.getElem?_eq_some_iff.1 hg).1 (by omega)]; exact hg, rest⟩
theorem RI.fx {w w' : World} {rb lo hi : Nat} {A : Option Addr} {l : List Int} (h : RI w lo hi A l) (hf : Fx rb w w') (hlo : rb < lo) (hhi : hi ≤ w.heap.size) : RI w' lo hi A l :=
  h.keep fun p h1 h2 => hf.cell (by omega) (by omega)
theorem RI.tail {w : World} {lo hi : Nat} {A : Option Addr} {l : List Int} (h : RI w lo hi A l) : RI w lo hi (Option.map (fun x => { block := x.block, off := x.off + 1, spot := none }) A) l.tail := by
  intro k hk
  obtain ⟨b, o, rfl, h1, h2, hc⟩ := h (k + 1) (by rw [List.length_tail] at hk; omega)
  refine ⟨b, o + 1, rfl, h1, h2, ?_⟩
  rw [show o + 1 + k = o + (k + 1) from by omega, hc]
  simp
/-- a spoilt list -/
def SpX (lo rb P m : Nat) (w : World) (e : Ending) (w' : World) : Prop := (∃ A c l, e = .returned (.slice A (List.length l) c) ∧ RI w' w.heap.size w'.heap.size A l ∧ l.length ≤ c ∧ c ≤ maxLen ∧ l.length ≤ m) ∧ RD w' lo rb P ∧ Fx rb w w'
theorem OI.set_ {w : World} {B : Nat} {A : Option Addr} {c : Nat} {l : List Int} (h : OI w B A c l) {k : Nat} (hk : k < l.length) (x : Int) :
    ∃ b, A = some ⟨b, 0, none⟩ ∧ B ≤ b ∧ b < w.heap.size ∧ w.cell? ⟨b, k, none⟩ = some (.int .i64 l[k]) ∧ w.frozen? ⟨b, k, none⟩ = false ∧ RI (w.setCell ⟨b, k, none⟩ (.int .i64 x)) B w.heap.size A (l.set k x) := by
  have hr := h.ri
  rcases h.2 with ⟨hv, hn⟩ | ⟨b, cap, cur, hv, hb, hg, hnc, hcm, hcs, ht⟩
  · omega
  · injection hv with hA hn hc
    subst hA
    obtain ⟨b', o', e, _, hlt, hc0⟩ := hr k hk
    cases e
    rw [Nat.zero_add] at hc0
    refine ⟨b, rfl, hb, hlt, hc0, by simp [World.frozen?, hg], ?_⟩
    intro j hj
    rw [List.length_set] at hj
    obtain ⟨b', o', e, h1, h2, hcj⟩ := hr j hj
    cases e
    rw [Nat.zero_add] at hcj
    refine ⟨b, 0, rfl, h1, h2, ?_⟩
    rw [Nat.zero_add]
    by_cases e : j = k
    · subst e
      rw [World.cell?_setCell_same _ _ _ hcj]
      simp
    · rw [World.cell?_setCell_other _ _ _ _ (fun e2 => e (by cases e2; rfl)), hcj]
      simp [List.getElem_set_ne (Ne.symm e)]
set_option maxHeartbeats 3200000 in
theorem spoilX (A : Option Addr) (c : Nat) (l : List Int) (lo rb P l1 h1 : Nat) (q : Int) (w : World) (hs : RD w lo rb P) (hP : P ≤ 900000) (hv : RI w l1 h1 A l) (hh : h1 ≤ w.heap.size) (hn : l.length ≤ 100000) :
    Calls Try.prog 52 #[.pointer (some ⟨rb, 0, none⟩), .slice A l.length c, .int .i64 q] w (SpX lo rb (P + 4) (l.length + 1) w) := by
  have hrb := hs.lt
  have C1 := Lib.hid (copyInts_ri A c l l1 h1 w hv hh (by omega))
  have HS := Lib.hid hs
  obtain ⟨B, hB⟩ : ∃ B, B = w.heap.size := ⟨_, rfl⟩
  clear hv hs
  go_enter Try.func52, Try.ntmps52
  go_wp2_with fail
  refine (C1.out).mono ?_
  rintro e w1 ⟨⟨A1, c1, rfl, ho1⟩, hb1⟩
  have s1 := hb1.size
  have HS1 := Lib.hid (HS.out.after hb1)
  have HF1 := Lib.hid (Fx.of (rb := rb) hb1)
  have HO1 := Lib.hid ho1
  have C2 := Lib.hid (pickX 20 lo rb P w1 HS1.out (by omega) (by omega))
  clear C1 hb1 ho1 HS
  go_wp2_with fail
  refine (C2.out).mono ?_
  rintro e w2 ⟨⟨k, rfl, hk, _⟩, hs2, hf2⟩
  have s2 := hf2.size
  have HS2 := Lib.hid hs2
  have HF2 := Lib.hid (HF1.out.trans hf2)
  have HO2 := Lib.hid (HO1.out.fx hf2 hrb)
  have hcap := HO2.out.cap
  clear hs2 hf2 C2 HS1 HF1 HO1
  by_cases k0 : k = 0
  · subst k0
    have hp := HO2.out.alloc (.cells #[.int .i64 q] 3)
    have HP := Lib.hid hp
    clear hp
    go_wp2_with (at_builtin; go_loud (refine push_int rfl _ _ rfl w.heap.size A1 c1 l q rfl HP.out w2.heap.size 1 rfl (by simp [go_sem]) (by omega) (by simp; omega) ?_; intro A3 c3 w3 ho3 hb3 _; have HB3 := Lib.hid hb3; have HO3 := Lib.hid ho3; clear hb3 ho3))
    have HS3 := Lib.hid ((HS2.out.after (Below.alloc (Below.refl _ _) (Nat.le_refl _) (.cells #[.int .i64 q] 3))).below HB3.out hrb)
    have HF3 := Lib.hid ((HF2.out.alloc (.cells #[.int .i64 q] 3)).then_ HB3.out)
    have hc3 := HO3.out.cap
    have HR3 := Lib.hid HO3.out.ri
    go_wp2
    go_ret
    exact ⟨⟨A3, c3, l ++ [q], by simp, HR3.out, hc3.1, hc3.2, by simp⟩, HS3.out.more (by omega), HF3.out⟩
  · by_cases k1 : k = 1
    · subst k1
      by_cases hn0 : l.length = 0
      · have HR2 := Lib.hid HO2.out.ri
        have e1 : decide ((0 : Int) < (l.length : Int)) = false := by simp [hn0]
        have e1' : decide (0 < l.length) = false := by simp [hn0]
        clear hn0
        go_wp2
        go_ret
        exact ⟨⟨A1, c1, l, rfl, HR2.out, hcap.1, hcap.2, by omega⟩, HS2.out.more (by omega), HF2.out⟩
      · have HT := Lib.hid HO2.out.ri.tail
        have e1 : decide ((0 : Int) < (l.length : Int)) = true := by simp; omega
        have e1' : decide (0 < l.length) = true := by simp; omega
        have f1 : (1 : Int) ≤ (l.length : Int) := by omega
        have f2 : (l.length : Int) ≤ (c1 : Int) := by omega
        have hlt : l.tail.length = l.length - 1 := List.length_tail
        by_cases hc1 : c1 = 1
        · have hnil : l.tail = [] := List.eq_nil_of_length_eq_zero (by omega)
          have HN := Lib.hid hnil
          have HLT := Lib.hid hlt
          clear hnil hlt
          go_wp2
          go_ret
          exact ⟨⟨A1, 0, l.tail, by rw [HLT.out]; rfl, by rw [HN.out]; exact RI.nil, by rw [HN.out]; exact Nat.le_refl _, Nat.zero_le _, by rw [HN.out]; exact Nat.zero_le _⟩, HS2.out.more (by omega), HF2.out⟩
        · have HLT := Lib.hid hlt
          clear hlt
          go_wp2
          go_ret
          exact ⟨⟨_, c1 - 1, l.tail, by rw [HLT.out]; rfl, HT.out, by rw [HLT.out]; omega, by omega, by rw [HLT.out]; omega⟩, HS2.out.more (by omega), HF2.out⟩
    · by_cases k2 : k = 2
      · subst k2
        by_cases hn0 : l.length = 0
        · have HR2 := Lib.hid HO2.out.ri
          have e1 : decide ((0 : Int) < (l.length : Int)) = false := by simp [hn0]
          have e1' : decide (0 < l.length) = false := by simp [hn0]
          clear hn0
          go_wp2
          go_ret
          exact ⟨⟨A1, c1, l, rfl, HR2.out, hcap.1, hcap.2, by omega⟩, HS2.out.more (by omega), HF2.out⟩
        · have e1 : decide ((0 : Int) < (l.length : Int)) = true := by simp; omega
          have e1' : decide (0 < l.length) = true := by simp; omega
          have C3 := Lib.hid (pickX l.length lo rb (P + 1) w2 HS2.out (by omega) (by omega))
          go_wp2_with fail
          refine (C3.out).mono ?_
          rintro e w3 ⟨⟨j, rfl, hj, _⟩, hs3, hf3⟩
          have hj := hj (by omega)
          have s3 := hf3.size
          have HS3 := Lib.hid hs3
          have HF3 := Lib.hid (HF2.out.trans hf3)
          have HO3 := Lib.hid (HO2.out.fx hf3 hrb)
          have C4 := Lib.hid (one_newX #[.int .i64 (-1), .int .i64 q, .int .i64 0, .int .i64 1] 4 lo rb (P + 2) w3 HS3.out (by omega) (by intro k hk; match k, hk with | 0, _ => exact ⟨_, rfl⟩ | 1, _ => exact ⟨_, rfl⟩ | 2, _ => exact ⟨_, rfl⟩ | 3, _ => exact ⟨_, rfl⟩) (by omega) (by omega) rfl)
          clear hs3 hf3 C3 HS2 HF2 HO2
          go_wp2_with fail
          refine (C4.out).mono ?_
          rintro e w4 ⟨⟨x, rfl⟩, hs4, hf4⟩
          have s4 := hf4.size
          have HF4 := Lib.hid (HF3.out.trans hf4)
          obtain ⟨b, rfl, hbB, hbl, hc0, hfr, hri⟩ := (HO3.out.fx hf4 hrb).set_ hj x
          have HS5 := Lib.hid (hs4.setNew (p := ⟨b, j, none⟩) (show rb < b from by omega) (.int .i64 x))
          have HF5 := Lib.hid (HF4.out.setNew (p := ⟨b, j, none⟩) hbB (.int .i64 x))
          have HR5 := Lib.hid hri
          have b0 : (0 : Int) ≤ (j : Int) := by omega
          have b1 : (j : Int) < (l.length : Int) := by omega
          clear hs4 hf4 C4 HS3 HF3 HO3 hri
          go_wp2
          go_ret
          exact ⟨⟨_, c1, l.set j x, by simp, HR5.out.more (Nat.le_refl _) (by simp [World.setCell]), by simp; exact hcap.1, hcap.2, by simp⟩, HS5.out.more (by omega), HF5.out⟩
      · have HR2 := Lib.hid HO2.out.ri
        go_wp2
        go_ret
        exact ⟨⟨A1, c1, l, rfl, HR2.out, hcap.1, hcap.2, by omega⟩, HS2.out.more (by omega), HF2.out⟩
end Go.Proofs.Ytoggbndpjcfmiaa
