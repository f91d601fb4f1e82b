/-
  MERGED TEXTS: X1 X2 X3 X4.
-/
import Derived.Test.YtihgakbopkaemaaK21
import Derived.Test.YtihgakbopkaemaaL1
import Derived.Test.YtihgakbopkaemaaK45
import Derived.Test.YtihgakbopkaemaaK4
namespace Go.Proofs.Ytihgakbopkaemaa
open Go.RowKit
/-- only block rb and new ones may differ -/
structure Fx (rb : Nat) (w w' : World) : Prop where
  os : w'.os = w.os
  tape : w'.tape = w.tape
  output : w'.output = w.output
  size : w.heap.size ≤ w'.heap.size
  block : ∀ b, b < w.heap.size → b ≠ rb → w'.heap[b]? = w.heap[b]?
theorem Fx.refl (rb : Nat) (w : World) : Fx rb w w := ⟨rfl, rfl, rfl, Nat.le_refl _, fun _ _ _ => rfl⟩
theorem Fx.trans {rb : Nat} {a b c : World} (h : Fx rb a b) (k : Fx rb b c) : Fx rb a c :=
  ⟨k.os.trans h.os, k.tape.trans h.tape, k.output.trans h.output, Nat.le_trans h.size k.size, fun x hx hr => (k.block x (Nat.lt_of_lt_of_le hx h.size) hr).trans (h.block x hx hr)⟩
theorem Fx.drewN {rb : Nat} {a w : World} (h : Fx rb a w) (n : Nat) : Fx rb a (w.drewN n) := ⟨h.os, h.tape, h.output, h.size, h.block⟩
theorem Fx.of {rb : Nat} {w w' : World} (h : Below w.heap.size w w') : Fx rb w w' := ⟨h.os, h.tape, h.output, h.size, fun b hb _ => h.block b hb⟩
theorem Fx.below {rb lo : Nat} {w w' : World} (h : Fx rb w w') (hl : lo ≤ rb) (hr : rb < w.heap.size) : Below lo w w' := ⟨h.os, h.tape, h.output, h.size, fun b hb => h.block b (by omega) (by omega)⟩
theorem Fx.cell {rb : Nat} {w w' : World} (h : Fx rb w w') {p : Addr} (hp : p.block < w.heap.size) (hr : p.block ≠ rb) : w'.cell? p = w.cell? p := World.cell?_of_block (w := w) (h.block p.block hp hr)
theorem Fx.alloc {rb : Nat} {a w : World} (h : Fx rb a w) (o : Obj) : Fx rb a (w.alloc o) := h.trans (Fx.of (Below.alloc (Below.refl _ _) (Nat.le_refl _) o))
theorem Fx.setNew {rb : Nat} {a w : World} (h : Fx rb a w) {p : Addr} (hp : a.heap.size ≤ p.block) (u : Value) : Fx rb a (w.setCell p u) :=
  ⟨h.os, h.tape, h.output, by simpa [World.setCell] using h.size, fun b hb hr => (Below.heap_setCell w p u b (by omega)).trans (h.block b hb hr)⟩
theorem RD.lt {w : World} {lo rb P : Nat} (h : RD w lo rb P) : rb < w.heap.size := by
  obtain ⟨_, A, c, l, p, hh, _⟩ := h
  exact (Array.getElem?_eq_some_iff.1 hh).1
theorem RD.drewN {w : World} {lo rb P : Nat} (h : RD w lo rb P) (n : Nat) : RD (w.drewN n) lo rb P := h
theorem RD.more {w : World} {lo rb P P' : Nat} (h : RD w lo rb P) (hp : P ≤ P') : RD w lo rb P' := by
  obtain ⟨h1, A, c, l, p, h2, h3, h4⟩ := h
  exact ⟨h1, A, c, l, p, h2, by omega, h4⟩
theorem RD.after {w w' : World} {lo rb P : Nat} (h : RD w lo rb P) (hb : Below w.heap.size w w') : RD w' lo rb P := by
  have hlt := h.lt
  obtain ⟨h1, A, c, l, p, h2, h3, h4, h5⟩ := h
  exact ⟨h1, A, c, l, p, (hb.block rb hlt).trans h2, h3, h4, h5.below hb (by omega)⟩
theorem RD.below {w w' : World} {lo rb P B : Nat} (h : RD w lo rb P) (hb : Below B w w') (hB : rb < B) : RD w' lo rb P := by
  obtain ⟨h1, A, c, l, p, h2, h3, h4, h5⟩ := h
  exact ⟨h1, A, c, l, p, (hb.block rb hB).trans h2, h3, h4, h5.below hb (by omega)⟩
theorem Fx.then_ {rb : Nat} {a b c : World} (h : Fx rb a b) (k : Below a.heap.size b c) : Fx rb a c :=
  ⟨k.os.trans h.os, k.tape.trans h.tape, k.output.trans h.output, Nat.le_trans h.size k.size, fun x hx hr => (k.block x hx).trans (h.block x hx hr)⟩
theorem RD.setNew {w : World} {lo rb P : Nat} (h : RD w lo rb P) {p : Addr} (hp : rb < p.block) (u : Value) : RD (w.setCell p u) lo rb P := by
  obtain ⟨h1, A, c, l, q, h2, h3, h4, h5⟩ := h
  refine ⟨h1, A, c, l, q, (Below.heap_setCell w p u rb (by omega)).trans h2, h3, h4, h5.keep ?_⟩
  intro x _ hx
  exact World.cell?_setCell_other w p x u (fun e => by subst e; omega)
theorem RD.picked {w : World} {lo rb P : Nat} {A : Option Addr} {c : Nat} {l : List Int} {p : Nat} (hlo : lo ≤ rb) (h : w.heap[rb]? = some (.cells #[.slice A l.length c, .int .i64 p] 100 (0, 0))) (hp : p ≤ P) (hl : l.length ≤ 2000) (hb : RB w 0 lo A l) :
    RD (w.setCell ⟨rb, 1, none⟩ (.int .i64 ((p : Int) + 1))) lo rb (P + 1) ∧ Fx rb w (w.setCell ⟨rb, 1, none⟩ (.int .i64 ((p : Int) + 1))) := by
  have hu := Upd.set_ h 1 (.int .i64 ((p : Int) + 1))
  have hbl := hu.below hlo
  exact ⟨⟨hlo, A, c, l, p + 1, by rw [hu.at_]; simp, by omega, hl, hb.below hbl (Nat.le_refl _)⟩, ⟨hu.os, hu.tape, hu.output, hu.size, fun b _ hr => hu.other b hr⟩⟩
/-- what pick hands back -/
def PickX (lo rb P n : Nat) (w : World) (e : Ending) (w' : World) : Prop := (∃ k : Nat, e = .returned (.int .i64 k) ∧ (0 < n → k < n) ∧ (n = 0 → k = 0)) ∧ RD w' lo rb (P + 1) ∧ Fx rb w w'
set_option maxRecDepth 200000 in
set_option maxHeartbeats 1600000 in
theorem pickX (n lo rb P : Nat) (w : World) (hs : RD w lo rb P) (hP : P ≤ 1000000) (hn : n ≤ 1000000000) :
    Calls Try.prog 42 #[.pointer (some ⟨rb, 0, none⟩), .int .i64 n] w (PickX lo rb P n w) := by
  obtain ⟨hlo, A, c, l, p, hh, hpP, hl, hbs⟩ := hs
  obtain ⟨hs2, hf2⟩ := RD.picked hlo hh hpP hl hbs
  have k0 : w.cell? ⟨rb, 0, none⟩ = some (.slice A l.length c) := by rw [cell_of_row w rb 0 _ _ _ hh]; rfl
  have k1 : w.cell? ⟨rb, 1, none⟩ = some (.int .i64 p) := by rw [cell_of_row w rb 1 _ _ _ hh]; rfl
  have kf : w.frozen? ⟨rb, 1, none⟩ = false := by simp [World.frozen?, hh]
  have HS := Lib.hid hs2
  have HF := Lib.hid hf2
  clear hs2 hf2 hh
  have hb : ∀ k (hk : k < l.length), ∃ b o, A = some ⟨b, o, none⟩ ∧ b < rb ∧ w.cell? ⟨b, o + k, none⟩ = some (.int .u8 l[k]) ∧ 0 ≤ l[k] ∧ l[k] < 256 := by
    intro k hk
    obtain ⟨b, o, e, _, h2, h3⟩ := hbs k hk
    exact ⟨b, o, e, by omega, h3⟩
  clear hbs
  have HB := Lib.hid hb
  clear hb
  by_cases h0 : n = 0
  · subst h0
    go_enter Try.func42, Try.ntmps42
    go_wp2_with fail
    go_ret
    exact ⟨⟨0, rfl, fun h => absurd h (by omega), fun _ => rfl⟩, HS.out, HF.out⟩
  · by_cases hl0 : l.length = 0
    · go_enter Try.func42, Try.ntmps42
      go_wp2_with fail
      go_ret
      exact ⟨⟨0, rfl, fun h => h, fun _ => rfl⟩, HS.out, HF.out⟩
    · have hnb := Lib.hid (show ¬ ((n : Int) < 1 ∨ ((l.length : Int) == 0) = true) from by rw [beq_iff_eq]; omega)
      by_cases hk : p < l.length
      · obtain ⟨b, o, rfl, hbr, hc, hx0, hx1⟩ := HB.out p hk
        obtain ⟨x, hx⟩ : ∃ x : Nat, l[p] = x := ⟨l[p].toNat, by omega⟩
        rw [hx] at hc hx0 hx1
        clear hx hx0
        have hne : ¬ (rb = b) := by omega
        go_enter Try.func42, Try.ntmps42
        go_wp2_with fail
        · go_ret
          exact ⟨⟨x % n, ret_int (k := .i64) (show (x : Int) % (n : Int) = ((x % n : Nat) : Int) from (Int.natCast_emod x n).symm), fun h => Nat.mod_lt _ h, fun h => absurd h h0⟩, HS.out, HF.out⟩
      · have hpos : 0 < l.length := by omega
        have a1 := Nat.mod_lt p hpos
        have a2 := Nat.mod_lt (p * 7 + 3) hpos
        have e1 : Int.tmod (p : Int) (l.length : Int) = ((p % l.length : Nat) : Int) := by rw [Int.ofNat_tmod]
        have e2 : Int.tmod ((p : Int) * 7 + 3) (l.length : Int) = (((p * 7 + 3) % l.length : Nat) : Int) := by rw [Int.ofNat_tmod]; simp
        obtain ⟨b, o, rfl, hbr, hc1, hx0, hx1⟩ := HB.out _ a1
        obtain ⟨b2, o2, e, _, hc2, hy0, hy1⟩ := HB.out _ a2
        cases e
        generalize p % l.length = m1 at *
        generalize (p * 7 + 3) % l.length = m2 at *
        obtain ⟨x, hx⟩ : ∃ x : Nat, l[m1] = x := ⟨l[m1].toNat, by omega⟩
        obtain ⟨y, hy⟩ : ∃ x : Nat, l[m2] = x := ⟨l[m2].toNat, by omega⟩
        rw [hx] at hc1 hx0 hx1
        rw [hy] at hc2 hy0 hy1
        clear hx hy hx0 hy0
        have hne : ¬ (rb = b) := by omega
        have hz : ((l.length : Int) == 0) = false := by rw [beq_eq_false_iff_ne]; omega
        go_enter Try.func42, Try.ntmps42
        go_wp2_with fail
        · go_quiet (fail)
          obtain ⟨X, Y, hX, e3, e4⟩ := pick_mix x y p l.length (by omega) (by omega) (by omega)
          rw [e3]
          clear e3
          have hX1 : (X : Int) ≤ 1000000000000 := by omega
          clear hX
          go_wp2_with fail
          go_ret
          exact ⟨⟨Y % n, ret_int (k := .i64) (show (Y : Int) % (n : Int) = ((Y % n : Nat) : Int) from (Int.natCast_emod Y n).symm), fun h => Nat.mod_lt _ h, fun h => absurd h h0⟩, HS.out.drewN _, HF.out.drewN _⟩
end Go.Proofs.Ytihgakbopkaemaa
namespace Go.Proofs.Ytihgakbopkaemaa
open Go.RowKit
def OneX (lo rb P : Nat) (w : World) (e : Ending) (w' : World) : Prop := (∃ x, e = .returned (.int .i64 x)) ∧ RD w' lo rb (P + 1) ∧ Fx rb w w'
/-- 'r.one([]int{..})' -/
theorem one_newX (cs : Array Value) (n lo rb P : Nat) (w : World) (hs : RD w lo rb P) (hP : P ≤ 1000000) (h : ∀ k, k < n → ∃ x, cs[k]? = some (.int .i64 x)) (h0 : 0 < n) (h1 : n ≤ 1000) {g : Nat} (hg : w.heap.size = g) :
    Calls Try.prog 43 #[.pointer (some ⟨rb, 0, none⟩), .slice (some ⟨g, 0, none⟩) n n] (w.alloc (.cells cs 3)) (OneX lo rb P w) := by
  subst hg
  have hlt := hs.lt
  have hal := Below.alloc (Below.refl w.heap.size w) (Nat.le_refl _) (.cells cs 3)
  have C1 := Lib.hid (pickX n lo rb P _ (hs.after hal) hP (by omega))
  have HF := Lib.hid (Fx.of (rb := rb) hal)
  have HB := Lib.hid (Blk.new w 3 cs)
  clear hs hal
  go_enter Try.func43, Try.ntmps43
  go_wp2_with fail
  refine (C1.out).mono ?_
  rintro e w1 ⟨⟨k, rfl, hk, _⟩, hs1, hf1⟩
  have hk := hk h0
  obtain ⟨x, hx⟩ := h k hk
  have hc : w1.cell? ⟨w.heap.size, k, none⟩ = some (.int .i64 x) := by
    rw [hf1.cell (by simp) (by show w.heap.size ≠ rb; omega), HB.out.cell, hx]
  have HS := Lib.hid hs1
  have HF := Lib.hid (HF.out.trans hf1)
  clear hs1 hf1 h hx
  go_wp2_with fail
  go_ret
  exact ⟨⟨x, rfl⟩, HS.out, HF.out⟩
theorem OI.fx {w w' : World} {rb B : Nat} {A : Option Addr} {c : Nat} {l : List Int} (h : OI w B A c l) (hf : Fx rb w w') (hB : rb < B) : OI w' B A c l := by
  refine ⟨h.1, ?_⟩
  rcases h.2 with hn | ⟨g, cap, cur, hv, h1, hg, rest⟩
  · exact .inl hn
  · exact .inr ⟨g, cap, cur, hv, h1, by rw [hf.block g (Array.getElem?_eq_some_iff.1 hg).1 (by omega)]; exact hg, rest⟩
theorem RI.fx {w w' : World} {rb lo hi : Nat} {A : Option Addr} {l : List Int} (h : RI w lo hi A l) (hf : Fx rb w w') (hlo : rb < lo) (hhi : hi ≤ w.heap.size) : RI w' lo hi A l :=
  h.keep fun p h1 h2 => hf.cell (by omega) (by omega)
theorem RI.tail {w : World} {lo hi : Nat} {A : Option Addr} {l : List Int} (h : RI w lo hi A l) : RI w lo hi (Option.map (fun x => { block := x.block, off := x.off + 1, spot := none }) A) l.tail := by
  intro k hk
  obtain ⟨b, o, rfl, h1, h2, hc⟩ := h (k + 1) (by rw [List.length_tail] at hk; omega)
  refine ⟨b, o + 1, rfl, h1, h2, ?_⟩
  rw [show o + 1 + k = o + (k + 1) from by omega, hc]
  simp
/-- a spoilt list -/
def SpX (lo rb P m : Nat) (w : World) (e : Ending) (w' : World) : Prop := (∃ A c l, e = .returned (.slice A (List.length l) c) ∧ RI w' w.heap.size w'.heap.size A l ∧ l.length ≤ c ∧ c ≤ maxLen ∧ l.length ≤ m) ∧ RD w' lo rb P ∧ Fx rb w w'
theorem OI.set_ {w : World} {B : Nat} {A : Option Addr} {c : Nat} {l : List Int} (h : OI w B A c l) {k : Nat} (hk : k < l.length) (x : Int) :
    ∃ b, A = some ⟨b, 0, none⟩ ∧ B ≤ b ∧ b < w.heap.size ∧ w.cell? ⟨b, k, none⟩ = some (.int .i64 l[k]) ∧ w.frozen? ⟨b, k, none⟩ = false ∧ RI (w.setCell ⟨b, k, none⟩ (.int .i64 x)) B w.heap.size A (l.set k x) := by
  have hr := h.ri
  rcases h.2 with ⟨hv, hn⟩ | ⟨b, cap, cur, hv, hb, hg, hnc, hcm, hcs, ht⟩
  · omega
  · injection hv with hA hn hc
    subst hA
    obtain ⟨b', o', e, _, hlt, hc0⟩ := hr k hk
    cases e
    rw [Nat.zero_add] at hc0
    refine ⟨b, rfl, hb, hlt, hc0, by simp [World.frozen?, hg], ?_⟩
    intro j hj
    rw [List.length_set] at hj
    obtain ⟨b', o', e, h1, h2, hcj⟩ := hr j hj
    cases e
    rw [Nat.zero_add] at hcj
    refine ⟨b, 0, rfl, h1, h2, ?_⟩
    rw [Nat.zero_add]
    by_cases e : j = k
    · subst e
      rw [World.cell?_setCell_same _ _ _ hcj]
      simp
    · rw [World.cell?_setCell_other _ _ _ _ (fun e2 => e (by cases e2; rfl)), hcj]
      simp [List.getElem_set_ne (Ne.symm e)]
set_option maxHeartbeats 3200000 in
theorem spoilX (A : Option Addr) (c : Nat) (l : List Int) (lo rb P l1 h1 : Nat) (q : Int) (w : World) (hs : RD w lo rb P) (hP : P ≤ 900000) (hv : RI w l1 h1 A l) (hh : h1 ≤ w.heap.size) (hn : l.length ≤ 100000) :
    Calls Try.prog 79 #[.pointer (some ⟨rb, 0, none⟩), .slice A l.length c, .int .i64 q] w (SpX lo rb (P + 4) (l.length + 1) w) := by
  have hrb := hs.lt
  have C1 := Lib.hid (copyInts_ri A c l l1 h1 w hv hh (by omega))
  have HS := Lib.hid hs
  obtain ⟨B, hB⟩ : ∃ B, B = w.heap.size := ⟨_, rfl⟩
  clear hv hs
  go_enter Try.func79, Try.ntmps79
  go_wp2_with fail
  refine (C1.out).mono ?_
  rintro e w1 ⟨⟨A1, c1, rfl, ho1⟩, hb1⟩
  have s1 := hb1.size
  have HS1 := Lib.hid (HS.out.after hb1)
  have HF1 := Lib.hid (Fx.of (rb := rb) hb1)
  have HO1 := Lib.hid ho1
  have C2 := Lib.hid (pickX 20 lo rb P w1 HS1.out (by omega) (by omega))
  clear C1 hb1 ho1 HS
  go_wp2_with fail
  refine (C2.out).mono ?_
  rintro e w2 ⟨⟨k, rfl, hk, _⟩, hs2, hf2⟩
  have s2 := hf2.size
  have HS2 := Lib.hid hs2
  have HF2 := Lib.hid (HF1.out.trans hf2)
  have HO2 := Lib.hid (HO1.out.fx hf2 hrb)
  have hcap := HO2.out.cap
  clear hs2 hf2 C2 HS1 HF1 HO1
  by_cases k0 : k = 0
  · subst k0
    have hp := HO2.out.alloc (.cells #[.int .i64 q] 3)
    have HP := Lib.hid hp
    clear hp
    go_wp2_with (at_builtin; go_loud (refine push_int rfl _ _ rfl w.heap.size A1 c1 l q rfl HP.out w2.heap.size 1 rfl (by simp [go_sem]) (by omega) (by simp; omega) ?_; intro A3 c3 w3 ho3 hb3 _; have HB3 := Lib.hid hb3; have HO3 := Lib.hid ho3; clear hb3 ho3))
    have HS3 := Lib.hid ((HS2.out.after (Below.alloc (Below.refl _ _) (Nat.le_refl _) (.cells #[.int .i64 q] 3))).below HB3.out hrb)
    have HF3 := Lib.hid ((HF2.out.alloc (.cells #[.int .i64 q] 3)).then_ HB3.out)
    have hc3 := HO3.out.cap
    have HR3 := Lib.hid HO3.out.ri
    go_wp2
    go_ret
    exact ⟨⟨A3, c3, l ++ [q], by simp, HR3.out, hc3.1, hc3.2, by simp⟩, HS3.out.more (by omega), HF3.out⟩
  · by_cases k1 : k = 1
    · subst k1
      by_cases hn0 : l.length = 0
      · have HR2 := Lib.hid HO2.out.ri
        have e1 : decide ((0 : Int) < (l.length : Int)) = false := by simp [hn0]
        have e1' : decide (0 < l.length) = false := by simp [hn0]
        clear hn0
        go_wp2
        go_ret
        exact ⟨⟨A1, c1, l, rfl, HR2.out, hcap.1, hcap.2, by omega⟩, HS2.out.more (by omega), HF2.out⟩
      · have HT := Lib.hid HO2.out.ri.tail
        have e1 : decide ((0 : Int) < (l.length : Int)) = true := by simp; omega
        have e1' : decide (0 < l.length) = true := by simp; omega
        have f1 : (1 : Int) ≤ (l.length : Int) := by omega
        have f2 : (l.length : Int) ≤ (c1 : Int) := by omega
        have hlt : l.tail.length = l.length - 1 := List.length_tail
        by_cases hc1 : c1 = 1
        · have hnil : l.tail = [] := List.eq_nil_of_length_eq_zero (by omega)
          have HN := Lib.hid hnil
          have HLT := Lib.hid hlt
          clear hnil hlt
          go_wp2
          go_ret
          exact ⟨⟨A1, 0, l.tail, by rw [HLT.out]; rfl, by rw [HN.out]; exact RI.nil, by rw [HN.out]; exact Nat.le_refl _, Nat.zero_le _, by rw [HN.out]; exact Nat.zero_le _⟩, HS2.out.more (by omega), HF2.out⟩
        · have HLT := Lib.hid hlt
          clear hlt
          go_wp2
          go_ret
          exact ⟨⟨_, c1 - 1, l.tail, by rw [HLT.out]; rfl, HT.out, by rw [HLT.out]; omega, by omega, by rw [HLT.out]; omega⟩, HS2.out.more (by omega), HF2.out⟩
    · by_cases k2 : k = 2
      · subst k2
        by_cases hn0 : l.length = 0
        · have HR2 := Lib.hid HO2.out.ri
          have e1 : decide ((0 : Int) < (l.length : Int)) = false := by simp [hn0]
          have e1' : decide (0 < l.length) = false := by simp [hn0]
          clear hn0
          go_wp2
          go_ret
          exact ⟨⟨A1, c1, l, rfl, HR2.out, hcap.1, hcap.2, by omega⟩, HS2.out.more (by omega), HF2.out⟩
        · have e1 : decide ((0 : Int) < (l.length : Int)) = true := by simp; omega
          have e1' : decide (0 < l.length) = true := by simp; omega
          have C3 := Lib.hid (pickX l.length lo rb (P + 1) w2 HS2.out (by omega) (by omega))
          go_wp2_with fail
          refine (C3.out).mono ?_
          rintro e w3 ⟨⟨j, rfl, hj, _⟩, hs3, hf3⟩
          have hj := hj (by omega)
          have s3 := hf3.size
          have HS3 := Lib.hid hs3
          have HF3 := Lib.hid (HF2.out.trans hf3)
          have HO3 := Lib.hid (HO2.out.fx hf3 hrb)
          have C4 := Lib.hid (one_newX #[.int .i64 (-1), .int .i64 q, .int .i64 0, .int .i64 1] 4 lo rb (P + 2) w3 HS3.out (by omega) (by intro k hk; match k, hk with | 0, _ => exact ⟨_, rfl⟩ | 1, _ => exact ⟨_, rfl⟩ | 2, _ => exact ⟨_, rfl⟩ | 3, _ => exact ⟨_, rfl⟩) (by omega) (by omega) rfl)
          clear hs3 hf3 C3 HS2 HF2 HO2
          go_wp2_with fail
          refine (C4.out).mono ?_
          rintro e w4 ⟨⟨x, rfl⟩, hs4, hf4⟩
          have s4 := hf4.size
          have HF4 := Lib.hid (HF3.out.trans hf4)
          obtain ⟨b, rfl, hbB, hbl, hc0, hfr, hri⟩ := (HO3.out.fx hf4 hrb).set_ hj x
          have HS5 := Lib.hid (hs4.setNew (p := ⟨b, j, none⟩) (show rb < b from by omega) (.int .i64 x))
          have HF5 := Lib.hid (HF4.out.setNew (p := ⟨b, j, none⟩) hbB (.int .i64 x))
          have HR5 := Lib.hid hri
          have b0 : (0 : Int) ≤ (j : Int) := by omega
          have b1 : (j : Int) < (l.length : Int) := by omega
          clear hs4 hf4 C4 HS3 HF3 HO3 hri
          go_wp2
          go_ret
          exact ⟨⟨_, c1, l.set j x, by simp, HR5.out.more (Nat.le_refl _) (by simp [World.setCell]), by simp; exact hcap.1, hcap.2, by simp⟩, HS5.out.more (by omega), HF5.out⟩
      · have HR2 := Lib.hid HO2.out.ri
        go_wp2
        go_ret
        exact ⟨⟨A1, c1, l, rfl, HR2.out, hcap.1, hcap.2, by omega⟩, HS2.out.more (by omega), HF2.out⟩
end Go.Proofs.Ytihgakbopkaemaa
namespace Go.Proofs.Ytihgakbopkaemaa
open Go.RowKit
def RIs (rb : Nat) (w : World) (lo hi : Nat) (A : Option Addr) (l : List Int) : Prop :=
  ∀ k (hk : k < l.length), ∃ b o, A = some ⟨b, o, none⟩ ∧ lo ≤ b ∧ b < hi ∧ b ≠ rb ∧ w.cell? ⟨b, o + k, none⟩ = some (.int .i64 l[k])
def RGs (rb : Nat) (w : World) (lo hi : Nat) (A : Option Addr) (g : List Bs.T) : Prop :=
  ∀ k (hk : k < g.length), ∃ b o N c, A = some ⟨b, o, none⟩ ∧ lo ≤ b ∧ b < hi ∧ b ≠ rb ∧
    w.cell? ⟨b, o + k * 4, none⟩ = some (.int .i64 g[k].time) ∧ w.cell? ⟨b, o + k * 4 + 1, none⟩ = some (.slice N g[k].needs.length c) ∧
    w.cell? ⟨b, o + k * 4 + 2, none⟩ = some (.int .i64 g[k].pool) ∧ w.cell? ⟨b, o + k * 4 + 3, none⟩ = some (.int .i64 g[k].units) ∧
    g[k].needs.length ≤ c ∧ c ≤ 9223372036854775807 ∧ RIs rb w lo hi N g[k].needs
theorem RIs.ri {rb : Nat} {w : World} {lo hi : Nat} {A : Option Addr} {l : List Int} (h : RIs rb w lo hi A l) : RI w lo hi A l := by
  intro k hk
  obtain ⟨b, o, e, h1, h2, _, h3⟩ := h k hk
  exact ⟨b, o, e, h1, h2, h3⟩
theorem RGs.rg {rb : Nat} {w : World} {lo hi : Nat} {A : Option Addr} {g : List Bs.T} (h : RGs rb w lo hi A g) : RG w lo hi A g := by
  intro k hk
  obtain ⟨b, o, N, c, e, h1, h2, _, c0, c1, c2, c3, h3, h4, h5⟩ := h k hk
  exact ⟨b, o, N, c, e, h1, h2, c0, c1, c2, c3, h3, h4, h5.ri⟩
theorem RIs.fx {rb : Nat} {w w' : World} {lo hi : Nat} {A : Option Addr} {l : List Int} (h : RIs rb w lo hi A l) (hf : Fx rb w w') (hh : hi ≤ w.heap.size) : RIs rb w' lo hi A l := by
  intro k hk
  obtain ⟨b, o, e, h1, h2, h3, h4⟩ := h k hk
  exact ⟨b, o, e, h1, h2, h3, (hf.cell (p := ⟨b, o + k, none⟩) (by show b < _; omega) h3).trans h4⟩
theorem RGs.fx {rb : Nat} {w w' : World} {lo hi : Nat} {A : Option Addr} {g : List Bs.T} (h : RGs rb w lo hi A g) (hf : Fx rb w w') (hh : hi ≤ w.heap.size) : RGs rb w' lo hi A g := by
  intro k hk
  obtain ⟨b, o, N, c, e, h1, h2, h3, c0, c1, c2, c3, h4, h5, h6⟩ := h k hk
  have hc := fun j => hf.cell (p := ⟨b, j, none⟩) (by show b < _; omega) h3
  exact ⟨b, o, N, c, e, h1, h2, h3, (hc _).trans c0, (hc _).trans c1, (hc _).trans c2, (hc _).trans c3, h4, h5, h6.fx hf hh⟩
theorem Row.ne {w : World} {lo b rb P m : Nat} {t : TypeId} (r : Row w lo b t m) (hr : RD w lo rb P) (ht : t ≠ 100) : b ≠ rb := by
  rintro rfl
  obtain ⟨_, cs, hc, _⟩ := r
  obtain ⟨_, A, c, l, p, hh, _⟩ := hr
  rw [hc] at hh
  cases hh
  exact ht rfl
theorem SL.ris {w : World} {lo rb P m c : Nat} {N : Option Addr} (h : SL w lo 3 1 (.slice N m c) m) (hs : St lo rb P w) : ∃ l : List Int, l.length = m ∧ RIs rb w lo w.heap.size N l := by
  obtain ⟨l, hl, hp⟩ := choice_to m (fun k (x : Int) => ∃ b o, N = some ⟨b, o, none⟩ ∧ lo ≤ b ∧ b < w.heap.size ∧ b ≠ rb ∧ w.cell? ⟨b, o + k, none⟩ = some (.int .i64 x)) (by
    intro k hk
    obtain ⟨b, o, x, e, hc, hlb, _, hr⟩ := h.cell hs hk
    exact ⟨x, b, o, e, hlb, hr.lt, hr.ne hs.rd (by decide), hc⟩)
  exact ⟨l, hl, hp⟩
theorem SL.rgs {w : World} {lo rb P n c : Nat} {A : Option Addr} (h : SL w lo 35 4 (.slice A n c) n) (hs : St lo rb P w) : ∃ g : List Bs.T, g.length = n ∧ RGs rb w lo w.heap.size A g := by
  obtain ⟨g, hl, hp⟩ := choice_to n (fun k (T : Bs.T) => ∃ b o N c, A = some ⟨b, o, none⟩ ∧ lo ≤ b ∧ b < w.heap.size ∧ b ≠ rb ∧
    w.cell? ⟨b, o + k * 4, none⟩ = some (.int .i64 T.time) ∧ w.cell? ⟨b, o + k * 4 + 1, none⟩ = some (.slice N T.needs.length c) ∧
    w.cell? ⟨b, o + k * 4 + 2, none⟩ = some (.int .i64 T.pool) ∧ w.cell? ⟨b, o + k * 4 + 3, none⟩ = some (.int .i64 T.units) ∧
    T.needs.length ≤ c ∧ c ≤ 9223372036854775807 ∧ RIs rb w lo w.heap.size N T.needs) (by
    intro k hk
    obtain ⟨b, o, t, N, m, cN, p, u, e, hT, hlb, hr, _⟩ := h.task hs hk
    obtain ⟨l, hlen, hri⟩ := hT.sl.ris hs
    subst hlen
    exact ⟨⟨t, l, p, u⟩, b, o, N, cN, e, hlb, hr.lt, hr.ne hs.rd (by decide), hT.c0, hT.c1, hT.c2, hT.c3, hT.mc, hT.cm, hri⟩)
  exact ⟨g, hl, hp⟩
/-- a graph that is drawn, the reader beside it -/
theorem GrR.open_ {lo rb P : Nat} {w1 w2 : World} {e : Ending} (h : GrR lo rb P 16 w1 e w2) : ∃ A c g, e = .returned (.slice A (List.length g) c) ∧ RGs rb w2 lo w2.heap.size A g ∧ g.length ≤ 16 ∧ g.length ≤ c ∧ c ≤ maxLen ∧ RD w2 lo rb P ∧ Fwd lo w1 w2 := by
  obtain ⟨⟨v, n, hn, rfl, hv⟩, hs, hf2⟩ := h
  obtain ⟨A, c, rfl, hnc, hcm, hv⟩ := hv.form
  obtain ⟨g, hl, hg⟩ := hv.rgs hs
  subst hl
  exact ⟨A, c, g, rfl, hg, hn, hnc, hcm, hs.rd, hf2⟩
end Go.Proofs.Ytihgakbopkaemaa
namespace Go.Proofs.Ytihgakbopkaemaa
open Go.RowKit
theorem finL_len (g : List Bs.T) (d : List Int) (a : Int) : (Bs.finL g d a).length ≤ g.length := by
  unfold Bs.finL
  split
  · exact Bs.finC_len g d a
  · simp
theorem readyL_len (g : List Bs.T) (d : List Int) : (Bs.readyL g d).length ≤ g.length := by
  unfold Bs.readyL
  split
  · exact Bs.readyC_len g d
  · simp
end Go.Proofs.Ytihgakbopkaemaa
