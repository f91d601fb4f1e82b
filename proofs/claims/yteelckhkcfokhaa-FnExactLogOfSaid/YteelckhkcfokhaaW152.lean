/-
  WALKS: the exact laws' helpers over events.
-/
import Derived.Test.YteelckhkcfokhaaW9
import Derived.Test.YteelckhkcfokhaaMem11
namespace Go.Proofs.Yteelckhkcfokhaa
open Go.RowKit
theorem szEventS_any (A : Option Addr) (c : Nat) (l : List Bs.E) (L0 : Int) (w : World) (hl : l.length ≤ 9223372036854775807) (h0 : 0 ≤ L0) (h1 : L0 ≤ 1048576) :
    Calls Try.prog 40 #[.slice A l.length c, .int .i64 L0] w fun e w' => (∃ r : Int, e = .returned (.int .i64 r) ∧ (r < 0 ∨ 0 ≤ r ∧ r ≤ 1048576 ∧ l.length ≤ 1048576)) ∧ w = w' := by
  by_cases hlt : L0 - (l.length : Int) < 0
  · have d0 : decide (L0 - (l.length : Int) < 0) = true := decide_eq_true hlt
    go_enter Try.func40, Try.ntmps40
    go_wp2
    go_ret
    exact ⟨⟨-1, rfl, .inl (by omega)⟩, rfl⟩
  · have d0 : decide (L0 - (l.length : Int) < 0) = false := decide_eq_false hlt
    go_enter Try.func40, Try.ntmps40
    go_wp2
    go_ret
    exact ⟨⟨_, rfl, .inr ⟨by omega, by omega, by omega⟩⟩, rfl⟩
theorem toEvent_any (x y : Int) (z : Bool) (w : World) :
    Calls Try.prog 80 #[.agg #[.int .i64 x, .int .i64 y, .bool z]] w fun e w' => e = .returned (.agg #[.int .i64 x, .int .i64 y, .bool z]) ∧ Below w.heap.size w w' := by
  go_enter Try.func80, Try.ntmps80
  go_wp2
  refine bodyPost_ret (v := .agg #[.int .i64 x, .int .i64 y, .bool z]) (by simp [results, Try.results80, go_sem]) rfl ⟨rfl, ?_⟩
  exact (((Below.refl _ _).alloc (Nat.le_refl _) _).alloc (by simp) _).alloc (by simp; omega) _
theorem set3_getE (cs : Array Value) (k i : Nat) (v0 v1 v2 : Value) (hk : k * 3 + 2 < cs.size) :
    (((cs.setIfInBounds (k * 3) v0).setIfInBounds (k * 3 + 1) v1).setIfInBounds (k * 3 + 2) v2)[i]? = if i = k * 3 then some v0 else if i = k * 3 + 1 then some v1 else if i = k * 3 + 2 then some v2 else cs[i]? := by
  simp only [Array.getElem?_setIfInBounds, Array.size_setIfInBounds]
  by_cases e2 : k * 3 + 2 = i
  · subst e2
    rw [if_pos rfl, if_pos (by omega), if_neg (by omega), if_neg (by omega), if_pos rfl]
  · rw [if_neg e2]
    by_cases e1 : k * 3 + 1 = i
    · subst e1
      rw [if_pos rfl, if_pos (by omega), if_neg (by omega), if_pos rfl]
    · rw [if_neg e1]
      by_cases e0 : k * 3 = i
      · subst e0
        rw [if_pos rfl, if_pos (by omega), if_pos rfl]
      · rw [if_neg e0, if_neg (by omega), if_neg (by omega), if_neg (by omega)]
theorem ec_ext {cs : Array Value} {l : List Bs.E} (hs : cs.size = l.length * 3) (h : ∀ k (hk : k < l.length), cs[k * 3]? = some (.int .i64 l[k].at_) ∧ cs[k * 3 + 1]? = some (.int .i64 l[k].task) ∧ cs[k * 3 + 2]? = some (.bool l[k].over)) : cs.toList = l.flatMap ec := by
  apply List.ext_getElem?
  intro i
  rw [Array.getElem?_toList]
  by_cases hi : i < l.length * 3
  · have e : i = i / 3 * 3 + i % 3 := by omega
    have hk : i / 3 < l.length := by omega
    have h1 := ec_at l (i / 3) hk (i % 3) (by omega)
    rw [← e] at h1
    rw [h1]
    obtain ⟨a, b, c⟩ := h (i / 3) hk
    have hm : i % 3 = 0 ∨ i % 3 = 1 ∨ i % 3 = 2 := by omega
    rcases hm with hm | hm | hm
    · rw [hm]; exact (congrArg (fun q => cs[q]?) (show i = i / 3 * 3 by omega)).trans a
    · rw [hm]; exact (congrArg (fun q => cs[q]?) (show i = i / 3 * 3 + 1 by omega)).trans b
    · rw [hm]; exact (congrArg (fun q => cs[q]?) (show i = i / 3 * 3 + 2 by omega)).trans c
  · rw [Array.getElem?_eq_none (by omega), List.getElem?_eq_none (by rw [OE.len]; omega)]
set_option maxHeartbeats 800000 in
theorem toEventS_any (A : Option Addr) (c : Nat) (l : List Bs.E) (lo hi : Nat) (w : World) (h : RE w lo hi A l) (hh : hi ≤ w.heap.size) (hl : l.length ≤ 1048576) :
    Calls Try.prog 42 #[.slice A l.length c] w fun e w' => (e = .returned (.slice (some ⟨w.heap.size, 0, none⟩) l.length l.length) ∧ OE w' w.heap.size (some ⟨w.heap.size, 0, none⟩) l.length l) ∧ Below w.heap.size w w' := by
  obtain ⟨i0, hi0, hz0, hz1, hz2⟩ := info_parts Try.infoEvD
  have hmk : ∀ u : World, (Instr.makeSlice 50 (.int .i64 (l.length : Int)) (.int .i64 (l.length : Int))).run Try.prog u =
      .ok (.slice (some ⟨u.heap.size, 0, none⟩) l.length l.length) (u.alloc (.cells (madeCells #[.int .i64 0, .int .i64 0, .bool false] (l.length * 3)) 89)) := fun u => by
    have h := run_make (P := Try.prog) u 50 89 i0 (.agg #[.int .i64 0, .int .i64 0, .bool false]) Try.underlying50 hi0 hz0 .i64 .i64 (l.length : Int) (l.length : Int) (by omega) (Int.le_refl _) (by rw [hz2]; omega) (by omega)
    simpa [hz1, Value.cells] using h
  go_enter Try.func42, Try.ntmps42
  go_wp2
  go_loopw [4] (fun i wr => ∃ (k : Nat) (cs : Array Value), k ≤ l.length ∧ i = .int .i64 k ∧ Blk wr w.heap.size 89 cs ∧ (cs.size = l.length * 3 ∧ ∀ j (hj : j < l.length), j < k → cs[j * 3]? = some (.int .i64 l[j].at_) ∧ cs[j * 3 + 1]? = some (.int .i64 l[j].task) ∧ cs[j * 3 + 2]? = some (.bool l[j].over)) ∧ Below w.heap.size w wr) (fun i _ => l.length - (intOf i).toNat)
  case atStart => exact ⟨0, _, Nat.zero_le _, rfl, Blk.new _ _ _, ⟨by simp [size_madeCells], by intro j _ h; omega⟩, (Below.refl _ _).alloc (Nat.le_refl _) _⟩
  case round =>
    obtain ⟨k, cs, hk, rfl, hB, ⟨hcs, hC⟩, hb⟩ := hrel
    have hsz := hb.size
    have hBl := hB.lt
    by_cases hlt : k < l.length
    · have hr := h.below hb hh
      obtain ⟨b, o, rfl, h1, h2, q0, q1, q2⟩ := hr k hlt
      clear hr
      have HC := Lib.hid hC
      have Hcs := Lib.hid hcs
      clear hC hcs
      have HG := Lib.hid (show l[k] = l[k] from rfl)
      generalize hx : l[k].at_ = x at *
      generalize hy : l[k].task = y at *
      generalize hz : l[k].over = z at *
      have HX := Lib.hid (And.intro hx (And.intro hy hz))
      clear hx hy hz HG
      have C1 := Lib.hid (toEvent_any x y z wr)
      go_wp2_with fail
      refine (C1.out).mono ?_; rintro e w1 ⟨rfl, hb'⟩
      have hB1 : Blk w1 w.heap.size 89 cs := hB.below hb' hBl
      have f0 := (hB1.cell (k * 3)).trans (Array.getElem?_eq_getElem (by have := Hcs.out; omega))
      have f1 := (hB1.cell (k * 3 + 1)).trans (Array.getElem?_eq_getElem (by have := Hcs.out; omega))
      have f2 := (hB1.cell (k * 3 + 2)).trans (Array.getElem?_eq_getElem (by have := Hcs.out; omega))
      have z := hB1.frozen
      go_wp2
      have hsz' := hb'.size
      go_roundw
      case rel =>
        refine ⟨k + 1, _, by omega, by go_num, ((hB1.set_ _ _).set_ _ _).set_ _ _, ⟨by simp only [Array.size_setIfInBounds]; exact Hcs.out, ?_⟩, (((hb.trans (hb'.mono hsz)).setCell (by simp) _).setCell (by simp) _).setCell (by simp) _⟩
        intro j hj hjk
        have hcs := Hcs.out
        rw [set3_getE _ _ _ _ _ _ (by omega), set3_getE _ _ _ _ _ _ (by omega), set3_getE _ _ _ _ _ _ (by omega)]
        by_cases e : j = k
        · subst e
          rw [if_pos rfl, if_neg (by omega), if_pos rfl, if_neg (by omega), if_neg (by omega), if_pos rfl, HX.out.1, HX.out.2.1, HX.out.2.2]
          exact ⟨rfl, rfl, rfl⟩
        · rw [if_neg (by omega), if_neg (by omega), if_neg (by omega), if_neg (by omega), if_neg (by omega), if_neg (by omega), if_neg (by omega), if_neg (by omega), if_neg (by omega)]
          exact HC.out j hj (by omega)
      case measure => simp [intOf]; omega
    · obtain rfl : k = l.length := by omega
      go_wp2
      go_ret
      refine ⟨⟨rfl, ?_⟩, by exact hb⟩
      have ht := ec_ext hcs (fun k hk => hC k hk hk)
      refine ⟨OE.len, .inr ⟨w.heap.size, l.length, cs, rfl, Nat.le_refl _, hB, Nat.le_refl _, by unfold maxLen; omega, hcs, ?_⟩⟩
      rw [List.take_of_length_le (by rw [Array.length_toList]; omega)]
      exact ht
theorem eqEvent_same (x y : Int) (z : Bool) (w : World) :
    Calls Try.prog 83 #[.agg #[.int .i64 x, .int .i64 y, .bool z], .agg #[.int .i64 x, .int .i64 y, .bool z]] w fun e w' => e = .returned (.bool true) ∧ Below w.heap.size w w' := by
  have d0 : (x != x) = false := by simp
  have d1 : (y != y) = false := by simp
  have d2 : (z != z) = false := by simp
  go_enter Try.func83, Try.ntmps83
  go_wp2
  go_ret
  exact ⟨rfl, ((Below.refl _ _).alloc (Nat.le_refl _) _).alloc (by simp) _⟩
set_option maxHeartbeats 800000 in
theorem eqEventS_same (A : Option Addr) (c : Nat) (A' : Option Addr) (c' : Nat) (l : List Bs.E) (lo hi lo' hi' : Nat) (w : World) (h : RE w lo hi A l) (hh : hi ≤ w.heap.size) (h' : RE w lo' hi' A' l) (hh' : hi' ≤ w.heap.size) (hl : l.length ≤ 9223372036854775807) :
    Calls Try.prog 44 #[.slice A l.length c, .slice A' l.length c'] w fun e w' => e = .returned (.bool true) ∧ Below w.heap.size w w' := by
  have hb0 : ((l.length : Int) != (l.length : Int)) = false := by simp
  go_enter Try.func44, Try.ntmps44
  go_wp2
  go_loopw [5] (fun i wr => ∃ k : Nat, k ≤ l.length ∧ i = .int .i64 k ∧ Below w.heap.size w wr) (fun i _ => l.length - (intOf i).toNat)
  case atStart => exact ⟨0, Nat.zero_le _, rfl, Below.refl _ _⟩
  case round =>
    obtain ⟨k, hk, rfl, hb⟩ := hrel
    have hsz := hb.size
    by_cases hlt : k < l.length
    · obtain ⟨b, o, rfl, h1, h2, q0, q1, q2⟩ := (h.below hb hh).at_ hlt
      obtain ⟨b', o', rfl, h1', h2', q0', q1', q2'⟩ := (h'.below hb hh').at_ hlt
      generalize Bs.ge l k = u at *
      obtain ⟨x, y, z⟩ := u
      have C1 := Lib.hid (fun n => eqEvent_same x y z (wr.drewN n))
      go_wp2
      go_region_with (go_at_call 83; refine (C1.out 1).mono ?_; rintro e w1 ⟨rfl, hb'⟩)
      all_goals
        go_wp2
        go_roundw
        case rel => exact ⟨k + 1, by omega, by go_num, (hb.drewN 1).trans (hb'.mono hsz)⟩
        case measure => simp [intOf]; omega
    · go_wp2
      go_ret
      exact ⟨rfl, by exact hb⟩
/-- events that can be written -/
def ME (w : World) (lo hi : Nat) (A : Option Addr) (n : Nat) : Prop := ∀ k, k < n → ∃ b o x y z, A = some ⟨b, o, none⟩ ∧ lo ≤ b ∧ b < hi ∧ w.cell? ⟨b, o + k * 3, none⟩ = some (.int .i64 x) ∧ w.cell? ⟨b, o + k * 3 + 1, none⟩ = some (.int .i64 y) ∧ w.cell? ⟨b, o + k * 3 + 2, none⟩ = some (.bool z) ∧ (∀ j, w.frozen? ⟨b, j, none⟩ = false)
/-- blocks lo..hi-1 alone have turned -/
structure Far (lo hi : Nat) (w w' : World) : Prop where
  os : w'.os = w.os
  tape : w'.tape = w.tape
  output : w'.output = w.output
  size : w'.heap.size = w.heap.size
  far : ∀ k, (k < lo ∨ hi ≤ k) → w'.heap[k]? = w.heap[k]?
theorem Far.refl (lo hi : Nat) (w : World) : Far lo hi w w := ⟨rfl, rfl, rfl, rfl, fun _ _ => rfl⟩
theorem Far.store {lo hi : Nat} {w w' : World} (h : Far lo hi w w') {p : Addr} (h1 : lo ≤ p.block) (h2 : p.block < hi) (u : Value) : Far lo hi w (w'.setCell p u) :=
  ⟨h.os, h.tape, h.output, by rw [← h.size]; simp [World.setCell], fun k hk => (Below.heap_setCell w' p u k (by omega)).trans (h.far k hk)⟩
theorem Far.below {lo hi B : Nat} {w w' : World} (h : Far lo hi w w') (hB : B ≤ lo) : Below B w w' := ⟨h.os, h.tape, h.output, by rw [h.size]; exact Nat.le_refl _, fun k hk => h.far k (.inl (by omega))⟩
theorem Far.cellTo {lo hi : Nat} {w w' : World} (h : Far lo hi w w') {p : Addr} (hp : p.block < lo ∨ hi ≤ p.block) : w'.cell? p = w.cell? p := World.cell?_of_block (w := w) (h.far p.block hp)
theorem Far.frozenTo {lo hi : Nat} {w w' : World} (h : Far lo hi w w') {p : Addr} (hp : p.block < lo ∨ hi ≤ p.block) : w'.frozen? p = w.frozen? p := by
  unfold World.frozen?
  rw [h.far p.block hp]
theorem RI.farE {w w' : World} {lo hi lo' hi' : Nat} {A : Option Addr} {l : List Int} (h : RI w lo hi A l) (ht : Far lo' hi' w w') (hd : hi ≤ lo' ∨ hi' ≤ lo) : RI w' lo hi A l := h.keep fun p h1 h2 => ht.cellTo (by omega)
theorem RE.farE {w w' : World} {lo hi lo' hi' : Nat} {A : Option Addr} {l : List Bs.E} (h : RE w lo hi A l) (ht : Far lo' hi' w w') (hd : hi ≤ lo' ∨ hi' ≤ lo) : RE w' lo hi A l := h.keep fun p h1 h2 => ht.cellTo (by omega)
theorem RG.farE {w w' : World} {lo hi lo' hi' : Nat} {A : Option Addr} {g : List Bs.T} (h : RG w lo hi A g) (ht : Far lo' hi' w w') (hd : hi ≤ lo' ∨ hi' ≤ lo) : RG w' lo hi A g := h.keep fun p h1 h2 => ht.cellTo (by omega)
theorem RE.touch {w w' : World} {lo hi lo' hi' : Nat} {A : Option Addr} {l : List Bs.E} (h : RE w lo hi A l) (ht : Touch lo' hi' w w') (hd : hi ≤ lo' ∨ hi' ≤ lo) : RE w' lo hi A l := h.keep fun p h1 h2 => World.cell?_of_block (w := w) (ht.far p.block (by omega))
theorem MI.farE {w w' : World} {lo hi lo' hi' : Nat} {A : Option Addr} {n : Nat} (h : MI w lo hi A n) (ht : Far lo' hi' w w') (hd : hi ≤ lo' ∨ hi' ≤ lo) : MI w' lo hi A n := by
  intro k hk
  obtain ⟨b, o, x, e, h1, h2, hc, hf⟩ := h k hk
  exact ⟨b, o, x, e, h1, h2, (ht.cellTo (p := ⟨b, o + k, none⟩) (by show b < lo' ∨ hi' ≤ b; omega)).trans hc, (ht.frozenTo (p := ⟨b, o + k, none⟩) (by show b < lo' ∨ hi' ≤ b; omega)).trans hf⟩
theorem ME.keep {w w' : World} {lo hi : Nat} {A : Option Addr} {n : Nat} (h : ME w lo hi A n) (hk : ∀ p : Addr, lo ≤ p.block → p.block < hi → w'.cell? p = w.cell? p) (hf : ∀ p : Addr, lo ≤ p.block → p.block < hi → w'.frozen? p = w.frozen? p) : ME w' lo hi A n := by
  intro k hk'
  obtain ⟨b, o, x, y, z, e, h1, h2, c0, c1, c2, f⟩ := h k hk'
  exact ⟨b, o, x, y, z, e, h1, h2, (hk _ h1 h2).trans c0, (hk _ h1 h2).trans c1, (hk _ h1 h2).trans c2, fun j => (hf ⟨b, j, none⟩ h1 h2).trans (f j)⟩
theorem ME.below {w w' : World} {lo hi B : Nat} {A : Option Addr} {n : Nat} (h : ME w lo hi A n) (hb : Below B w w') (hB : hi ≤ B) : ME w' lo hi A n := h.keep (fun p _ h2 => hb.cell (p := p) (by omega)) (fun p _ h2 => hb.frozen (p := p) (by omega))
theorem ME.touch {w w' : World} {lo hi lo' hi' : Nat} {A : Option Addr} {n : Nat} (h : ME w lo hi A n) (ht : Touch lo' hi' w w') (hd : hi ≤ lo' ∨ hi' ≤ lo) : ME w' lo hi A n := h.keep (fun p h1 h2 => World.cell?_of_block (w := w) (ht.far p.block (by omega))) (fun p _ _ => ht.frozen p)
theorem OE.me {w : World} {B : Nat} {A : Option Addr} {c : Nat} {l : List Bs.E} (h : OE w B A c l) : ME w B w.heap.size A l.length := by
  intro k hk
  obtain ⟨b, hA, h1, h2, _, hf⟩ := h.blk (by omega)
  obtain ⟨b', o, e, _, _, c0, c1, c2⟩ := h.re k hk
  rw [hA] at e
  injection e with e
  injection e with e1 e2
  subst e1
  subst e2
  exact ⟨b, 0, _, _, _, hA, h1, h2, c0, c1, c2, hf⟩
/-- the marks of events -/
def mb (k : Int) : Bool := k % 3 == 0
def HE (w : World) (lo hi : Nat) (A : Option Addr) (n : Nat) (k : Int) : Prop := ∀ j, j < n → ∃ b o, A = some ⟨b, o, none⟩ ∧ lo ≤ b ∧ b < hi ∧ w.cell? ⟨b, o + j * 3, none⟩ = some (.int .i64 (k + ((j * 3 : Nat) : Int))) ∧ w.cell? ⟨b, o + j * 3 + 1, none⟩ = some (.int .i64 (k + ((j * 3 : Nat) : Int) + 1)) ∧ w.cell? ⟨b, o + j * 3 + 2, none⟩ = some (.bool (mb (k + ((j * 3 : Nat) : Int) + 1 + 1)))
theorem HE.keep {w w' : World} {lo hi : Nat} {A : Option Addr} {n : Nat} {k : Int} (h : HE w lo hi A n k) (hk : ∀ p : Addr, lo ≤ p.block → p.block < hi → w'.cell? p = w.cell? p) : HE w' lo hi A n k := by
  intro j hj
  obtain ⟨b, o, e, h1, h2, c0, c1, c2⟩ := h j hj
  exact ⟨b, o, e, h1, h2, (hk _ h1 h2).trans c0, (hk _ h1 h2).trans c1, (hk _ h1 h2).trans c2⟩
theorem HE.below {w w' : World} {lo hi B : Nat} {A : Option Addr} {n : Nat} {k : Int} (h : HE w lo hi A n k) (hb : Below B w w') (hB : hi ≤ B) : HE w' lo hi A n k := h.keep fun _ _ hp => hb.cell (by omega)
theorem ev_step {wr : World} {lo hi n j b o : Nat} {k q : Int} {x0 x1 : Int} {x2 : Bool} (hm : ME wr lo hi (some ⟨b, o, none⟩) n) (hd : HE wr lo hi (some ⟨b, o, none⟩) j k) (hj : j < n) (hq : ((j * 3 : Nat) : Int) = q) (h1 : lo ≤ b) (h2 : b < hi)
    (c0 : wr.cell? ⟨b, o + j * 3, none⟩ = some (.int .i64 x0))
    (c1 : (wr.setCell ⟨b, o + j * 3, none⟩ (.int .i64 (k + q))).cell? ⟨b, o + j * 3 + 1, none⟩ = some (.int .i64 x1))
    (c2 : ((wr.setCell ⟨b, o + j * 3, none⟩ (.int .i64 (k + q))).setCell ⟨b, o + j * 3 + 1, none⟩ (.int .i64 (k + q + 1))).cell? ⟨b, o + j * 3 + 2, none⟩ = some (.bool x2)) (u : Bool) :
    ME (((wr.setCell ⟨b, o + j * 3, none⟩ (.int .i64 (k + q))).setCell ⟨b, o + j * 3 + 1, none⟩ (.int .i64 (k + q + 1))).setCell ⟨b, o + j * 3 + 2, none⟩ (.bool u)) lo hi (some ⟨b, o, none⟩) n ∧
      (u = mb (k + q + 1 + 1) → HE (((wr.setCell ⟨b, o + j * 3, none⟩ (.int .i64 (k + q))).setCell ⟨b, o + j * 3 + 1, none⟩ (.int .i64 (k + q + 1))).setCell ⟨b, o + j * 3 + 2, none⟩ (.bool u)) lo hi (some ⟨b, o, none⟩) (j + 1) k) := by
  obtain ⟨V, hV⟩ : ∃ V, V = ((wr.setCell ⟨b, o + j * 3, none⟩ (.int .i64 (k + q))).setCell ⟨b, o + j * 3 + 1, none⟩ (.int .i64 (k + q + 1))).setCell ⟨b, o + j * 3 + 2, none⟩ (.bool u) := ⟨_, rfl⟩
  have hfar : ∀ m, m ≠ o + j * 3 → m ≠ o + j * 3 + 1 → m ≠ o + j * 3 + 2 → V.cell? ⟨b, m, none⟩ = wr.cell? ⟨b, m, none⟩ := by
    intro m m0 m1 m2
    rw [hV, World.cell?_setCell_other _ _ _ _ (by intro e3; injection e3 with _ e3; omega), World.cell?_setCell_other _ _ _ _ (by intro e3; injection e3 with _ e3; omega), World.cell?_setCell_other _ _ _ _ (by intro e3; injection e3 with _ e3; omega)]
  have d2 : V.cell? ⟨b, o + j * 3 + 2, none⟩ = some (.bool u) := by rw [hV]; exact World.cell?_setCell_same _ _ _ c2
  have d1 : V.cell? ⟨b, o + j * 3 + 1, none⟩ = some (.int .i64 (k + q + 1)) := by
    rw [hV, World.cell?_setCell_other _ _ _ _ (by intro e3; injection e3 with _ e3; omega)]; exact World.cell?_setCell_same _ _ _ c1
  have d0 : V.cell? ⟨b, o + j * 3, none⟩ = some (.int .i64 (k + q)) := by
    rw [hV, World.cell?_setCell_other _ _ _ _ (by intro e3; injection e3 with _ e3; omega), World.cell?_setCell_other _ _ _ _ (by intro e3; injection e3 with _ e3; omega)]; exact World.cell?_setCell_same _ _ _ c0
  have hfz : ∀ p : Addr, V.frozen? p = wr.frozen? p := by
    intro p
    rw [hV, frozen_setCell, frozen_setCell, frozen_setCell]
  rw [← hV]
  constructor
  · intro i hi'
    obtain ⟨b', o', y0, y1, y2, e, a1, a2, e0, e1, e2, ef⟩ := hm i hi'
    cases e
    by_cases hij : i = j
    · subst hij
      exact ⟨b, o, _, _, _, rfl, h1, h2, d0, d1, d2, fun m => (hfz _).trans (ef m)⟩
    · exact ⟨b, o, y0, y1, y2, rfl, h1, h2, (hfar _ (by omega) (by omega) (by omega)).trans e0, (hfar _ (by omega) (by omega) (by omega)).trans e1, (hfar _ (by omega) (by omega) (by omega)).trans e2, fun m => (hfz _).trans (ef m)⟩
  · intro hu i hi'
    by_cases hij : i = j
    · subst hij
      rw [hq]
      refine ⟨b, o, rfl, h1, h2, d0, d1, ?_⟩
      rw [← hu]
      exact d2
    · obtain ⟨b', o', e, a1, a2, e0, e1, e2⟩ := hd i (by omega)
      cases e
      exact ⟨b, o, rfl, h1, h2, (hfar _ (by omega) (by omega) (by omega)).trans e0, (hfar _ (by omega) (by omega) (by omega)).trans e1, (hfar _ (by omega) (by omega) (by omega)).trans e2⟩
set_option maxHeartbeats 1600000 in
theorem markEventS_any (A : Option Addr) (n c : Nat) (k : Int) (lo hi : Nat) (w : World) (h : ME w lo hi A n) (hn : n ≤ 1099511627776) (hk0 : 0 ≤ k) (hk1 : k ≤ 2199023255552) :
    Calls Try.prog 47 #[.slice A n c, .int .i64 k] w fun e w' => e = .returned (.int .i64 (k + ((n * 3 : Nat) : Int))) ∧ Far lo hi w w' ∧ HE w' lo hi A n k := by
  have HM := Lib.hid h
  clear h
  go_enter Try.func47, Try.ntmps47
  go_wp2
  go_loopw [1, 5] (fun s i wr => ∃ j : Nat, j ≤ n ∧ i = .int .i64 j ∧ s = .int .i64 (k + ((j * 3 : Nat) : Int)) ∧ Far lo hi w wr ∧ ME wr lo hi A n ∧ HE wr lo hi A j k) (fun _ i _ => n - (intOf i).toNat)
  case atStart => exact ⟨0, Nat.zero_le _, rfl, by simp, Far.refl _ _ _, HM.out, fun j hj => by omega⟩
  case round =>
    clear HM
    obtain ⟨j, hj, rfl, rfl, ht, hm, hd⟩ := hrel
    have HD := Lib.hid hd
    have HM := Lib.hid hm
    clear hd
    by_cases hlt : j < n
    · obtain ⟨b, o, x0, x1, x2, rfl, h1, h2, c0, c1, c2, hf⟩ := hm j hlt
      have f0 := hf (o + j * 3)
      have f1 := hf (o + j * 3 + 1)
      have f2 := hf (o + j * 3 + 2)
      have HF := Lib.hid hf
      have hqb : 0 ≤ ((j * 3 : Nat) : Int) := by omega
      have hqb2 : ((j * 3 : Nat) : Int) ≤ 3298534883328 := by omega
      have HQ := Lib.hid (show k + ((j * 3 : Nat) : Int) + 1 + 1 + 1 = k + (((j + 1) * 3 : Nat) : Int) from by omega)
      have HQ0 := Lib.hid (show ((j * 3 : Nat) : Int) = ((j * 3 : Nat) : Int) from rfl)
      have i0 : (0 : Int) ≤ (j : Int) := by omega
      have i1 : (j : Int) < (n : Int) := by omega
      have HT := Lib.hid ht
      clear hf hm ht HQ0
      generalize hq : ((j * 3 : Nat) : Int) = q at *
      have HQQ := Lib.hid hq
      clear hq
      have c1' : (wr.setCell ⟨b, o + j * 3, none⟩ (.int .i64 (k + q))).cell? ⟨b, o + j * 3 + 1, none⟩ = some (.int .i64 x1) := by
        rw [World.cell?_setCell_other _ _ _ _ (by intro e3; injection e3 with _ e3; omega)]; exact c1
      have c2' : ((wr.setCell ⟨b, o + j * 3, none⟩ (.int .i64 (k + q))).setCell ⟨b, o + j * 3 + 1, none⟩ (.int .i64 (k + q + 1))).cell? ⟨b, o + j * 3 + 2, none⟩ = some (.bool x2) := by
        rw [World.cell?_setCell_other _ _ _ _ (by intro e3; injection e3 with _ e3; omega), World.cell?_setCell_other _ _ _ _ (by intro e3; injection e3 with _ e3; omega)]; exact c2
      have HFIN := Lib.hid (fun (u : Bool) => (HT.out.store (p := ⟨b, o + j * 3, none⟩) h1 h2 (.int .i64 (k + q))).store (p := ⟨b, o + j * 3 + 1, none⟩) h1 h2 (.int .i64 (k + q + 1)) |>.store (p := ⟨b, o + j * 3 + 2, none⟩) h1 h2 (.bool u))
      have HST := Lib.hid (fun (u : Bool) => ev_step HM.out HD.out hlt (q := q) HQQ.out h1 h2 c0 c1' c2' u)
      go_wp2
      go_roundw
      case rel => exact ⟨j + 1, by omega, by go_num, by rw [← HQ.out], HFIN.out _, (HST.out _).1, (HST.out _).2 rfl⟩
      case measure => simp [intOf]; omega
    · obtain rfl : j = n := by omega
      have HT := Lib.hid ht
      clear ht hm
      go_wp2
      go_ret
      exact ⟨rfl, HT.out, HD.out⟩
set_option maxHeartbeats 1600000 in
theorem heldEventS_any (A : Option Addr) (n c : Nat) (k : Int) (lo hi : Nat) (w : World) (h : HE w lo hi A n k) (hn : n ≤ 1099511627776) (hk0 : 0 ≤ k) (hk1 : k ≤ 2199023255552) :
    Calls Try.prog 48 #[.slice A n c, .int .i64 k] w fun e w' => e = .returned (.int .i64 (k + ((n * 3 : Nat) : Int))) ∧ w = w' := by
  have HH := Lib.hid h
  clear h
  go_enter Try.func48, Try.ntmps48
  go_wp2
  go_loop [1, 5] (fun s i => ∃ j : Nat, j ≤ n ∧ i = .int .i64 j ∧ s = .int .i64 (k + ((j * 3 : Nat) : Int))) (fun _ i => n - (intOf i).toNat)
  case atStart => exact ⟨0, Nat.zero_le _, rfl, by simp⟩
  case round =>
    obtain ⟨j, hj, rfl, rfl⟩ := hrel
    by_cases hlt : j < n
    · obtain ⟨b, o, rfl, h1, h2, c0, c1, c2⟩ := HH.out j hlt
      have hqb : 0 ≤ ((j * 3 : Nat) : Int) := by omega
      have hqb2 : ((j * 3 : Nat) : Int) ≤ 3298534883328 := by omega
      have HQ := Lib.hid (show k + ((j * 3 : Nat) : Int) + 1 + 1 + 1 = k + (((j + 1) * 3 : Nat) : Int) from by omega)
      generalize ((j * 3 : Nat) : Int) = q at *
      unfold mb at c2
      have d0 : ((k + q) != (k + q)) = false := by simp
      have d1 : ((k + q + 1) != (k + q + 1)) = false := by simp
      have d2 : (((k + q + 1 + 1) % 3 == 0) != ((k + q + 1 + 1) % 3 == 0)) = false := by simp
      have i0 : (0 : Int) ≤ (j : Int) := by omega
      have i1 : (j : Int) < (n : Int) := by omega
      go_wp2
      go_round
      case rel => exact ⟨j + 1, by omega, by go_num, by rw [← HQ.out]⟩
      case measure => simp [intOf]; omega
    · obtain rfl : j = n := by omega
      go_wp2
      go_ret
      exact ⟨rfl, rfl⟩
end Go.Proofs.Yteelckhkcfokhaa
