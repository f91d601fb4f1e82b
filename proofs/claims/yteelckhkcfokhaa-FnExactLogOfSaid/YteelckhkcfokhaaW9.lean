/-
  WALKS: marks in memory: integers are written over integers, nothing else.
-/
import Derived.Test.YteelckhkcfokhaaW8
namespace Go.Proofs.Yteelckhkcfokhaa
open Go.RowKit
/-- only integer cells of the blocks lo..hi-1 have turned, and hold integers -/
structure Touch (lo hi : Nat) (w w' : World) : Prop where
  os : w'.os = w.os
  tape : w'.tape = w.tape
  output : w'.output = w.output
  size : w'.heap.size = w.heap.size
  far : ∀ k, (k < lo ∨ hi ≤ k) → w'.heap[k]? = w.heap[k]?
  ints : ∀ (p : Addr) v, w.cell? p = some v → w'.cell? p = some v ∨ ((∃ x, v = .int .i64 x) ∧ ∃ x', w'.cell? p = some (.int .i64 x'))
  frozen : ∀ p, w'.frozen? p = w.frozen? p
theorem Touch.refl (lo hi : Nat) (w : World) : Touch lo hi w w := ⟨rfl, rfl, rfl, rfl, fun _ _ => rfl, fun _ _ h => .inl h, fun _ => rfl⟩
theorem Touch.trans {lo hi : Nat} {a b c : World} (h : Touch lo hi a b) (k : Touch lo hi b c) : Touch lo hi a c :=
  ⟨k.os.trans h.os, k.tape.trans h.tape, k.output.trans h.output, k.size.trans h.size, fun i hi => (k.far i hi).trans (h.far i hi), fun p v hv => by
    rcases h.ints p v hv with h1 | ⟨h1, x', h2⟩
    · exact k.ints p v h1
    · rcases k.ints p _ h2 with h3 | ⟨_, h3⟩
      · exact .inr ⟨h1, x', h3⟩
      · exact .inr ⟨h1, h3⟩, fun p => (k.frozen p).trans (h.frozen p)⟩
theorem Touch.store {lo hi : Nat} {w : World} {p : Addr} {x : Int} (hc : w.cell? p = some (.int .i64 x)) (h1 : lo ≤ p.block) (h2 : p.block < hi) (y : Int) : Touch lo hi w (w.setCell p (.int .i64 y)) := by
  refine ⟨rfl, rfl, rfl, by simp [World.setCell], fun k hk => Below.heap_setCell w p _ k (by omega), fun q v hv => ?_, fun q => frozen_setCell w p q _⟩
  by_cases e : q = p
  · subst e
    rw [hc] at hv
    injection hv with hv
    refine .inr ⟨⟨x, hv.symm⟩, y, ?_⟩
    exact World.cell?_setCell_same w q _ hc
  · exact .inl ((World.cell?_setCell_other w p q _ (Ne.symm e)).trans hv)
theorem Touch.below {lo hi B : Nat} {w w' : World} (h : Touch lo hi w w') (hB : B ≤ lo) : Below B w w' := ⟨h.os, h.tape, h.output, by rw [h.size]; exact Nat.le_refl _, fun k hk => h.far k (.inl (by omega))⟩
theorem Touch.int {lo hi : Nat} {w w' : World} (h : Touch lo hi w w') {p : Addr} {x : Int} (hc : w.cell? p = some (.int .i64 x)) : ∃ x', w'.cell? p = some (.int .i64 x') := by
  rcases h.ints p _ hc with h1 | ⟨_, h1⟩
  · exact ⟨x, h1⟩
  · exact h1
theorem Touch.other {lo hi : Nat} {w w' : World} (h : Touch lo hi w w') {p : Addr} {N : Option Addr} {n c : Nat} (hc : w.cell? p = some (.slice N n c)) : w'.cell? p = some (.slice N n c) := by
  rcases h.ints p _ hc with h1 | ⟨⟨x, hx⟩, _⟩
  · exact h1
  · cases hx
/-- n integer cells that can be written -/
def MI (w : World) (lo hi : Nat) (A : Option Addr) (n : Nat) : Prop :=
  ∀ k, k < n → ∃ b o x, A = some ⟨b, o, none⟩ ∧ lo ≤ b ∧ b < hi ∧ w.cell? ⟨b, o + k, none⟩ = some (.int .i64 x) ∧ w.frozen? ⟨b, o + k, none⟩ = false
theorem MI.touch {w w' : World} {lo hi lo' hi' : Nat} {A : Option Addr} {n : Nat} (h : MI w lo hi A n) (ht : Touch lo' hi' w w') : MI w' lo hi A n := by
  intro k hk
  obtain ⟨b, o, x, e, h1, h2, hc, hf⟩ := h k hk
  obtain ⟨x', hx⟩ := ht.int hc
  exact ⟨b, o, x', e, h1, h2, hx, (ht.frozen _).trans hf⟩
theorem MI.of {w : World} {lo hi : Nat} {A : Option Addr} {l : List Int} (h : RI w lo hi A l) (hf : ∀ p : Addr, lo ≤ p.block → p.block < hi → w.frozen? p = false) : MI w lo hi A l.length := by
  intro k hk
  obtain ⟨b, o, e, h1, h2, hc⟩ := h k hk
  exact ⟨b, o, _, e, h1, h2, hc, hf _ h1 h2⟩
theorem OI.mi {w : World} {B : Nat} {A : Option Addr} {c : Nat} {l : List Int} (h : OI w B A c l) : MI w B w.heap.size A l.length := by
  intro k hk
  obtain ⟨b, o, e, h1, h2, hc⟩ := h.ri k hk
  refine ⟨b, o, _, e, h1, h2, hc, ?_⟩
  rcases h.2 with ⟨hv, hn⟩ | ⟨b', cap, cur, hv, hb, hg, _⟩
  · omega
  · injection hv with hA _ _
    rw [hA] at e
    injection e with e
    injection e with e1 e2
    subst e1
    simp [World.frozen?, hg]
/-- tasks whose integers can be written -/
def MG (w : World) (lo hi : Nat) (A : Option Addr) (n : Nat) : Prop :=
  ∀ k, k < n → ∃ b o N m c x y z, A = some ⟨b, o, none⟩ ∧ lo ≤ b ∧ b < hi ∧
    w.cell? ⟨b, o + k * 4, none⟩ = some (.int .i64 x) ∧ w.cell? ⟨b, o + k * 4 + 1, none⟩ = some (.slice N m c) ∧ w.cell? ⟨b, o + k * 4 + 2, none⟩ = some (.int .i64 y) ∧ w.cell? ⟨b, o + k * 4 + 3, none⟩ = some (.int .i64 z) ∧
    (∀ j, w.frozen? ⟨b, j, none⟩ = false) ∧ m ≤ 1048576 ∧ MI w lo hi N m
theorem MG.touch {w w' : World} {lo hi lo' hi' : Nat} {A : Option Addr} {n : Nat} (h : MG w lo hi A n) (ht : Touch lo' hi' w w') : MG w' lo hi A n := by
  intro k hk
  obtain ⟨b, o, N, m, c, x, y, z, e, h1, h2, c0, c1, c2, c3, hf, hm, hN⟩ := h k hk
  obtain ⟨x', d0⟩ := ht.int c0
  obtain ⟨y', d2⟩ := ht.int c2
  obtain ⟨z', d3⟩ := ht.int c3
  exact ⟨b, o, N, m, c, x', y', z', e, h1, h2, d0, ht.other c1, d2, d3, fun j => (ht.frozen _).trans (hf j), hm, hN.touch ht⟩
theorem MG.of {w : World} {lo hi : Nat} {A : Option Addr} {g : List Bs.T} (h : RG w lo hi A g) (hf : ∀ p : Addr, lo ≤ p.block → p.block < hi → w.frozen? p = false) (hn : ∀ t ∈ g, t.needs.length ≤ 1048576) : MG w lo hi A g.length := by
  intro k hk
  obtain ⟨b, o, N, c, e, h1, h2, c0, c1, c2, c3, _, _, hN⟩ := h k hk
  exact ⟨b, o, N, _, c, _, _, _, e, h1, h2, c0, c1, c2, c3, fun j => hf _ h1 h2, hn _ (List.getElem_mem hk), MI.of hN hf⟩

def iota (k : Int) (n : Nat) : List Int := (List.range n).map fun m : Nat => k + (m : Int)
theorem iota_len (k : Int) (n : Nat) : (iota k n).length = n := by simp [iota]
theorem iota_get (k : Int) (n j : Nat) (h : j < (iota k n).length) : (iota k n)[j] = k + j := by simp [iota]

theorem markIntS_any (A : Option Addr) (n c : Nat) (k : Int) (lo hi : Nat) (w : World) (h : MI w lo hi A n) (hn : n ≤ 1099511627776) (hk0 : 0 ≤ k) (hk1 : k ≤ 2199023255552) :
    Calls Try.prog 37 #[.slice A n c, .int .i64 k] w fun e w' => e = .returned (.int .i64 (k + n)) ∧ Touch lo hi w w' ∧ RI w' lo hi A (iota k n) := by
  go_enter Try.func37, Try.ntmps37
  go_wp2
  go_loopw [1, 5] (fun s i wr => ∃ j : Nat, j ≤ n ∧ i = .int .i64 j ∧ s = .int .i64 (k + j) ∧ Touch lo hi w wr ∧ ∀ m : Nat, m < j → ∃ b o, A = some ⟨b, o, none⟩ ∧ lo ≤ b ∧ b < hi ∧ wr.cell? ⟨b, o + m, none⟩ = some (.int .i64 (k + m))) (fun _ i _ => n - (intOf i).toNat)
  case atStart => exact ⟨0, Nat.zero_le _, rfl, by simp, Touch.refl _ _ _, by intro m hm; omega⟩
  case round =>
    obtain ⟨j, hj, rfl, rfl, ht, hd⟩ := hrel
    have HD := Lib.hid hd
    clear hd
    by_cases hlt : j < n
    · obtain ⟨b, o, x, rfl, h1, h2, hc, hf⟩ := (h.touch ht) j hlt
      go_wp2
      go_roundw
      case rel =>
        refine ⟨j + 1, by omega, by go_num, by go_num, ht.trans (Touch.store hc h1 h2 _), ?_⟩
        intro m hm
        refine ⟨b, o, rfl, h1, h2, ?_⟩
        by_cases e : m = j
        · subst e
          exact World.cell?_setCell_same _ _ _ hc
        · obtain ⟨b', o', e', _, _, hc'⟩ := HD.out m (by omega)
          injection e' with e'
          injection e' with e1 e2
          subst e1
          subst e2
          rw [World.cell?_setCell_other _ _ _ _ (by intro e3; injection e3 with _ e3; omega)]
          exact hc'
      case measure => simp [intOf]; omega
    · obtain rfl : j = n := by omega
      go_wp2
      go_ret
      refine ⟨rfl, ht, ?_⟩
      intro m hm
      have hm' : m < j := by rw [iota_len] at hm; exact hm
      rw [iota_get]
      exact HD.out m hm'

theorem heldIntS_any (A : Option Addr) (n c : Nat) (k : Int) (lo hi : Nat) (w : World) (h : RI w lo hi A (iota k n)) (hn : n ≤ 1099511627776) (hk0 : 0 ≤ k) (hk1 : k ≤ 2199023255552) :
    Calls Try.prog 51 #[.slice A n c, .int .i64 k] w fun e w' => e = .returned (.int .i64 (k + n)) ∧ w = w' := by
  go_enter Try.func51, Try.ntmps51
  go_wp2
  go_loop [1, 5] (fun s i => ∃ j : Nat, j ≤ n ∧ i = .int .i64 j ∧ s = .int .i64 (k + j)) (fun _ i => n - (intOf i).toNat)
  case atStart => exact ⟨0, Nat.zero_le _, rfl, by simp⟩
  case round =>
    obtain ⟨j, hj, rfl, rfl⟩ := hrel
    by_cases hlt : j < n
    · obtain ⟨b, o, rfl, h1, h2, hc⟩ := h j (by rw [iota_len]; exact hlt)
      rw [iota_get] at hc
      go_wp2
      go_round
      case rel => exact ⟨j + 1, by omega, by go_num, by go_num⟩
      case measure => simp [intOf]; omega
    · obtain rfl : j = n := by omega
      go_wp2
      go_ret
      exact ⟨rfl, rfl⟩

set_option maxHeartbeats 800000 in
theorem markTaskS_any (A : Option Addr) (n c : Nat) (lo hi : Nat) (w : World) (h : MG w lo hi A n) (hn : n ≤ 1048576) :
    Calls Try.prog 20 #[.slice A n c, .int .i64 1] w fun e w' => (∃ r : Int, e = .returned (.int .i64 r) ∧ 0 ≤ r ∧ r ≤ 1 + n * 1048579) ∧ Touch lo hi w w' := by
  go_enter Try.func20, Try.ntmps20
  go_wp2
  go_loopw [1, 5] (fun s i wr => ∃ (j : Nat) (q : Int), j ≤ n ∧ i = .int .i64 j ∧ s = .int .i64 q ∧ 0 ≤ q ∧ q ≤ 1 + j * 1048579 ∧ Touch lo hi w wr) (fun _ i _ => n - (intOf i).toNat)
  case atStart => exact ⟨0, 1, Nat.zero_le _, rfl, rfl, by omega, by omega, Touch.refl _ _ _⟩
  case round =>
    obtain ⟨j, q, hj, rfl, rfl, hq0, hq1, ht⟩ := hrel
    by_cases hlt : j < n
    · have hG := h.touch ht
      obtain ⟨b, o, N, m, cN, x, y, z, rfl, h1, h2, c0, c1, c2, c3, hf, hm, hN⟩ := hG j hlt
      have t1 := Touch.store c0 h1 h2 q
      have hN1 := hN.touch t1
      have C1 := Lib.hid (markIntS_any N m cN (q + 1) lo hi _ hN1 (by omega) (by omega) (by omega))
      have HG1 := Lib.hid (hG.touch t1)
      have T1 := Lib.hid t1
      clear hG t1 hN1
      go_wp2_with fail
      refine (C1.out).mono ?_; rintro e w1 ⟨rfl, ht1, _⟩
      obtain ⟨b', o', N', m', cN', x', y', z', e', _, _, c0', c1', c2', c3', hf', _, _⟩ := (HG1.out.touch ht1) j hlt
      injection e' with e'
      injection e' with e1 e2
      subst e1
      subst e2
      have t2 := Lib.hid (Touch.store c2' h1 h2 (q + 1 + m))
      have c3'' : (w1.setCell ⟨b, o + j * 4 + 2, none⟩ (.int .i64 (q + 1 + m))).cell? ⟨b, o + j * 4 + 3, none⟩ = some (.int .i64 z') := by
        rw [World.cell?_setCell_other _ _ _ _ (by intro e3; injection e3 with _ e3; omega)]
        exact c3'
      have t3 := Lib.hid (Touch.store c3'' h1 h2 (q + 1 + m + 1))
      clear c3''
      go_wp2
      go_roundw
      case rel => exact ⟨j + 1, _, by omega, by go_num, rfl, by omega, by omega, (((ht.trans T1.out).trans ht1).trans t2.out).trans t3.out⟩
      case measure => simp [intOf]; omega
    · obtain rfl : j = n := by omega
      go_wp2
      go_ret
      exact ⟨⟨q, rfl, hq0, hq1⟩, by exact ht⟩

theorem RI.touch {w w' : World} {lo hi lo' hi' : Nat} {A : Option Addr} {l : List Int} (h : RI w lo hi A l) (ht : Touch lo' hi' w w') (hd : hi ≤ lo' ∨ hi' ≤ lo) : RI w' lo hi A l :=
  h.keep fun p h1 h2 => World.cell?_of_block (w := w) (ht.far p.block (by omega))
theorem MI.below {w w' : World} {lo hi : Nat} {A : Option Addr} {n : Nat} {B : Nat} (h : MI w lo hi A n) (hb : Below B w w') (hB : hi ≤ B) : MI w' lo hi A n := by
  intro k hk
  obtain ⟨b, o, x, e, h1, h2, hc, hf⟩ := h k hk
  exact ⟨b, o, x, e, h1, h2, (hb.cell (p := ⟨b, o + k, none⟩) (by show b < B; omega)).trans hc, (hb.frozen (p := ⟨b, o + k, none⟩) (by show b < B; omega)).trans hf⟩
theorem eqIntS_same (A : Option Addr) (c : Nat) (A' : Option Addr) (c' : Nat) (l : List Int) (lo hi lo' hi' : Nat) (w : World) (h : RI w lo hi A l) (h' : RI w lo' hi' A' l) (hl : l.length ≤ 9223372036854775807) :
    Calls Try.prog 36 #[.slice A l.length c, .slice A' l.length c'] w fun e w' => e = .returned (.bool true) ∧ Below w.heap.size w w' :=
  (eqIntS_any A c l A' c' l lo hi lo' hi' w h h' hl).mono fun e w' ⟨he, n, hw⟩ => ⟨by rw [he]; simp, by rw [hw]; exact (Below.refl _ _).drewN n⟩
theorem below_size {w w' : World} (hb : Below w.heap.size w w') {n : Nat} (h : n ≤ w.heap.size) : n ≤ w'.heap.size := Nat.le_trans h hb.size
theorem UFrom.upTo {w w' : World} {B hi : Nat} (h : UFrom B w) (hb : Below w.heap.size w w') (hh : hi ≤ w.heap.size) : ∀ p : Addr, B ≤ p.block → p.block < hi → w'.frozen? p = false := by
  intro p h1 h2
  rw [hb.frozen (by omega)]
  exact h p h1
theorem markTaskS_g (A : Option Addr) (c : Nat) (g : List Bs.T) (lo hi : Nat) (w : World) (h : RG w lo hi A g) (hf : ∀ p : Addr, lo ≤ p.block → p.block < hi → w.frozen? p = false) (hn : ∀ t ∈ g, t.needs.length ≤ 1048576) (hg : g.length ≤ 1048576) :
    Calls Try.prog 20 #[.slice A g.length c, .int .i64 1] w fun e w' => (∃ r : Int, e = .returned (.int .i64 r) ∧ 0 ≤ r) ∧ Touch lo hi w w' :=
  (markTaskS_any A g.length c lo hi w (MG.of h hf hn) hg).mono fun _ _ ⟨⟨r, h1, h2, _⟩, h3⟩ => ⟨⟨r, h1, h2⟩, h3⟩
theorem markTaskS_gb (A : Option Addr) (c : Nat) (g : List Bs.T) (lo hi : Nat) (w : World) (h : RG w lo hi A g) (hf : ∀ p : Addr, lo ≤ p.block → p.block < hi → w.frozen? p = false) (hn : ∀ t ∈ g, t.needs.length ≤ 1048576) (hg : g.length ≤ 1048576) :
    Calls Try.prog 20 #[.slice A g.length c, .int .i64 1] w fun e w' => (∃ r : Int, e = .returned (.int .i64 r) ∧ 0 ≤ r ∧ r ≤ 1099600000000) ∧ Touch lo hi w w' :=
  (markTaskS_any A g.length c lo hi w (MG.of h hf hn) hg).mono fun _ _ ⟨⟨r, h1, h2, h3⟩, h4⟩ => ⟨⟨r, h1, h2, by omega⟩, h4⟩
end Go.Proofs.Yteelckhkcfokhaa
