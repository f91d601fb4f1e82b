/-
  WALKS: the exact laws' helpers over users.
-/
import Derived.Test.YtbmfhnijbdmjbaaW9
import Derived.Test.YtbmfhnijbdmjbaaW106
namespace Go.Proofs.Ytbmfhnijbdmjbaa
open Go.RowKit
theorem szUserS_any (A : Option Addr) (c : Nat) (l : List Bs.U) (L0 : Int) (w : World) (hl : l.length ≤ 9223372036854775807) (h0 : 0 ≤ L0) (h1 : L0 ≤ 1048576) :
    Calls Try.prog 9 #[.slice A l.length c, .int .i64 L0] w fun e w' => (∃ r : Int, e = .returned (.int .i64 r) ∧ (r < 0 ∨ 0 ≤ r ∧ r ≤ 1048576 ∧ l.length ≤ 1048576)) ∧ w = w' := by
  by_cases hlt : L0 - (l.length : Int) < 0
  · have d0 : decide (L0 - (l.length : Int) < 0) = true := decide_eq_true hlt
    go_enter Try.func9, Try.ntmps9
    go_wp2
    go_ret
    exact ⟨⟨-1, rfl, .inl (by omega)⟩, rfl⟩
  · have d0 : decide (L0 - (l.length : Int) < 0) = false := decide_eq_false hlt
    go_enter Try.func9, Try.ntmps9
    go_wp2
    go_ret
    exact ⟨⟨_, rfl, .inr ⟨by omega, by omega, by omega⟩⟩, rfl⟩
theorem toUser_any (x y z : Int) (w : World) :
    Calls Try.prog 33 #[.agg #[.int .i64 x, .int .i64 y, .int .i64 z]] w fun e w' => e = .returned (.agg #[.int .i64 x, .int .i64 y, .int .i64 z]) ∧ Below w.heap.size w w' := by
  go_enter Try.func33, Try.ntmps33
  go_wp2
  refine bodyPost_ret (v := .agg #[.int .i64 x, .int .i64 y, .int .i64 z]) (by simp [results, Try.results33, go_sem]) rfl ⟨rfl, ?_⟩
  exact (((Below.refl _ _).alloc (Nat.le_refl _) _).alloc (by simp) _).alloc (by simp; omega) _
theorem set3_get (cs : Array Value) (k i : Nat) (v0 v1 v2 : Value) (hk : k * 3 + 2 < cs.size) :
    (((cs.setIfInBounds (k * 3) v0).setIfInBounds (k * 3 + 1) v1).setIfInBounds (k * 3 + 2) v2)[i]? = if i = k * 3 then some v0 else if i = k * 3 + 1 then some v1 else if i = k * 3 + 2 then some v2 else cs[i]? := by
  simp only [Array.getElem?_setIfInBounds, Array.size_setIfInBounds]
  by_cases e2 : k * 3 + 2 = i
  · subst e2
    rw [if_pos rfl, if_pos (by omega), if_neg (by omega), if_neg (by omega), if_pos rfl]
  · rw [if_neg e2]
    by_cases e1 : k * 3 + 1 = i
    · subst e1
      rw [if_pos rfl, if_pos (by omega), if_neg (by omega), if_pos rfl]
    · rw [if_neg e1]
      by_cases e0 : k * 3 = i
      · subst e0
        rw [if_pos rfl, if_pos (by omega), if_pos rfl]
      · rw [if_neg e0, if_neg (by omega), if_neg (by omega), if_neg (by omega)]
theorem uc_ext {cs : Array Value} {l : List Bs.U} (hs : cs.size = l.length * 3) (h : ∀ k (hk : k < l.length), cs[k * 3]? = some (.int .i64 l[k].share) ∧ cs[k * 3 + 1]? = some (.int .i64 l[k].used) ∧ cs[k * 3 + 2]? = some (.int .i64 l[k].waits)) : cs.toList = l.flatMap uc := by
  apply List.ext_getElem?
  intro i
  rw [Array.getElem?_toList]
  by_cases hi : i < l.length * 3
  · have e : i = i / 3 * 3 + i % 3 := by omega
    have hk : i / 3 < l.length := by omega
    have h1 := uc_at l (i / 3) hk (i % 3) (by omega)
    rw [← e] at h1
    rw [h1]
    obtain ⟨a, b, c⟩ := h (i / 3) hk
    have hm : i % 3 = 0 ∨ i % 3 = 1 ∨ i % 3 = 2 := by omega
    rcases hm with hm | hm | hm
    · rw [hm]; exact (congrArg (fun q => cs[q]?) (show i = i / 3 * 3 by omega)).trans a
    · rw [hm]; exact (congrArg (fun q => cs[q]?) (show i = i / 3 * 3 + 1 by omega)).trans b
    · rw [hm]; exact (congrArg (fun q => cs[q]?) (show i = i / 3 * 3 + 2 by omega)).trans c
  · rw [Array.getElem?_eq_none (by omega), List.getElem?_eq_none (by rw [OR.len]; omega)]
set_option maxHeartbeats 800000 in
theorem toUserS_any (A : Option Addr) (c : Nat) (l : List Bs.U) (lo hi : Nat) (w : World) (h : RU w lo hi A l) (hh : hi ≤ w.heap.size) (hl : l.length ≤ 1048576) :
    Calls Try.prog 11 #[.slice A l.length c] w fun e w' => (e = .returned (.slice (some ⟨w.heap.size, 0, none⟩) l.length l.length) ∧ OR w' w.heap.size (some ⟨w.heap.size, 0, none⟩) l.length l) ∧ Below w.heap.size w w' := by
  obtain ⟨i0, hi0, hz0, hz1, hz2⟩ := info_parts Try.infoUserD
  have hmk : ∀ u : World, (Instr.makeSlice 25 (.int .i64 (l.length : Int)) (.int .i64 (l.length : Int))).run Try.prog u =
      .ok (.slice (some ⟨u.heap.size, 0, none⟩) l.length l.length) (u.alloc (.cells (madeCells #[.int .i64 0, .int .i64 0, .int .i64 0] (l.length * 3)) 46)) := fun u => by
    have h := run_make (P := Try.prog) u 25 46 i0 (.agg #[.int .i64 0, .int .i64 0, .int .i64 0]) Try.underlying25 hi0 hz0 .i64 .i64 (l.length : Int) (l.length : Int) (by omega) (Int.le_refl _) (by rw [hz2]; omega) (by omega)
    simpa [hz1, Value.cells] using h
  go_enter Try.func11, Try.ntmps11
  go_wp2
  go_loopw [4] (fun i wr => ∃ (k : Nat) (cs : Array Value), k ≤ l.length ∧ i = .int .i64 k ∧ Blk wr w.heap.size 46 cs ∧ (cs.size = l.length * 3 ∧ ∀ j (hj : j < l.length), j < k → cs[j * 3]? = some (.int .i64 l[j].share) ∧ cs[j * 3 + 1]? = some (.int .i64 l[j].used) ∧ cs[j * 3 + 2]? = some (.int .i64 l[j].waits)) ∧ Below w.heap.size w wr) (fun i _ => l.length - (intOf i).toNat)
  case atStart => exact ⟨0, _, Nat.zero_le _, rfl, Blk.new _ _ _, ⟨by simp [size_madeCells], by intro j _ h; omega⟩, (Below.refl _ _).alloc (Nat.le_refl _) _⟩
  case round =>
    obtain ⟨k, cs, hk, rfl, hB, ⟨hcs, hC⟩, hb⟩ := hrel
    have hsz := hb.size
    have hBl := hB.lt
    by_cases hlt : k < l.length
    · have hr := h.below hb hh
      obtain ⟨b, o, rfl, h1, h2, q0, q1, q2⟩ := hr k hlt
      clear hr
      have HC := Lib.hid hC
      have Hcs := Lib.hid hcs
      clear hC hcs
      have HG := Lib.hid (show l[k] = l[k] from rfl)
      generalize hx : l[k].share = x at *
      generalize hy : l[k].used = y at *
      generalize hz : l[k].waits = z at *
      have HX := Lib.hid (And.intro hx (And.intro hy hz))
      clear hx hy hz HG
      have C1 := Lib.hid (toUser_any x y z wr)
      go_wp2_with fail
      refine (C1.out).mono ?_; rintro e w1 ⟨rfl, hb'⟩
      have hB1 : Blk w1 w.heap.size 46 cs := hB.below hb' hBl
      have f0 := (hB1.cell (k * 3)).trans (Array.getElem?_eq_getElem (by have := Hcs.out; omega))
      have f1 := (hB1.cell (k * 3 + 1)).trans (Array.getElem?_eq_getElem (by have := Hcs.out; omega))
      have f2 := (hB1.cell (k * 3 + 2)).trans (Array.getElem?_eq_getElem (by have := Hcs.out; omega))
      have z := hB1.frozen
      go_wp2
      have hsz' := hb'.size
      go_roundw
      case rel =>
        refine ⟨k + 1, _, by omega, by go_num, ((hB1.set_ _ _).set_ _ _).set_ _ _, ⟨by simp only [Array.size_setIfInBounds]; exact Hcs.out, ?_⟩, (((hb.trans (hb'.mono hsz)).setCell (by simp) _).setCell (by simp) _).setCell (by simp) _⟩
        intro j hj hjk
        have hcs := Hcs.out
        rw [set3_get _ _ _ _ _ _ (by omega), set3_get _ _ _ _ _ _ (by omega), set3_get _ _ _ _ _ _ (by omega)]
        by_cases e : j = k
        · subst e
          rw [if_pos rfl, if_neg (by omega), if_pos rfl, if_neg (by omega), if_neg (by omega), if_pos rfl, HX.out.1, HX.out.2.1, HX.out.2.2]
          exact ⟨rfl, rfl, rfl⟩
        · rw [if_neg (by omega), if_neg (by omega), if_neg (by omega), if_neg (by omega), if_neg (by omega), if_neg (by omega), if_neg (by omega), if_neg (by omega), if_neg (by omega)]
          exact HC.out j hj (by omega)
      case measure => simp [intOf]; omega
    · obtain rfl : k = l.length := by omega
      go_wp2
      go_ret
      refine ⟨⟨rfl, ?_⟩, by exact hb⟩
      have ht := uc_ext hcs (fun k hk => hC k hk hk)
      refine ⟨OR.len, .inr ⟨w.heap.size, l.length, cs, rfl, Nat.le_refl _, hB, Nat.le_refl _, by unfold maxLen; omega, hcs, ?_⟩⟩
      rw [List.take_of_length_le (by rw [Array.length_toList]; omega)]
      exact ht
theorem eqUser_same (x y z : Int) (w : World) :
    Calls Try.prog 35 #[.agg #[.int .i64 x, .int .i64 y, .int .i64 z], .agg #[.int .i64 x, .int .i64 y, .int .i64 z]] w fun e w' => e = .returned (.bool true) ∧ Below w.heap.size w w' := by
  have d0 : (x != x) = false := by simp
  have d1 : (y != y) = false := by simp
  have d2 : (z != z) = false := by simp
  go_enter Try.func35, Try.ntmps35
  go_wp2
  go_ret
  exact ⟨rfl, ((Below.refl _ _).alloc (Nat.le_refl _) _).alloc (by simp) _⟩
set_option maxHeartbeats 800000 in
theorem eqUserS_same (A : Option Addr) (c : Nat) (A' : Option Addr) (c' : Nat) (l : List Bs.U) (lo hi lo' hi' : Nat) (w : World) (h : RU w lo hi A l) (hh : hi ≤ w.heap.size) (h' : RU w lo' hi' A' l) (hh' : hi' ≤ w.heap.size) (hl : l.length ≤ 9223372036854775807) :
    Calls Try.prog 13 #[.slice A l.length c, .slice A' l.length c'] w fun e w' => e = .returned (.bool true) ∧ Below w.heap.size w w' := by
  have hb0 : ((l.length : Int) != (l.length : Int)) = false := by simp
  go_enter Try.func13, Try.ntmps13
  go_wp2
  go_loopw [5] (fun i wr => ∃ k : Nat, k ≤ l.length ∧ i = .int .i64 k ∧ Below w.heap.size w wr) (fun i _ => l.length - (intOf i).toNat)
  case atStart => exact ⟨0, Nat.zero_le _, rfl, Below.refl _ _⟩
  case round =>
    obtain ⟨k, hk, rfl, hb⟩ := hrel
    have hsz := hb.size
    by_cases hlt : k < l.length
    · obtain ⟨b, o, rfl, h1, h2, q0, q1, q2⟩ := (h.below hb hh).at_ hlt
      obtain ⟨b', o', rfl, h1', h2', q0', q1', q2'⟩ := (h'.below hb hh').at_ hlt
      generalize Bs.gu l k = u at *
      obtain ⟨x, y, z⟩ := u
      have C1 := Lib.hid (fun n => eqUser_same x y z (wr.drewN n))
      go_wp2
      go_region_with (go_at_call 35; refine (C1.out 1).mono ?_; rintro e w1 ⟨rfl, hb'⟩)
      all_goals
        go_wp2
        go_roundw
        case rel => exact ⟨k + 1, by omega, by go_num, (hb.drewN 1).trans (hb'.mono hsz)⟩
        case measure => simp [intOf]; omega
    · go_wp2
      go_ret
      exact ⟨rfl, by exact hb⟩
set_option maxHeartbeats 800000 in
theorem markUserS_any (A : Option Addr) (n c : Nat) (k : Int) (lo hi : Nat) (w : World) (h : MI w lo hi A (n * 3)) (hn : n ≤ 1099511627776) (hk0 : 0 ≤ k) (hk1 : k ≤ 2199023255552) :
    Calls Try.prog 18 #[.slice A n c, .int .i64 k] w fun e w' => e = .returned (.int .i64 (k + ((n * 3 : Nat) : Int))) ∧ Touch lo hi w w' ∧ RI w' lo hi A (iota k (n * 3)) := by
  go_enter Try.func18, Try.ntmps18
  go_wp2
  go_loopw [1, 5] (fun s i wr => ∃ j : Nat, j ≤ n ∧ i = .int .i64 j ∧ s = .int .i64 (k + ((j * 3 : Nat) : Int)) ∧ Touch lo hi w wr ∧ ∀ m : Nat, m < j * 3 → ∃ b o, A = some ⟨b, o, none⟩ ∧ lo ≤ b ∧ b < hi ∧ wr.cell? ⟨b, o + m, none⟩ = some (.int .i64 (k + m))) (fun _ i _ => n - (intOf i).toNat)
  case atStart => exact ⟨0, Nat.zero_le _, rfl, by simp, Touch.refl _ _ _, by intro m hm; omega⟩
  case round =>
    obtain ⟨j, hj, rfl, rfl, ht, hd⟩ := hrel
    have HD := Lib.hid hd
    clear hd
    by_cases hlt : j < n
    · obtain ⟨b, o, x0, rfl, h1, h2, c0, f0⟩ := (h.touch ht) (j * 3) (by omega)
      obtain ⟨b', o', x1, e1, _, _, c1, f1⟩ := (h.touch ht) (j * 3 + 1) (by omega)
      cases e1
      obtain ⟨b', o', x2, e2, _, _, c2, f2⟩ := (h.touch ht) (j * 3 + 2) (by omega)
      cases e2
      rw [← Nat.add_assoc] at c1 f1 c2 f2
      generalize hq : ((j * 3 : Nat) : Int) = q at *
      have hq0 : q = (j : Int) * 3 := by omega
      have t1 := Touch.store c0 h1 h2 (k + q)
      have c1' : (wr.setCell ⟨b, o + j * 3, none⟩ (.int .i64 (k + q))).cell? ⟨b, o + j * 3 + 1, none⟩ = some (.int .i64 x1) := by
        rw [World.cell?_setCell_other _ _ _ _ (by intro e3; injection e3 with _ e3; omega)]; exact c1
      have t2 := Touch.store c1' h1 h2 (k + q + 1)
      have c2' : ((wr.setCell ⟨b, o + j * 3, none⟩ (.int .i64 (k + q))).setCell ⟨b, o + j * 3 + 1, none⟩ (.int .i64 (k + q + 1))).cell? ⟨b, o + j * 3 + 2, none⟩ = some (.int .i64 x2) := by
        rw [World.cell?_setCell_other _ _ _ _ (by intro e3; injection e3 with _ e3; omega), World.cell?_setCell_other _ _ _ _ (by intro e3; injection e3 with _ e3; omega)]; exact c2
      have t3 := Touch.store c2' h1 h2 (k + q + 1 + 1)
      have HALL := Lib.hid (((ht.trans t1).trans t2).trans t3)
      have HN := Lib.hid (show ∀ m : Nat, m < (j + 1) * 3 → ∃ b2 o2, (some ⟨b, o, none⟩ : Option Addr) = some ⟨b2, o2, none⟩ ∧ lo ≤ b2 ∧ b2 < hi ∧ (((wr.setCell ⟨b, o + j * 3, none⟩ (.int .i64 (k + q))).setCell ⟨b, o + j * 3 + 1, none⟩ (.int .i64 (k + q + 1))).setCell ⟨b, o + j * 3 + 2, none⟩ (.int .i64 (k + q + 1 + 1))).cell? ⟨b2, o2 + m, none⟩ = some (.int .i64 (k + m)) from fun m hm => by
        refine ⟨b, o, rfl, h1, h2, ?_⟩
        by_cases e2 : m = j * 3 + 2
        · rw [show o + m = o + j * 3 + 2 from by omega, World.cell?_setCell_same _ _ _ c2', show k + q + 1 + 1 = k + (m : Int) from by omega]
        · rw [World.cell?_setCell_other _ _ _ _ (by intro e3; injection e3 with _ e3; omega)]
          by_cases e1 : m = j * 3 + 1
          · rw [show o + m = o + j * 3 + 1 from by omega, World.cell?_setCell_same _ _ _ c1', show k + q + 1 = k + (m : Int) from by omega]
          · rw [World.cell?_setCell_other _ _ _ _ (by intro e3; injection e3 with _ e3; omega)]
            by_cases e0 : m = j * 3
            · rw [show o + m = o + j * 3 from by omega, World.cell?_setCell_same _ _ _ c0, show k + q = k + (m : Int) from by omega]
            · rw [World.cell?_setCell_other _ _ _ _ (by intro e3; injection e3 with _ e3; omega)]
              obtain ⟨b4, o4, e4, _, _, hc4⟩ := HD.out m (by omega)
              cases e4
              exact hc4)
      clear t1 t2 t3 c1' c2' ht
      have hqb : 0 ≤ q := by omega
      have hqb2 : q ≤ 3298534883328 := by omega
      have i0 : (0 : Int) ≤ (j : Int) := by omega
      have i1 : (j : Int) < (n : Int) := by omega
      have HQ := Lib.hid (show k + q + 1 + 1 + 1 = k + (((j + 1) * 3 : Nat) : Int) from by omega)
      clear hq hq0
      go_wp2
      go_roundw
      case rel => exact ⟨j + 1, by omega, by go_num, by rw [← HQ.out], HALL.out, HN.out⟩
      case measure => simp [intOf]; omega
    · obtain rfl : j = n := by omega
      go_wp2
      go_ret
      refine ⟨rfl, ht, ?_⟩
      intro m hm
      have hm' : m < j * 3 := by rw [iota_len] at hm; exact hm
      rw [iota_get]
      exact HD.out m hm'
set_option maxHeartbeats 800000 in
theorem heldUserS_any (A : Option Addr) (n c : Nat) (k : Int) (lo hi : Nat) (w : World) (h : RI w lo hi A (iota k (n * 3))) (hn : n ≤ 1099511627776) (hk0 : 0 ≤ k) (hk1 : k ≤ 2199023255552) :
    Calls Try.prog 19 #[.slice A n c, .int .i64 k] w fun e w' => e = .returned (.int .i64 (k + ((n * 3 : Nat) : Int))) ∧ w = w' := by
  go_enter Try.func19, Try.ntmps19
  go_wp2
  go_loop [1, 5] (fun s i => ∃ j : Nat, j ≤ n ∧ i = .int .i64 j ∧ s = .int .i64 (k + ((j * 3 : Nat) : Int))) (fun _ i => n - (intOf i).toNat)
  case atStart => exact ⟨0, Nat.zero_le _, rfl, by simp⟩
  case round =>
    obtain ⟨j, hj, rfl, rfl⟩ := hrel
    by_cases hlt : j < n
    · obtain ⟨b, o, rfl, h1, h2, c0⟩ := h (j * 3) (by rw [iota_len]; omega)
      obtain ⟨b', o', e1, _, _, c1⟩ := h (j * 3 + 1) (by rw [iota_len]; omega)
      cases e1
      obtain ⟨b', o', e2, _, _, c2⟩ := h (j * 3 + 2) (by rw [iota_len]; omega)
      cases e2
      rw [← Nat.add_assoc] at c1 c2
      rw [iota_get] at c0 c1 c2
      have e1 : k + ((j * 3 + 1 : Nat) : Int) = k + ((j * 3 : Nat) : Int) + 1 := by omega
      have e2 : k + ((j * 3 + 2 : Nat) : Int) = k + ((j * 3 : Nat) : Int) + 1 + 1 := by omega
      rw [e1] at c1
      rw [e2] at c2
      have hqb : 0 ≤ ((j * 3 : Nat) : Int) := by omega
      have hqb2 : ((j * 3 : Nat) : Int) ≤ 3298534883328 := by omega
      have HQ := Lib.hid (show k + ((j * 3 : Nat) : Int) + 1 + 1 + 1 = k + (((j + 1) * 3 : Nat) : Int) from by omega)
      generalize ((j * 3 : Nat) : Int) = q at *
      have d0 : ((k + q) != (k + q)) = false := by simp
      have d1 : ((k + q + 1) != (k + q + 1)) = false := by simp
      have d2 : ((k + q + 1 + 1) != (k + q + 1 + 1)) = false := by simp
      have i0 : (0 : Int) ≤ (j : Int) := by omega
      have i1 : (j : Int) < (n : Int) := by omega
      clear e1 e2
      go_wp2
      go_round
      case rel => exact ⟨j + 1, by omega, by go_num, by rw [← HQ.out]⟩
      case measure => simp [intOf]; omega
    · obtain rfl : j = n := by omega
      go_wp2
      go_ret
      exact ⟨rfl, rfl⟩
theorem OR.mi {w : World} {B : Nat} {A : Option Addr} {c : Nat} {l : List Bs.U} (h : OR w B A c l) : MI w B w.heap.size A (l.length * 3) := by
  intro k hk
  obtain ⟨b, hA, h1, h2, hc, hf⟩ := h.blk (by omega)
  have e : k = k / 3 * 3 + k % 3 := by omega
  have h3 := uc_at l (k / 3) (by omega) (k % 3) (by omega)
  rw [← e] at h3
  have hm : k % 3 = 0 ∨ k % 3 = 1 ∨ k % 3 = 2 := by omega
  rcases hm with hm | hm | hm
  all_goals
    rw [hm] at h3
    exact ⟨b, 0, _, hA, h1, h2, by rw [Nat.zero_add]; exact hc k _ (h3.trans rfl), by rw [Nat.zero_add]; exact hf k⟩
theorem RU.touch {w w' : World} {lo hi lo' hi' : Nat} {A : Option Addr} {l : List Bs.U} (h : RU w lo hi A l) (ht : Touch lo' hi' w w') (hd : hi ≤ lo' ∨ hi' ≤ lo) : RU w' lo hi A l :=
  h.keep fun p h1 h2 => World.cell?_of_block (w := w) (ht.far p.block (by omega))
end Go.Proofs.Ytbmfhnijbdmjbaa
