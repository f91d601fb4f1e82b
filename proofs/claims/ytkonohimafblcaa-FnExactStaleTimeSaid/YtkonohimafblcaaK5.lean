/-
  MERGED TEXTS: W10 W11 W12 W13 Len2.
-/
import Derived.Test.YtkonohimafblcaaK1
import Derived.Test.YtkonohimafblcaaK2
namespace Go.Proofs.Ytkonohimafblcaa
open Go.RowKit
theorem stuckL_no {g : List Bs.T} (h : Bs.fine g = false) : Bs.stuckL g = [] := by unfold Bs.stuckL; rw [h]; rfl
theorem stuckL_yes {g : List Bs.T} (h : Bs.fine g = true) : Bs.stuckL g = Bs.pick g.length (fun i => !(Bs.top g).contains (i : Int)) := by unfold Bs.stuckL; rw [h]; rfl
end Go.Proofs.Ytkonohimafblcaa
namespace Go.Proofs.Ytkonohimafblcaa
open Go.RowKit
theorem OI.one (w : World) (B : Nat) (q : Int) (hB : B ≤ w.heap.size) : OI (w.alloc (.cells #[.int .i64 q] 3)) B (some ⟨w.heap.size, 0, none⟩) 1 [q] :=
  ⟨rfl, .inr ⟨w.heap.size, 1, _, rfl, hB, heap_alloc_new w _, by simp, by unfold maxLen; omega, rfl, rfl⟩⟩
set_option maxHeartbeats 1600000 in
theorem allNeedsS_any (A : Option Addr) (c : Nat) (g : List Bs.T) (z : Nat) (lo hi : Nat) (w : World) (h : RG w lo hi A g) (hh : hi ≤ w.heap.size) (hf : Bs.fine g = true) (hg : Bs.Full g) (hz : z < g.length) :
    Calls Try.prog 86 #[.slice A g.length c, .int .i64 z] w (RetI w (Bs.needs2 g z)) := by
  have h8 := Bs.fine_len hf
  have HF := Lib.hid hf
  have HG := Lib.hid hg
  clear hf hg
  have o0 := Lib.hid (OI.one w w.heap.size (z : Int) (Nat.le_refl _))
  have hb0 : Below w.heap.size w (w.alloc (.cells #[.int .i64 (z : Int)] 3)) := (Below.refl _ _).alloc (Nat.le_refl _) _
  go_enter Try.func86, Try.ntmps86
  go_wp2
  go_loopw [5, 6] (fun v i wr => ∃ (k : Nat) (A' : Option Addr) (c' : Nat) (seen : List Int), i = .int .i64 k ∧ v = .slice A' seen.length c' ∧ k ≤ seen.length ∧ OI wr w.heap.size A' c' seen ∧ Bs.Bfs g z seen k ∧ Below w.heap.size w wr) (fun _ i _ => g.length - (intOf i).toNat)
  case atStart => exact ⟨0, _, _, [(z : Int)], rfl, rfl, by simp, o0.out, Bs.Bfs.start hz, hb0⟩
  case round =>
    obtain ⟨k, A', c', seen, rfl, rfl, hks, ho, hbfs, hb⟩ := hrel
    have hsl := hbfs.dist.le
    have sr := hb.size
    by_cases hlt : k < seen.length
    · obtain ⟨b1, o1, rfl, _, _, hc1⟩ := ho.ri.at_ hlt
      have hr1 := hbfs.dist.2 _ (List.getElem_mem hlt)
      obtain ⟨v, hv⟩ : ∃ v : Nat, seen[k] = (v : Int) := ⟨seen[k].toNat, by omega⟩
      rw [hv] at hc1 hr1
      have hvl : v < g.length := by omega
      have hin := Bs.BfsIn.start hbfs (v := v) (by rw [List.getElem?_eq_getElem hlt, hv])
      obtain ⟨b, o, N, cN, rfl, h1, h2, _, q1, _, _, hlN, hcN, hN⟩ := h v hvl
      have q1 := (hb.cell (p := ⟨b, o + v * 4 + 1, none⟩) (by show b < _; omega)).trans q1
      have HIN := Lib.hid hin
      have HN := Lib.hid (Bs.need_eq hvl)
      clear hv hin hbfs hr1
      go_wp2
      go_loopw [5, 8] (fun v2 j wr => ∃ (p : Nat) (A' : Option Addr) (c' : Nat) (seen : List Int), j = .int .i64 p ∧ p ≤ g[v].needs.length ∧ v2 = .slice A' seen.length c' ∧ k < seen.length ∧ OI wr w.heap.size A' c' seen ∧ Bs.BfsIn g z seen k v p ∧ Below w.heap.size w wr) (fun _ j _ => g[v].needs.length - (intOf j).toNat)
      case atStart => exact ⟨0, _, _, seen, rfl, Nat.zero_le _, rfl, hlt, ho, HIN.out, hb⟩
      case round =>
        clear hc1 q1 ho hlt hsl HIN hb sr
        obtain ⟨p, A2, c2, seen2, rfl, hp, rfl, hks2, ho2, hin2, hb2⟩ := hrel
        have sr2 := hb2.size
        have hsl2 := hin2.bfs.dist.le
        have hN2 := hN.below hb2 hh
        have ri2 := ho2.ri
        have HI2 := Lib.hid hin2
        clear hin2
        by_cases hlt2 : p < g[v].needs.length
        · obtain ⟨b3, o3, rfl, _, _, hc3⟩ := hN2.at_ hlt2
          have c1 := isIn_any A2 c2 seen2 g[v].needs[p] _ _ _ ri2 (by omega)
          have hlt3 : p < (Bs.need g v).length := by rw [HN.out]; exact hlt2
          have hx : (Bs.need g v)[p] = g[v].needs[p] := by simp only [HN.out]
          have HX := Lib.hid hx
          clear hx
          cases hv : seen2.contains g[v].needs[p]
          · rw [hv] at c1
            have C1 := Lib.hid c1
            have HP := HI2.out.push HF.out hlt3 (by rw [HX.out]; intro hm; rw [List.contains_iff_mem.2 hm] at hv; cases hv)
            rw [HX.out] at HP
            have HP := Lib.hid HP
            clear c1 hv
            go_wp2_with (first | (go_at_call 71; refine (C1.out).mono ?_; rintro e w' ⟨rfl, rfl⟩) | (at_builtin; refine push_int rfl _ _ rfl w.heap.size A2 c2 seen2 g[v].needs[p] rfl (ho2.alloc _) (World.heap _).size 1 rfl (by simp [go_sem]) (by omega) (by simp; omega) ?_; intro A3 c3 w3 ho3 hb3 _))
            go_roundw
            case rel => exact ⟨p + 1, A3, c3, seen2 ++ [g[v].needs[p]], by go_num, by omega, by simp, by simp; omega, ho3, HP.out, (hb2.alloc sr2 _).trans hb3⟩
            case measure => simp [intOf]; omega
          · rw [hv] at c1
            have C1 := Lib.hid c1
            have HP := Lib.hid (HI2.out.skip hlt3 (by rw [HX.out]; exact List.contains_iff_mem.1 hv))
            clear c1 hv
            go_wp2_with (go_at_call 71; refine (C1.out).mono ?_; rintro e w' ⟨rfl, rfl⟩)
            go_roundw
            case rel => exact ⟨p + 1, A2, c2, seen2, by go_num, by omega, rfl, hks2, ho2, HP.out, hb2⟩
            case measure => simp [intOf]; omega
        · have HS := Lib.hid (HI2.out.stop (by rw [HN.out]; omega))
          go_wp2
          go_roundw
          case rel => exact ⟨k + 1, A2, c2, seen2, by go_num, rfl, by omega, ho2, HS.out, hb2⟩
          case measure => simp [intOf]; omega
    · obtain ⟨WO, rfl⟩ : ∃ WO, WO = wr := ⟨_, rfl⟩
      have HT := Lib.hid (fun j => hbfs.test HG.out (by omega) j)
      have q1 := ho.ri
      clear hbfs ho
      have o1 := Lib.hid (OI.new WO w.heap.size sr)
      go_wp2
      go_loopw [9, 10] (fun v2 j wr2 => ∃ (p : Nat) (A' : Option Addr) (c' : Nat), p ≤ g.length ∧ j = .int .i64 p ∧ v2 = .slice A' (Bs.pick p (Bs.reachB g z)).length c' ∧ OZ wr2 (WO.heap.size + 1) A' c' (Bs.pick p (Bs.reachB g z)) ∧ OI wr2 w.heap.size A' c' (Bs.pick p (Bs.reachB g z)) ∧ Below (WO.heap.size + 1) (WO.alloc (.cells #[] 3)) wr2) (fun _ j _ => g.length - (intOf j).toNat)
      case atStart => exact ⟨0, _, _, Nat.zero_le _, rfl, rfl, .inl ⟨rfl, rfl⟩, o1.out, Below.refl _ _⟩
      case round =>
        clear o1
        obtain ⟨p, A2, c2, hp, rfl, rfl, hz2, ho2, hb2⟩ := hrel
        have sr2 := hb2.size
        simp only [World.size_alloc] at sr2
        have q2 : RI _ w.heap.size WO.heap.size A' seen := ((q1.below ((Below.refl WO.heap.size WO).alloc (Nat.le_refl _) _) (Nat.le_refl _)).below hb2 (by omega))
        have hb02 : Below w.heap.size w _ := (hb.alloc sr _).trans (hb2.mono (by omega))
        by_cases hlt2 : p < g.length
        · have ht := HT.out p
          have c1 := isIn_any A' c' seen (p : Int) _ _ _ q2 (by omega)
          have hpl := Bs.pick_len p (Bs.reachB g z)
          by_cases hpz : (p : Int) = (z : Int)
          · have d1 : ((p : Int) != (z : Int)) = false := by simp [hpz]
            have HP := Lib.hid (Bs.pick_skip p (Bs.reachB g z) (by rw [← ht]; simp [hpz]))
            clear hpz c1 ht
            generalize hL : Bs.pick p (Bs.reachB g z) = L at *
            have HL := Lib.hid hL
            clear hL
            go_wp2
            go_roundw
            case rel => exact ⟨p + 1, A2, c2, by omega, by go_num, by rw [HP.out], by rw [HP.out]; exact hz2, by rw [HP.out]; exact ho2, hb2⟩
            case measure => simp [intOf]; omega
          · have d1 : ((p : Int) != (z : Int)) = true := by simpa using hpz
            cases hv : seen.contains (p : Int)
            · rw [hv] at c1
              have C1 := Lib.hid c1
              have HP := Lib.hid (Bs.pick_skip p (Bs.reachB g z) (by rw [← ht, hv]; simp))
              clear hpz c1 ht hv
              generalize hL : Bs.pick p (Bs.reachB g z) = L at *
              have HL := Lib.hid hL
              clear hL
              go_wp2_with (go_at_call 71; refine (C1.out).mono ?_; rintro e w' ⟨rfl, rfl⟩)
              go_roundw
              case rel => exact ⟨p + 1, A2, c2, by omega, by go_num, by rw [HP.out], by rw [HP.out]; exact hz2, by rw [HP.out]; exact ho2, hb2⟩
              case measure => simp [intOf]; omega
            · rw [hv] at c1
              have C1 := Lib.hid c1
              have HP := Lib.hid (Bs.pick_snoc p (Bs.reachB g z) (by rw [← ht, hv]; simpa using hpz))
              clear hpz c1 ht hv
              generalize hL : Bs.pick p (Bs.reachB g z) = L at *
              have HL := Lib.hid hL
              clear hL
              go_wp2_with (first | (go_at_call 71; refine (C1.out).mono ?_; rintro e w' ⟨rfl, rfl⟩) | (at_builtin; refine push_z rfl _ _ rfl (WO.heap.size + 1) A2 c2 L (p : Int) rfl (hz2.alloc _) (World.heap _).size 1 rfl (by simp [go_sem]) (by omega) (by simp; omega) ?_; intro A3 c3 w3 ho3 hb3))
              go_roundw
              case rel => exact ⟨p + 1, A3, c3, by omega, by go_num, by rw [HP.out, List.length_append]; rfl, .inr (by rw [HP.out]; exact ho3), by rw [HP.out]; exact ho3.base (by omega), (hb2.alloc (by omega) _).trans hb3⟩
              case measure => simp [intOf]; omega
        · obtain rfl : p = g.length := by omega
          go_wp2
          go_ret
          exact ⟨⟨A2, c2, rfl, ho2⟩, hb02⟩
end Go.Proofs.Ytkonohimafblcaa
namespace Go.Proofs.Ytkonohimafblcaa
open Go.RowKit
theorem needsA_no {g : List Bs.T} {z : Int} (h : Bs.valid g = false ∨ ¬ (0 ≤ z ∧ z < g.length)) : Bs.needsA g z = [] := by
  unfold Bs.needsA
  rw [if_neg]
  rintro ⟨h1, h2⟩
  rcases h with h | h
  · rw [h] at h1; cases h1
  · exact h h2
theorem needsA_yes {g : List Bs.T} {z : Nat} (h : Bs.valid g = true) (hz : z < g.length) : Bs.needsA g z = Bs.needs2 g z := by
  unfold Bs.needsA
  rw [if_pos ⟨h, by omega, by omega⟩, Int.toNat_natCast]
theorem listOf_any (s : Nat) (w : World) (hs : s < 256) :
    Calls Try.prog 63 #[.int .u64 s] w (RetI w (Bs.pick 8 (fun j => s.testBit j))) := by
  have o0 := Lib.hid (OI.new w w.heap.size (Nat.le_refl _))
  have hb0 : Below w.heap.size w (w.alloc (.cells #[] 3)) := (Below.refl _ _).alloc (Nat.le_refl _) _
  go_enter Try.func63, Try.ntmps63
  go_wp2
  go_loopw [3, 4] (fun v i wr => ∃ (k : Nat) (A' : Option Addr) (c' : Nat), k ≤ 8 ∧ i = .int .i64 k ∧ v = .slice A' (Bs.pick k (fun j => s.testBit j)).length c' ∧ OI wr w.heap.size A' c' (Bs.pick k (fun j => s.testBit j)) ∧ Below w.heap.size w wr) (fun _ i _ => 8 - (intOf i).toNat)
  case atStart => exact ⟨0, _, _, Nat.zero_le _, rfl, rfl, o0.out, hb0⟩
  case round =>
    obtain ⟨k, A', c', hk, rfl, rfl, ho, hb⟩ := hrel
    have sr := hb.size
    by_cases hlt : k < 8
    · have c3 := hasTask_any s k wr hs hlt
      have hpl := Bs.pick_len k (fun j => s.testBit j)
      cases hv : s.testBit k
      · rw [hv] at c3
        have C3 := Lib.hid c3
        have HP := Lib.hid (Bs.pick_skip k (fun j => s.testBit j) hv)
        clear c3 hv
        generalize hL : Bs.pick k (fun j => s.testBit j) = L at *
        have HL := Lib.hid hL
        clear hL
        go_wp2_with (go_at_call 89; refine (C3.out).mono ?_; rintro e w' ⟨rfl, rfl⟩)
        go_roundw
        case rel => exact ⟨k + 1, A', c', by omega, by go_num, by rw [HP.out], by rw [HP.out]; exact ho, hb⟩
        case measure => simp [intOf]; omega
      · rw [hv] at c3
        have C3 := Lib.hid c3
        have HP := Lib.hid (Bs.pick_snoc k (fun j => s.testBit j) hv)
        clear c3 hv
        generalize hL : Bs.pick k (fun j => s.testBit j) = L at *
        have HL := Lib.hid hL
        clear hL
        go_wp2_with (first | (go_at_call 89; refine (C3.out).mono ?_; rintro e w' ⟨rfl, rfl⟩) | (at_builtin; refine push_int rfl _ _ rfl w.heap.size A' c' L (k : Int) rfl (ho.alloc _) (World.heap _).size 1 rfl (by simp [go_sem]) (by omega) (by simp; omega) ?_; intro A3 c3 w3 ho3 hb3 _))
        go_roundw
        case rel => exact ⟨k + 1, A3, c3, by omega, by go_num, by rw [HP.out, List.length_append]; rfl, by rw [HP.out]; exact ho3, (hb.alloc sr _).trans hb3⟩
        case measure => simp [intOf]; omega
    · obtain rfl : k = 8 := by omega
      go_wp2
      go_ret
      exact ⟨⟨A', c', rfl, ho⟩, hb⟩
end Go.Proofs.Ytkonohimafblcaa
namespace Go.Proofs.Ytkonohimafblcaa
open Go.RowKit
theorem Try.infoSet : (Try.prog.info? 77).map (fun i => (i.zero, i.size, i.bytes)) = some (some (.int .u64 0), 1, 8) := by kernel_rfl
def setsA (ss : List Nat) : Array Value := (ss.map fun s : Nat => Value.int .u64 (s : Int)).toArray
theorem setsA_size (ss : List Nat) : (setsA ss).size = ss.length := by simp [setsA]
theorem setsA_set (ss : List Nat) (a v : Nat) : (setsA ss).setIfInBounds a (.int .u64 (v : Int)) = setsA (ss.set a v) := by
  unfold setsA
  rw [List.map_set, List.setIfInBounds_toArray]
theorem setsA_get {ss : List Nat} {a : Nat} (h : a < ss.length) : (setsA ss)[a]? = some (.int .u64 ((ss.getD a 0 : Nat) : Int)) := by
  simp [setsA, h]
theorem setsA_zero (n : Nat) : setsA (List.replicate n 0) = madeCells #[.int .u64 0] n := by
  apply Array.ext
  · simp [setsA, madeCells]
  · intro i h1 h2
    simp [setsA, madeCells]
    have : i % 1 = 0 := by omega
    rw [this]
    rfl
theorem usersA_no {g : List Bs.T} {z : Int} (h : Bs.valid g = false ∨ ¬ (0 ≤ z ∧ z < g.length)) : Bs.usersA g z = [] := by
  unfold Bs.usersA
  rw [if_neg]
  rintro ⟨h1, h2⟩
  rcases h with h | h
  · rw [h] at h1; cases h1
  · exact h h2
theorem usersA_yes {g : List Bs.T} {z : Nat} (h : Bs.valid g = true) (hz : z < g.length) : Bs.usersA g z = Bs.pick g.length (fun j => Bs.reachB g j z) := by
  unfold Bs.usersA
  rw [if_pos ⟨h, by omega, by omega⟩, Int.toNat_natCast]
  rfl
end Go.Proofs.Ytkonohimafblcaa
namespace Go.Proofs.Ytkonohimafblcaa
theorem AllNeeds_len (g : List Bs.T) (z : Int) : (Bs.needsA g z).length ≤ 1000 := by
  unfold Bs.needsA
  split
  · rename_i h
    have h1 := Bs.fine_len (valid_fine h.1)
    have h2 := Bs.needs2_len g z.toNat
    omega
  · simp
theorem AllUsers_len (g : List Bs.T) (z : Int) : (Bs.usersA g z).length ≤ 1000 := by
  unfold Bs.usersA
  split
  · rename_i h
    have h1 := Bs.fine_len (valid_fine h.1)
    have h2 := Bs.users2_len g z.toNat
    omega
  · simp
end Go.Proofs.Ytkonohimafblcaa
