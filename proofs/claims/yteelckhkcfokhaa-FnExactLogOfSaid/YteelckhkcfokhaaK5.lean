/-
  MERGED TEXTS: W10 W11 W12 W13 Len2.
-/
import Derived.Test.YteelckhkcfokhaaK1
import Derived.Test.YteelckhkcfokhaaK2
namespace Go.Proofs.Yteelckhkcfokhaa
open Go.RowKit
theorem stuckL_no {g : List Bs.T} (h : Bs.fine g = false) : Bs.stuckL g = [] := by unfold Bs.stuckL; rw [h]; rfl
theorem stuckL_yes {g : List Bs.T} (h : Bs.fine g = true) : Bs.stuckL g = Bs.pick g.length (fun i => !(Bs.top g).contains (i : Int)) := by unfold Bs.stuckL; rw [h]; rfl
end Go.Proofs.Yteelckhkcfokhaa
namespace Go.Proofs.Yteelckhkcfokhaa
open Go.RowKit
theorem OI.one (w : World) (B : Nat) (q : Int) (hB : B ≤ w.heap.size) : OI (w.alloc (.cells #[.int .i64 q] 3)) B (some ⟨w.heap.size, 0, none⟩) 1 [q] :=
  ⟨rfl, .inr ⟨w.heap.size, 1, _, rfl, hB, heap_alloc_new w _, by simp, by unfold maxLen; omega, rfl, rfl⟩⟩
set_option maxHeartbeats 1600000 in
theorem allNeedsS_any (A : Option Addr) (c : Nat) (g : List Bs.T) (z : Nat) (lo hi : Nat) (w : World) (h : RG w lo hi A g) (hh : hi ≤ w.heap.size) (hf : Bs.fine g = true) (hg : Bs.Full g) (hz : z < g.length) :
    Calls Try.prog 99 #[.slice A g.length c, .int .i64 z] w (RetI w (Bs.needs2 g z)) := by
  have h8 := Bs.fine_len hf
  have HF := Lib.hid hf
  have HG := Lib.hid hg
  clear hf hg
  have o0 := Lib.hid (OI.one w w.heap.size (z : Int) (Nat.le_refl _))
  have hb0 : Below w.heap.size w (w.alloc (.cells #[.int .i64 (z : Int)] 3)) := (Below.refl _ _).alloc (Nat.le_refl _) _
  go_enter Try.func99, Try.ntmps99
  go_wp2
  go_loopw [5, 6] (fun v i wr => ∃ (k : Nat) (A' : Option Addr) (c' : Nat) (seen : List Int), i = .int .i64 k ∧ v = .slice A' seen.length c' ∧ k ≤ seen.length ∧ OI wr w.heap.size A' c' seen ∧ Bs.Bfs g z seen k ∧ Below w.heap.size w wr) (fun _ i _ => g.length - (intOf i).toNat)
  case atStart => exact ⟨0, _, _, [(z : Int)], rfl, rfl, by simp, o0.out, Bs.Bfs.start hz, hb0⟩
  case round =>
    obtain ⟨k, A', c', seen, rfl, rfl, hks, ho, hbfs, hb⟩ := hrel
    have hsl := hbfs.dist.le
    have sr := hb.size
    by_cases hlt : k < seen.length
    · obtain ⟨b1, o1, rfl, _, _, hc1⟩ := ho.ri.at_ hlt
      have hr1 := hbfs.dist.2 _ (List.getElem_mem hlt)
      obtain ⟨v, hv⟩ : ∃ v : Nat, seen[k] = (v : Int) := ⟨seen[k].toNat, by omega⟩
      rw [hv] at hc1 hr1
      have hvl : v < g.length := by omega
      have hin := Bs.BfsIn.start hbfs (v := v) (by rw [List.getElem?_eq_getElem hlt, hv])
      obtain ⟨b, o, N, cN, rfl, h1, h2, _, q1, _, _, hlN, hcN, hN⟩ := h v hvl
      have q1 := (hb.cell (p := ⟨b, o + v * 4 + 1, none⟩) (by show b < _; omega)).trans q1
      have HIN := Lib.hid hin
      have HN := Lib.hid (Bs.need_eq hvl)
      clear hv hin hbfs hr1
      go_wp2
      go_loopw [5, 8] (fun v2 j wr => ∃ (p : Nat) (A' : Option Addr) (c' : Nat) (seen : List Int), j = .int .i64 p ∧ p ≤ g[v].needs.length ∧ v2 = .slice A' seen.length c' ∧ k < seen.length ∧ OI wr w.heap.size A' c' seen ∧ Bs.BfsIn g z seen k v p ∧ Below w.heap.size w wr) (fun _ j _ => g[v].needs.length - (intOf j).toNat)
      case atStart => exact ⟨0, _, _, seen, rfl, Nat.zero_le _, rfl, hlt, ho, HIN.out, hb⟩
      case round =>
        clear hc1 q1 ho hlt hsl HIN hb sr
        obtain ⟨p, A2, c2, seen2, rfl, hp, rfl, hks2, ho2, hin2, hb2⟩ := hrel
        have sr2 := hb2.size
        have hsl2 := hin2.bfs.dist.le
        have hN2 := hN.below hb2 hh
        have ri2 := ho2.ri
        have HI2 := Lib.hid hin2
        clear hin2
        by_cases hlt2 : p < g[v].needs.length
        · obtain ⟨b3, o3, rfl, _, _, hc3⟩ := hN2.at_ hlt2
          have c1 := isIn_any A2 c2 seen2 g[v].needs[p] _ _ _ ri2 (by omega)
          have hlt3 : p < (Bs.need g v).length := by rw [HN.out]; exact hlt2
          have hx : (Bs.need g v)[p] = g[v].needs[p] := by simp only [HN.out]
          have HX := Lib.hid hx
          clear hx
          cases hv : seen2.contains g[v].needs[p]
          · rw [hv] at c1
            have C1 := Lib.hid c1
            have HP := HI2.out.push HF.out hlt3 (by rw [HX.out]; intro hm; rw [List.contains_iff_mem.2 hm] at hv; cases hv)
            rw [HX.out] at HP
            have HP := Lib.hid HP
            clear c1 hv
            go_wp2_with (first | (go_at_call 98; refine (C1.out).mono ?_; rintro e w' ⟨rfl, rfl⟩) | (at_builtin; refine push_int rfl _ _ rfl w.heap.size A2 c2 seen2 g[v].needs[p] rfl (ho2.alloc _) (World.heap _).size 1 rfl (by simp [go_sem]) (by omega) (by simp; omega) ?_; intro A3 c3 w3 ho3 hb3 _))
            go_roundw
            case rel => exact ⟨p + 1, A3, c3, seen2 ++ [g[v].needs[p]], by go_num, by omega, by simp, by simp; omega, ho3, HP.out, (hb2.alloc sr2 _).trans hb3⟩
            case measure => simp [intOf]; omega
          · rw [hv] at c1
            have C1 := Lib.hid c1
            have HP := Lib.hid (HI2.out.skip hlt3 (by rw [HX.out]; exact List.contains_iff_mem.1 hv))
            clear c1 hv
            go_wp2_with (go_at_call 98; refine (C1.out).mono ?_; rintro e w' ⟨rfl, rfl⟩)
            go_roundw
            case rel => exact ⟨p + 1, A2, c2, seen2, by go_num, by omega, rfl, hks2, ho2, HP.out, hb2⟩
            case measure => simp [intOf]; omega
        · have HS := Lib.hid (HI2.out.stop (by rw [HN.out]; omega))
          go_wp2
          go_roundw
          case rel => exact ⟨k + 1, A2, c2, seen2, by go_num, rfl, by omega, ho2, HS.out, hb2⟩
          case measure => simp [intOf]; omega
    · obtain ⟨WO, rfl⟩ : ∃ WO, WO = wr := ⟨_, rfl⟩
      have HT := Lib.hid (fun j => hbfs.test HG.out (by omega) j)
      have q1 := ho.ri
      clear hbfs ho
      have o1 := Lib.hid (OI.new WO w.heap.size sr)
      go_wp2
      go_loopw [9, 10] (fun v2 j wr2 => ∃ (p : Nat) (A' : Option Addr) (c' : Nat), p ≤ g.length ∧ j = .int .i64 p ∧ v2 = .slice A' (Bs.pick p (Bs.reachB g z)).length c' ∧ OZ wr2 (WO.heap.size + 1) A' c' (Bs.pick p (Bs.reachB g z)) ∧ OI wr2 w.heap.size A' c' (Bs.pick p (Bs.reachB g z)) ∧ Below (WO.heap.size + 1) (WO.alloc (.cells #[] 3)) wr2) (fun _ j _ => g.length - (intOf j).toNat)
      case atStart => exact ⟨0, _, _, Nat.zero_le _, rfl, rfl, .inl ⟨rfl, rfl⟩, o1.out, Below.refl _ _⟩
      case round =>
        clear o1
        obtain ⟨p, A2, c2, hp, rfl, rfl, hz2, ho2, hb2⟩ := hrel
        have sr2 := hb2.size
        simp only [World.size_alloc] at sr2
        have q2 : RI _ w.heap.size WO.heap.size A' seen := ((q1.below ((Below.refl WO.heap.size WO).alloc (Nat.le_refl _) _) (Nat.le_refl _)).below hb2 (by omega))
        have hb02 : Below w.heap.size w _ := (hb.alloc sr _).trans (hb2.mono (by omega))
        by_cases hlt2 : p < g.length
        · have ht := HT.out p
          have c1 := isIn_any A' c' seen (p : Int) _ _ _ q2 (by omega)
          have hpl := Bs.pick_len p (Bs.reachB g z)
          by_cases hpz : (p : Int) = (z : Int)
          · have d1 : ((p : Int) != (z : Int)) = false := by simp [hpz]
            have HP := Lib.hid (Bs.pick_skip p (Bs.reachB g z) (by rw [← ht]; simp [hpz]))
            clear hpz c1 ht
            generalize hL : Bs.pick p (Bs.reachB g z) = L at *
            have HL := Lib.hid hL
            clear hL
            go_wp2
            go_roundw
            case rel => exact ⟨p + 1, A2, c2, by omega, by go_num, by rw [HP.out], by rw [HP.out]; exact hz2, by rw [HP.out]; exact ho2, hb2⟩
            case measure => simp [intOf]; omega
          · have d1 : ((p : Int) != (z : Int)) = true := by simpa using hpz
            cases hv : seen.contains (p : Int)
            · rw [hv] at c1
              have C1 := Lib.hid c1
              have HP := Lib.hid (Bs.pick_skip p (Bs.reachB g z) (by rw [← ht, hv]; simp))
              clear hpz c1 ht hv
              generalize hL : Bs.pick p (Bs.reachB g z) = L at *
              have HL := Lib.hid hL
              clear hL
              go_wp2_with (go_at_call 98; refine (C1.out).mono ?_; rintro e w' ⟨rfl, rfl⟩)
              go_roundw
              case rel => exact ⟨p + 1, A2, c2, by omega, by go_num, by rw [HP.out], by rw [HP.out]; exact hz2, by rw [HP.out]; exact ho2, hb2⟩
              case measure => simp [intOf]; omega
            · rw [hv] at c1
              have C1 := Lib.hid c1
              have HP := Lib.hid (Bs.pick_snoc p (Bs.reachB g z) (by rw [← ht, hv]; simpa using hpz))
              clear hpz c1 ht hv
              generalize hL : Bs.pick p (Bs.reachB g z) = L at *
              have HL := Lib.hid hL
              clear hL
              go_wp2_with (first | (go_at_call 98; refine (C1.out).mono ?_; rintro e w' ⟨rfl, rfl⟩) | (at_builtin; refine push_z rfl _ _ rfl (WO.heap.size + 1) A2 c2 L (p : Int) rfl (hz2.alloc _) (World.heap _).size 1 rfl (by simp [go_sem]) (by omega) (by simp; omega) ?_; intro A3 c3 w3 ho3 hb3))
              go_roundw
              case rel => exact ⟨p + 1, A3, c3, by omega, by go_num, by rw [HP.out, List.length_append]; rfl, .inr (by rw [HP.out]; exact ho3), by rw [HP.out]; exact ho3.base (by omega), (hb2.alloc (by omega) _).trans hb3⟩
              case measure => simp [intOf]; omega
        · obtain rfl : p = g.length := by omega
          go_wp2
          go_ret
          exact ⟨⟨A2, c2, rfl, ho2⟩, hb02⟩
end Go.Proofs.Yteelckhkcfokhaa
namespace Go.Proofs.Yteelckhkcfokhaa
open Go.RowKit
theorem needsA_no {g : List Bs.T} {z : Int} (h : Bs.valid g = false ∨ ¬ (0 ≤ z ∧ z < g.length)) : Bs.needsA g z = [] := by
  unfold Bs.needsA
  rw [if_neg]
  rintro ⟨h1, h2⟩
  rcases h with h | h
  · rw [h] at h1; cases h1
  · exact h h2
theorem needsA_yes {g : List Bs.T} {z : Nat} (h : Bs.valid g = true) (hz : z < g.length) : Bs.needsA g z = Bs.needs2 g z := by
  unfold Bs.needsA
  rw [if_pos ⟨h, by omega, by omega⟩, Int.toNat_natCast]
theorem listOf_any (s : Nat) (w : World) (hs : s < 256) :
    Calls Try.prog 62 #[.int .u64 s] w (RetI w (Bs.pick 8 (fun j => s.testBit j))) := by
  have o0 := Lib.hid (OI.new w w.heap.size (Nat.le_refl _))
  have hb0 : Below w.heap.size w (w.alloc (.cells #[] 3)) := (Below.refl _ _).alloc (Nat.le_refl _) _
  go_enter Try.func62, Try.ntmps62
  go_wp2
  go_loopw [3, 4] (fun v i wr => ∃ (k : Nat) (A' : Option Addr) (c' : Nat), k ≤ 8 ∧ i = .int .i64 k ∧ v = .slice A' (Bs.pick k (fun j => s.testBit j)).length c' ∧ OI wr w.heap.size A' c' (Bs.pick k (fun j => s.testBit j)) ∧ Below w.heap.size w wr) (fun _ i _ => 8 - (intOf i).toNat)
  case atStart => exact ⟨0, _, _, Nat.zero_le _, rfl, rfl, o0.out, hb0⟩
  case round =>
    obtain ⟨k, A', c', hk, rfl, rfl, ho, hb⟩ := hrel
    have sr := hb.size
    by_cases hlt : k < 8
    · have c3 := hasTask_any s k wr hs hlt
      have hpl := Bs.pick_len k (fun j => s.testBit j)
      cases hv : s.testBit k
      · rw [hv] at c3
        have C3 := Lib.hid c3
        have HP := Lib.hid (Bs.pick_skip k (fun j => s.testBit j) hv)
        clear c3 hv
        generalize hL : Bs.pick k (fun j => s.testBit j) = L at *
        have HL := Lib.hid hL
        clear hL
        go_wp2_with (go_at_call 97; refine (C3.out).mono ?_; rintro e w' ⟨rfl, rfl⟩)
        go_roundw
        case rel => exact ⟨k + 1, A', c', by omega, by go_num, by rw [HP.out], by rw [HP.out]; exact ho, hb⟩
        case measure => simp [intOf]; omega
      · rw [hv] at c3
        have C3 := Lib.hid c3
        have HP := Lib.hid (Bs.pick_snoc k (fun j => s.testBit j) hv)
        clear c3 hv
        generalize hL : Bs.pick k (fun j => s.testBit j) = L at *
        have HL := Lib.hid hL
        clear hL
        go_wp2_with (first | (go_at_call 97; refine (C3.out).mono ?_; rintro e w' ⟨rfl, rfl⟩) | (at_builtin; refine push_int rfl _ _ rfl w.heap.size A' c' L (k : Int) rfl (ho.alloc _) (World.heap _).size 1 rfl (by simp [go_sem]) (by omega) (by simp; omega) ?_; intro A3 c3 w3 ho3 hb3 _))
        go_roundw
        case rel => exact ⟨k + 1, A3, c3, by omega, by go_num, by rw [HP.out, List.length_append]; rfl, by rw [HP.out]; exact ho3, (hb.alloc sr _).trans hb3⟩
        case measure => simp [intOf]; omega
    · obtain rfl : k = 8 := by omega
      go_wp2
      go_ret
      exact ⟨⟨A', c', rfl, ho⟩, hb⟩
end Go.Proofs.Yteelckhkcfokhaa
namespace Go.Proofs.Yteelckhkcfokhaa
open Go.RowKit
theorem Try.infoSet : (Try.prog.info? 67).map (fun i => (i.zero, i.size, i.bytes)) = some (some (.int .u64 0), 1, 8) := by kernel_rfl
def setsA (ss : List Nat) : Array Value := (ss.map fun s : Nat => Value.int .u64 (s : Int)).toArray
theorem setsA_size (ss : List Nat) : (setsA ss).size = ss.length := by simp [setsA]
theorem setsA_set (ss : List Nat) (a v : Nat) : (setsA ss).setIfInBounds a (.int .u64 (v : Int)) = setsA (ss.set a v) := by
  unfold setsA
  rw [List.map_set, List.setIfInBounds_toArray]
theorem setsA_get {ss : List Nat} {a : Nat} (h : a < ss.length) : (setsA ss)[a]? = some (.int .u64 ((ss.getD a 0 : Nat) : Int)) := by
  simp [setsA, h]
theorem setsA_zero (n : Nat) : setsA (List.replicate n 0) = madeCells #[.int .u64 0] n := by
  apply Array.ext
  · simp [setsA, madeCells]
  · intro i h1 h2
    simp [setsA, madeCells]
    have : i % 1 = 0 := by omega
    rw [this]
    rfl
set_option maxHeartbeats 1600000 in
theorem allNeedSets_any (A : Option Addr) (c : Nat) (g : List Bs.T) (lo hi : Nat) (w : World) (h : RG w lo hi A g) (hh : hi ≤ w.heap.size) (hf : Bs.fine g = true) :
    Calls Try.prog 65 #[.slice A g.length c] w fun e w' => e = .returned (.slice (some ⟨w.heap.size, 0, none⟩) g.length g.length) ∧ (∃ ss, Blk w' w.heap.size 67 (setsA ss) ∧ Bs.SetsMid g (Bs.top g).length ss) ∧ Below w.heap.size w w' := by
  have h8 := Bs.fine_len hf
  obtain ⟨i0, hi0, hz0, hz1, hz2⟩ := info_parts Try.infoSet
  have hmk : ∀ u : World, (Instr.makeSlice 72 (.int .i64 (g.length : Int)) (.int .i64 (g.length : Int))).run Try.prog u =
      .ok (.slice (some ⟨u.heap.size, 0, none⟩) g.length g.length) (u.alloc (.cells (setsA (List.replicate g.length 0)) 67)) := fun u => by
    have h := run_make (P := Try.prog) u 72 67 i0 (.int .u64 0) Try.underlying72 hi0 hz0 .i64 .i64 (g.length : Int) (g.length : Int) (by omega) (Int.le_refl _) (by rw [hz2]; omega) (by omega)
    rw [setsA_zero]
    simpa [hz1, Value.cells] using h
  have hb0 : Below w.heap.size w (w.alloc (.cells (setsA (List.replicate g.length 0)) 67)) := (Below.refl _ _).alloc (Nat.le_refl _) _
  have B0 := Lib.hid (Blk.new w 67 (setsA (List.replicate g.length 0)))
  have C2 := Lib.hid (fun W (hb : Below w.heap.size w W) => possibleOrder_ret A c g lo hi W (h.below hb hh) (Nat.le_trans hh hb.size) hf)
  have HF := Lib.hid hf
  have hdl := (Bs.top_dist g).le
  clear hf
  generalize (.cells (setsA (List.replicate g.length 0)) 67 : Obj) = ob at *
  go_enter Try.func65, Try.ntmps65
  go_wp2_with fail
  refine (C2.out _ hb0).mono ?_; rintro e w2 ⟨⟨A2, c2, rfl, ho2⟩, hb2⟩
  have s2 := hb2.size
  simp only [World.size_alloc] at s2
  have hb02 := hb0.trans (hb2.mono hb0.size)
  have q2 := ho2.ri
  simp only [World.size_alloc] at q2
  have B2 := Lib.hid (B0.out.below hb2 (by simp))
  clear ho2 B0
  go_wp2
  go_loopw [15] (fun i wr => ∃ (k : Nat) (ss : List Nat), k ≤ (Bs.top g).length ∧ i = .int .i64 k ∧ Blk wr w.heap.size 67 (setsA ss) ∧ Bs.SetsMid g k ss ∧ RI wr (w.heap.size + 1) w2.heap.size A2 (Bs.top g) ∧ Below w.heap.size w wr ∧ w2.heap.size ≤ wr.heap.size) (fun i _ => (Bs.top g).length - (intOf i).toNat)
  case atStart => exact ⟨0, _, Nat.zero_le _, rfl, B2.out, Bs.SetsMid.start g, q2, hb02, Nat.le_refl _⟩
  case round =>
    obtain ⟨k, ss, hk, rfl, hB, hS, hq, hb, sr⟩ := hrel
    have hsl := hS.len
    by_cases hlt : k < (Bs.top g).length
    · obtain ⟨b1, o1, rfl, _, _, hc1⟩ := hq.at_ hlt
      have hr1 := Bs.top_range hlt
      obtain ⟨v, hv⟩ : ∃ v : Nat, (Bs.top g)[k] = (v : Int) := ⟨(Bs.top g)[k].toNat, by omega⟩
      have hst := hS.step HF.out hlt
      rw [hv, Int.toNat_natCast] at hst
      rw [hv] at hc1 hr1
      have hvl : v < g.length := by omega
      rw [Bs.need_eq hvl] at hst
      have HN := Lib.hid (Bs.need_eq hvl)
      have HST := Lib.hid hst
      obtain ⟨b, o, N, cN, rfl, h1, h2, _, q1, _, _, hlN, hcN, hN⟩ := (h.below hb hh) v hvl
      have n8 := Lib.hid (Bs.need_eight HF.out hvl)
      have C3 := Lib.hid (setOf_any N cN g[v].needs _ _ wr hN (by omega) n8.out)
      have J0 := Lib.hid (show Bs.bits g[v].needs = Bs.joined g ss v 0 from by rw [Bs.joined_zero, HN.out])
      clear hv hst hr1
      go_wp2_with (go_at_call 67; refine (C3.out).mono ?_; rintro e w' ⟨rfl, rfl⟩)
      go_loop [6, 31] (fun s j => ∃ p : Nat, p ≤ g[v].needs.length ∧ j = .int .i64 p ∧ s = .int .u64 (Bs.joined g ss v p : Nat)) (fun _ j => g[v].needs.length - (intOf j).toNat)
      case atStart => exact ⟨0, Nat.zero_le _, rfl, by rw [J0.out]⟩
      case round =>
        obtain ⟨p, hp, rfl, rfl⟩ := hrel
        by_cases hlt2 : p < g[v].needs.length
        · obtain ⟨b3, o3, rfl, _, _, hc3⟩ := hN.at_ hlt2
          have hx8 := n8.out _ (List.getElem_mem hlt2)
          obtain ⟨x, hx⟩ : ∃ x : Nat, g[v].needs[p] = (x : Int) := ⟨g[v].needs[p].toNat, by omega⟩
          have hxl := Bs.fine_need HF.out (i := v) (x := g[v].needs[p]) (by rw [HN.out]; exact List.getElem_mem hlt2)
          have hpl : p < (Bs.need g v).length := by rw [HN.out]; exact hlt2
          have hJ := Bs.joined_succ g ss v p hpl
          have he : (Bs.need g v)[p] = (x : Int) := by simp only [HN.out]; exact hx
          rw [he, Int.toNat_natCast] at hJ
          rw [hx] at hc3 hxl
          have hxg : x < g.length := by omega
          have hcx := (hB.cell x).trans (setsA_get (show x < ss.length by omega))
          have hlt3 := hS.lt x hxg
          have hjl := Bs.joined_lt (g := g) (ss := ss) (a := v) HF.out hS.lt p
          have HJ := Lib.hid hJ
          have HO := Lib.hid (bits_or_u64_nat (Bs.joined g ss v p) (ss.getD x 0) (by omega) (by omega))
          clear hx hx8 he hJ hxl
          generalize Bs.joined g ss v p = jn at *
          generalize ss.getD x 0 = sx at *
          go_wp2
          go_round
          case rel => exact ⟨p + 1, by omega, by go_num, by rw [HJ.out, HO.out]⟩
          case measure => simp [intOf]; omega
        · obtain rfl : p = g[v].needs.length := by omega
          have hcv := (hB.cell v).trans (setsA_get (show v < ss.length by omega))
          have hfz := hB.frozen v
          go_wp2
          go_roundw
          case rel => exact ⟨k + 1, _, by omega, by go_num, by rw [← setsA_set]; exact hB.set_ _ _, HST.out, hq.set_far (.inl (by simp)) _, hb.setCell (by simp) _, by simpa [World.setCell] using sr⟩
          case measure => simp [intOf]; omega
    · obtain rfl : k = (Bs.top g).length := by omega
      go_wp2
      go_ret
      exact ⟨rfl, ⟨ss, hB, hS⟩, hb⟩

theorem usersA_no {g : List Bs.T} {z : Int} (h : Bs.valid g = false ∨ ¬ (0 ≤ z ∧ z < g.length)) : Bs.usersA g z = [] := by
  unfold Bs.usersA
  rw [if_neg]
  rintro ⟨h1, h2⟩
  rcases h with h | h
  · rw [h] at h1; cases h1
  · exact h h2
theorem usersA_yes {g : List Bs.T} {z : Nat} (h : Bs.valid g = true) (hz : z < g.length) : Bs.usersA g z = Bs.pick g.length (fun j => Bs.reachB g j z) := by
  unfold Bs.usersA
  rw [if_pos ⟨h, by omega, by omega⟩, Int.toNat_natCast]
  rfl
end Go.Proofs.Yteelckhkcfokhaa
namespace Go.Proofs.Yteelckhkcfokhaa
theorem AllNeeds_len (g : List Bs.T) (z : Int) : (Bs.needsA g z).length ≤ 1000 := by
  unfold Bs.needsA
  split
  · rename_i h
    have h1 := Bs.fine_len (valid_fine h.1)
    have h2 := Bs.needs2_len g z.toNat
    omega
  · simp
theorem AllUsers_len (g : List Bs.T) (z : Int) : (Bs.usersA g z).length ≤ 1000 := by
  unfold Bs.usersA
  split
  · rename_i h
    have h1 := Bs.fine_len (valid_fine h.1)
    have h2 := Bs.users2_len g z.toNat
    omega
  · simp
end Go.Proofs.Yteelckhkcfokhaa
