/-
  WALKS: how many orders there are, of the program.
-/
import Derived.Test.YtoaakidapgbhhaaK7
import Derived.Test.YtoaakidapgbhhaaK20
namespace Go.Proofs.Ytoaakidapgbhhaa
open Go.RowKit
theorem canFollow_any (A : Option Addr) (c : Nat) (g : List Bs.T) (l : List Int) (v : Nat) (lo hi : Nat) (w : World) (h : RG w lo hi A g) (hF : Bs.fine g = true) (hl : ∀ x ∈ l, 0 ≤ x ∧ x < 8) (hv : v < g.length) :
    Calls Try.prog 69 #[.slice A g.length c, .int .u64 (Bs.bits l : Nat), .int .i64 (v : Int)] w fun e w' => e = .returned (.bool (Bs.okNext g l v)) ∧ w = w' := by
  have hgl := Bs.fine_len hF
  have hd8 := Bs.bits_lt l hl
  have hn8 := Bs.need_eight hF hv
  have ht : (Bs.bits l).testBit v = l.contains (v : Int) := Bs.bits_test l (fun x hx => (hl x hx).1) v
  have hbs : (bits .andNot .u64 ((Bs.bits g[v].needs : Nat) : Int) ((Bs.bits l : Nat) : Int) == 0) = (g[v].needs.all fun x => l.contains x) := by
    have h1 := Bs.bits_lt _ hn8
    rw [u64_andNot_nat _ _ (by omega) (by omega), Bool.eq_iff_iff, ← Bs.bits_sub _ l hn8 hl]
    simp only [beq_iff_eq]
    omega
  have hok := Bs.okNext_eq (g := g) (out := l) hv
  obtain ⟨b, o, N, cN, rfl, h1, h2, q0, q1, q2, q3, hlN, hcN, hN⟩ := h v hv
  have c1 := fun w' => hasTask_any (Bs.bits l) v w' hd8 (by omega)
  have c2 := setOf_any N cN g[v].needs lo hi w hN (by omega) hn8
  rw [ht] at c1
  have i0 : (0 : Int) ≤ (v : Int) := by omega
  have i1 : (v : Int) < (g.length : Int) := by omega
  generalize Bs.okNext g l v = ok at *
  generalize l.contains (v : Int) = b1 at *
  generalize (g[v].needs.all fun x => l.contains x) = b2 at *
  generalize Bs.bits g[v].needs = s at *
  generalize Bs.bits l = d at *
  have C1 := Lib.hid c1
  have C2 := Lib.hid c2
  have HO := Lib.hid hok
  clear c1 c2 hok hN ht
  cases b1
  · go_enter Try.func69, Try.ntmps69
    go_wp2_with fail
    with_reducible refine (C1.out _).mono ?_
    rintro e w2 ⟨rfl, rfl⟩
    go_wp2_with fail
    with_reducible refine (C2.out).mono ?_
    rintro e w2 ⟨rfl, rfl⟩
    go_wp2
    go_ret
    exact ⟨ret_bool (by rw [HO.out]; first | rfl | exact hbs | simp [hbs]), rfl⟩
  · go_enter Try.func69, Try.ntmps69
    go_wp2_with fail
    with_reducible refine (C1.out _).mono ?_
    rintro e w2 ⟨rfl, rfl⟩
    go_wp2
    go_ret
    exact ⟨ret_bool (by rw [HO.out]; rfl), rfl⟩
set_option maxHeartbeats 800000 in
theorem countFrom_any (A : Option Addr) (c : Nat) (g : List Bs.T) (lo hi : Nat) (hF : Bs.fine g = true) : ∀ (r : Nat), r ≤ 8 → ∀ (l : List Int), (∀ x ∈ l, 0 ≤ x ∧ x < 8) → ∀ (w : World), RG w lo hi A g →
    Calls Try.prog 56 #[.slice A g.length c, .int .u64 (Bs.bits l : Nat), .int .i64 (r : Int)] w fun e w' => e = .returned (.int .i64 ((Bs.ordsF g r l).length : Nat)) ∧ w = w' := by
  have hgl := Bs.fine_len hF
  intro r
  induction r with
  | zero =>
    intro _ l hl w h
    have hz : (((0 : Nat) : Int) == 0) = true := by simp
    generalize Bs.bits l = d at *
    have HE := Lib.hid (show (Bs.ordsF g 0 l).length = 1 from rfl)
    go_enter Try.func56, Try.ntmps56
    go_wp2
    go_ret
    exact ⟨ret_int (by rw [HE.out]; rfl), rfl⟩
  | succ r ih =>
    intro hr l hl w h
    have hz : (((r + 1 : Nat) : Int) == 0) = false := by rw [beq_eq_false_iff_ne]; omega
    have hz2 : ((r : Int) + 1 == 0) = false := by rw [beq_eq_false_iff_ne]; omega
    have hcast : ((r + 1 : Nat) : Int) = (r : Int) + 1 := by omega
    have hwr : IntKind.i64.wrap ((r : Int) + 1 - 1) = (r : Int) := by rw [show (r : Int) + 1 - 1 = (r : Int) from by omega]; exact IntWalk.i64_in _ ⟨by omega, by omega⟩
    have hd8 := Bs.bits_lt l hl
    have C1 := Lib.hid (fun (v : Nat) (hv : v < g.length) => canFollow_any A c g l v lo hi w h hF hl hv)
    have C2 := Lib.hid (fun (v : Nat) (hv : v < g.length) => ih (by omega) (l ++ [(v : Int)]) (fun x hx => by
      rw [List.mem_append, List.mem_singleton] at hx
      rcases hx with hx | rfl
      · exact hl x hx
      · omega) w h)
    have HB := Lib.hid (fun v : Nat => Bs.bits_snoc l (v : Int))
    have HL := Lib.hid (fun l => Bs.ords_b (g := g) hgl (r := r) (by omega) l)
    have HK := Lib.hid (Bs.ordsK_succ g r l)
    have HE := Lib.hid (Bs.ordsF_succ g r l)
    clear ih hl h
    rw [hcast]
    generalize hD : Bs.bits l = d at *
    have HD := Lib.hid hD
    clear hD
    go_enter Try.func56, Try.ntmps56
    go_wp2
    go_loop [7, 13] (fun s i => ∃ (k : Nat) (t : Nat), k ≤ g.length ∧ s = .int .i64 (t : Int) ∧ i = .int .i64 k ∧ t = (Bs.ordsK g r l k).length) (fun _ i => g.length - (intOf i).toNat)
    case atStart => exact ⟨0, 0, Nat.zero_le _, rfl, rfl, rfl⟩
    case round =>
      obtain ⟨k, t, hk, rfl, rfl, ht⟩ := hrel
      by_cases hlt : k < g.length
      · have c1 := C1.out k hlt
        have hks := HK.out k
        have htb := (HL.out l).2 k hk
        rw [← ht] at htb
        have hks2 : (Bs.ordsK g r l (k + 1)).length = t + (if Bs.okNext g l k then Bs.ordsF g r (l ++ [(k : Int)]) else []).length := by rw [hks, List.length_append, ← ht]
        have HT := Lib.hid ht
        clear hks ht
        cases hq : Bs.okNext g l k
        · rw [hq] at c1 hks2
          have C3 := Lib.hid c1
          have HS := Lib.hid (show t = (Bs.ordsK g r l (k + 1)).length from by rw [hks2]; simp)
          clear c1 hks2 hq
          go_wp2_with fail
          with_reducible refine (C3.out).mono ?_
          rintro e w2 ⟨rfl, rfl⟩
          go_wp2
          go_round
          case rel => exact ⟨k + 1, t, by omega, rfl, by go_num, HS.out⟩
          case measure => simp [intOf]; omega
        · rw [hq] at c1 hks2
          simp only [if_true] at hks2
          have C3 := Lib.hid c1
          have c4 := C2.out k hlt
          have hbn := HB.out k
          rw [Int.toNat_natCast] at hbn
          have hor := or_pow d k hd8 (by omega)
          rw [hbn, ← hor] at c4
          have hob := (HL.out (l ++ [(k : Int)])).1
          generalize (Bs.ordsF g r (l ++ [(k : Int)])).length = y at *
          have C4 := Lib.hid c4
          have HS := Lib.hid (show t + y = (Bs.ordsK g r l (k + 1)).length from by rw [hks2])
          have hw1 : IntKind.i64.wrap ((t : Int) + (y : Int)) = ((t + y : Nat) : Int) := by rw [show (t : Int) + (y : Int) = ((t + y : Nat) : Int) from by omega]; exact IntWalk.i64_in _ ⟨by omega, by omega⟩
          clear c1 c4 hks2 hq hbn hor
          go_wp2_with fail
          with_reducible refine (C3.out).mono ?_
          rintro e w2 ⟨rfl, rfl⟩
          go_wp2_with fail
          with_reducible refine (C4.out).mono ?_
          rintro e w2 ⟨rfl, rfl⟩
          go_wp2
          go_round
          case rel => exact ⟨k + 1, t + y, by omega, by first | rfl | rw [hw1] | (congr 1), by go_num, HS.out⟩
          case measure => simp [intOf]; omega
      · obtain rfl : k = g.length := by omega
        have HQ := Lib.hid ht
        clear ht
        go_wp2
        go_ret
        exact ⟨ret_int (by rw [HE.out, HQ.out]), rfl⟩
theorem CountOrders_any (A : Option Addr) (c : Nat) (g : List Bs.T) (lo hi : Nat) (w : World) (h : RG w lo hi A g) (hh : hi ≤ w.heap.size) (hl : g.length ≤ 9223372036854775807) :
    Calls Try.prog 36 #[.slice A g.length c] w fun e w' => e = .returned (.int .i64 (Bs.cntC g)) ∧ Below w.heap.size w w' := by
  by_cases h5 : g.length ≤ 5
  rotate_left
  · have hd : decide ((g.length : Int) > 5) = true := by simp; omega
    have hd2 : decide ((5 : Int) < (g.length : Int)) = true := by simp; omega
    have hd3 : decide (5 < g.length) = true := by simp; omega
    have HV := Lib.hid (Bs.cnt_no2 h5)
    clear h5 h
    go_enter Try.func36, Try.ntmps36
    go_wp2
    go_ret
    exact ⟨ret_int HV.out.symm, Below.refl _ _⟩
  have hd : decide ((g.length : Int) > 5) = false := by simp; omega
  have hd2 : decide ((5 : Int) < (g.length : Int)) = false := by simp; omega
  have hd3 : decide (5 < g.length) = false := by simp; omega
  have q1 := ValidGraph_any A c g lo hi w h hh hl
  cases hv : Bs.valid g
  · rw [hv] at q1
    have C1 := Lib.hid q1
    have HV := Lib.hid (Bs.cnt_no1 hv)
    clear q1 hv h
    go_enter Try.func36, Try.ntmps36
    go_wp2_with fail
    with_reducible refine (C1.out).mono ?_
    rintro e w1 ⟨rfl, hb⟩
    go_wp2
    go_ret
    exact ⟨ret_int HV.out.symm, hb⟩
  · rw [hv] at q1
    have C1 := Lib.hid q1
    have HV := Lib.hid (Bs.cnt_yes hv h5)
    have hF := valid_fine hv
    have q2 := fun W (hb : Below w.heap.size w W) => countFrom_any A c g lo hi hF g.length (by omega) [] (by simp) W (h.below hb hh)
    rw [show Bs.bits [] = 0 from rfl] at q2
    have C2 := Lib.hid q2
    clear q1 q2 hv h hF
    generalize (Bs.ordsF g g.length []).length = y at *
    go_enter Try.func36, Try.ntmps36
    go_wp2_with fail
    with_reducible refine (C1.out).mono ?_
    rintro e w1 ⟨rfl, hb⟩
    have C3 := Lib.hid (C2.out w1 hb)
    go_wp2_with fail
    refine (C3.out).mono ?_
    rintro e w2 ⟨rfl, rfl⟩
    go_wp2
    go_ret
    exact ⟨ret_int HV.out.symm, hb⟩
end Go.Proofs.Ytoaakidapgbhhaa
