/-
  WALKS: tries, of the program.
-/
import Derived.Test.YtoggbndpjcfmiaaW9
import Derived.Test.YtoggbndpjcfmiaaBo
import Derived.Test.YtoggbndpjcfmiaaMath62
namespace Go.Proofs.Ytoggbndpjcfmiaa
open Go.RowKit
/-- a further try as a value -/
def ftV (n d : Int) : Value := .agg #[.int .i64 n, .int .i64 d]
theorem ftSize : (Try.prog.info? 47).map (·.size) = some 2 := by kernel_rfl
def FT (w : World) (b : Nat) (n d : Int) : Prop := Blk w b 47 #[.int .i64 n, .int .i64 d]
theorem ft_ret {fn : Func} {p : Tmp} (h : fn.results = #[.cell p 47]) (tmps : Array Value) (w : World) (g : Nat) (n d : Int) (hp : tmps.getD p undef = .pointer (some ⟨g, 0, none⟩)) (hg : FT w g n d) :
    (results fn tmps).run Try.prog w = .ok (ftV n d) w :=
  results_cell_row h tmps w g 47 _ (0, 0) _ hp hg Try.underlying47 rfl ftSize
theorem FT.far {w : World} {g : Nat} {n d : Int} (h : FT w g n d) {p : Addr} (hp : g ≠ p.block) (u : Value) : FT (w.setCell p u) g n d := (heap_setCell_other w p g u hp).trans h
theorem ft_set {w : World} {b : Nat} {n d : Int} (h : FT w b n d) (n' d' : Int) : FT ((w.setCell ⟨b, 0, none⟩ (.int .i64 n')).setCell ⟨b, 1, none⟩ (.int .i64 d')) b n' d' := by
  have := (Blk.set_ h 0 (.int .i64 n')).set_ 1 (.int .i64 d')
  simpa [FT] using this
theorem firstTry_any (w : World) : Calls Try.prog 31 #[] w fun e w' => e = .returned (.agg #[.int .i64 1, .int .i64 2]) ∧ Below w.heap.size w w' := by
  have b1 : FT (w.alloc (.cells #[.int .i64 0, .int .i64 0] 47)) w.heap.size 0 0 := Blk.new w _ _
  have hal : Below w.heap.size w (w.alloc (.cells #[.int .i64 0, .int .i64 0] 47)) := (Below.refl _ _).alloc (Nat.le_refl _) _
  have k0 : (World.cell? _ ⟨w.heap.size, 0, none⟩) = some (.int .i64 0) := Blk.cell b1 0
  have k1 : (World.cell? _ ⟨w.heap.size, 1, none⟩) = some (.int .i64 0) := Blk.cell b1 1
  have f0 := Blk.frozen b1 0
  have f1 := Blk.frozen b1 1
  clear b1 hal
  go_enter Try.func31, Try.ntmps31
  go_wp2
  refine bodyPost_ret (ft_ret rfl _ _ w.heap.size 1 2 rfl (Blk.new w _ _)) rfl ⟨rfl, ?_⟩
  exact (Below.refl _ _).alloc (Nat.le_refl _) _
theorem ft_new2 (w : World) (o : Obj) (n d : Int) : FT ((w.alloc o).alloc (.cells #[.int .i64 n, .int .i64 d] 47)) (w.heap.size + 1) n d := by
  have := Blk.new (w.alloc o) 47 #[.int .i64 n, .int .i64 d]
  rw [show (w.alloc o).heap.size = w.heap.size + 1 from by simp] at this
  exact this
theorem next_any (n d : Int) (w : World) (hn : 0 ≤ n ∧ n ≤ 1000) (hd : 0 ≤ d ∧ d ≤ 1000) : Calls Try.prog 32 #[.agg #[.int .i64 n, .int .i64 d]] w fun e w' => e = .returned (.agg #[.int .i64 (n + 1), .int .i64 (min (2 * d) 20)]) ∧ Below w.heap.size w w' := by
  have hw1 : IntKind.i64.wrap (n + 1) = n + 1 := IntWalk.i64_in _ ⟨by omega, by omega⟩
  have hw2 : IntKind.i64.wrap (d * 2) = d * 2 := IntWalk.i64_in _ ⟨by omega, by omega⟩
  go_enter Try.func32, Try.ntmps32
  by_cases hc : 20 < d * 2
  · have hm := Lib.hid (show min (2 * d) 20 = 20 from by omega)
    go_wp2
    rw [hm.out]
    exact bodyPost_ret (ft_ret rfl _ _ (w.heap.size + 1) (n + 1) 20 rfl (ft_new2 _ _ _ _)) rfl ⟨rfl, ((Below.refl _ _).alloc (Nat.le_refl _) _).alloc (by simp) _⟩
  · have hm := Lib.hid (show min (2 * d) 20 = d * 2 from by omega)
    go_wp2
    rw [hm.out]
    exact bodyPost_ret (ft_ret rfl _ _ (w.heap.size + 1) (n + 1) (d * 2) rfl (ft_new2 _ _ _ _)) rfl ⟨rfl, ((Below.refl _ _).alloc (Nat.le_refl _) _).alloc (by simp) _⟩
/-- the number of a further try in memory -/
def ftN (w : World) (b : Nat) : Nat := match w.cell? ⟨b, 0, none⟩ with | some (.int _ n) => n.toNat | _ => 0
theorem FT.num {w : World} {b : Nat} {n d : Int} (h : FT w b n d) : ftN w b = n.toNat := by
  unfold ftN
  rw [show w.cell? ⟨b, 0, none⟩ = some (.int .i64 n) from Blk.cell h 0]
set_option maxHeartbeats 800000 in
theorem DelayOf_any (t : Int) (w : World) : Calls Try.prog 13 #[.int .i64 t] w fun e w' => e = .returned (.int .i64 (Bs.delayL t)) ∧ Below w.heap.size w w' := by
  by_cases ht : 1 ≤ t ∧ t ≤ 5
  rotate_left
  · have HV := Lib.hid (Bs.delayL_no ht)
    by_cases h1 : t < 1
    · clear ht
      go_enter Try.func13, Try.ntmps13
      go_wp2
      go_ret
      exact ⟨ret_int HV.out.symm, Below.refl _ _⟩
    · have h2 : 5 < t := by omega
      clear ht
      go_enter Try.func13, Try.ntmps13
      go_wp2
      go_ret
      exact ⟨ret_int HV.out.symm, Below.refl _ _⟩
  · obtain ⟨m, rfl, hm⟩ : ∃ m : Nat, t = (m : Int) + 1 ∧ m ≤ 4 := ⟨(t - 1).toNat, by omega, by omega⟩
    have HV := Lib.hid (Bs.delayL_yes hm)
    have C1 := Lib.hid (firstTry_any w)
    clear ht
    go_enter Try.func13, Try.ntmps13
    go_wp2_with fail
    with_reducible refine (C1.out).mono ?_
    rintro e w1 ⟨rfl, hb1⟩
    have s1 := hb1.size
    have B1 := Lib.hid (show FT (w1.alloc (.cells #[.int .i64 1, .int .i64 2] 47)) w1.heap.size 1 2 from Blk.new w1 _ _)
    have HB := Lib.hid (hb1.alloc s1 (.cells #[.int .i64 1, .int .i64 2] 47))
    clear C1 hb1
    go_wp2
    go_loopw [] (fun wr => ∃ k : Nat, k ≤ m ∧ FT wr w1.heap.size ((k : Int) + 1) (Bs.delayN k) ∧ Below w.heap.size w wr) (fun wr => m + 2 - ftN wr w1.heap.size)
    case atStart => exact ⟨0, Nat.zero_le _, B1.out, HB.out⟩
    case round =>
      obtain ⟨k, hk, hft, hb⟩ := hrel
      have k0 : (World.cell? _ ⟨w1.heap.size, 0, none⟩) = some (.int .i64 ((k : Int) + 1)) := Blk.cell hft 0
      have k1 : (World.cell? _ ⟨w1.heap.size, 1, none⟩) = some (.int .i64 (Bs.delayN k)) := Blk.cell hft 1
      have hd := Bs.delayN_b k
      by_cases hlt : k < m
      · have C2 := Lib.hid (fun W => next_any ((k : Int) + 1) (Bs.delayN k) W (by omega) (by omega))
        have HE := Lib.hid (show min (2 * Bs.delayN k) 20 = Bs.delayN (k + 1) from rfl)
        have H1 := Lib.hid hft
        have HB1 := Lib.hid hb
        have M1 := Lib.hid hft.num
        have hlw := Blk.lt hft
        clear B1 HB hft hb
        generalize Bs.delayN k = d at *
        go_wp2_with fail
        with_reducible refine (C2.out _).mono ?_
        rintro e w2 ⟨rfl, hb2⟩
        have h2 : FT w2 w1.heap.size ((k : Int) + 1) d := Blk.below H1.out hb2 hlw
        have e0 : w2.cell? ⟨w1.heap.size, 0, none⟩ = some (.int .i64 ((k : Int) + 1)) := Blk.cell h2 0
        have e1 : w2.cell? ⟨w1.heap.size, 1, none⟩ = some (.int .i64 d) := Blk.cell h2 1
        have g0 := Blk.frozen h2 0
        have g1 := Blk.frozen h2 1
        have h3 := ft_set h2 ((k : Int) + 1 + 1) (min (2 * d) 20)
        have HB3 := Lib.hid (((HB1.out.trans (hb2.mono HB1.out.size)).setCell (p := ⟨w1.heap.size, 0, none⟩) s1 (.int .i64 ((k : Int) + 1 + 1))).setCell (p := ⟨w1.heap.size, 1, none⟩) s1 (.int .i64 (min (2 * d) 20)))
        rw [HE.out] at h3 HB3 ⊢
        have H3 := Lib.hid h3
        have M3 := Lib.hid h3.num
        clear h2 h3 hb2 C2 k0 k1 HE hd
        go_wp2
        go_roundw
        case rel => exact ⟨k + 1, by omega, by rw [show ((k + 1 : Nat) : Int) + 1 = (k : Int) + 1 + 1 from by omega]; exact H3.out, HB3.out⟩
        case measure => rw [M1.out, M3.out]; omega
      · obtain rfl : k = m := by omega
        have HB1 := Lib.hid hb
        clear B1 HB hb
        go_wp2
        go_ret
        exact ⟨ret_int HV.out.symm, HB1.out⟩
end Go.Proofs.Ytoggbndpjcfmiaa
