/-
  WALKS: valid logs, what is over, what takes time, what runs together, of the program.
-/
import Derived.Test.YtihgakbopkaemaaW113
import Derived.Test.YtihgakbopkaemaaW111
import Derived.Test.YtihgakbopkaemaaK5
namespace Go.Proofs.Ytihgakbopkaemaa
open Go.RowKit
theorem lsZero : lsA 0 z8 0 0 = #[.int .i64 0, .int .i64 0, .int .i64 0, .int .i64 0, .int .i64 0, .int .i64 0, .int .i64 0, .int .i64 0, .int .i64 0, .int .u64 0, .int .u64 0] := rfl
theorem after_any (l : List Bs.E) (k : Nat) (t : Int) (w : World) (hB : ∀ y ∈ Bs.bgL l k, 0 ≤ y ∧ y < 8) (hO : ∀ y ∈ Bs.ovL l k, 0 ≤ y ∧ y < 8) (ht : 0 ≤ (Bs.ge l k).task ∧ (Bs.ge l k).task < 8) :
    Calls Try.prog 38 #[.agg (lsA t (Bs.bgF l k) (Bs.bits (Bs.bgL l k)) (Bs.bits (Bs.ovL l k))), .agg #[.int .i64 (Bs.ge l k).at_, .int .i64 (Bs.ge l k).task, .bool (Bs.ge l k).over]] w fun e w' => e = .returned (.agg (lsA (Bs.nwK l (k + 1)) (Bs.bgF l (k + 1)) (Bs.bits (Bs.bgL l (k + 1))) (Bs.bits (Bs.ovL l (k + 1))))) ∧ Below w.heap.size w w' := by
  have hb8 := Bs.bits_lt _ hB
  have ho8 := Bs.bits_lt _ hO
  have hv : (Bs.ge l k).task = ((Bs.ge l k).task.toNat : Int) := by omega
  have hv8 : (Bs.ge l k).task.toNat < 8 := by omega
  cases ho : (Bs.ge l k).over
  · have e1 : Bs.bgL l (k + 1) = Bs.bgL l k ++ [(Bs.ge l k).task] := by show (if _ then _ else _) = _; rw [ho]; rfl
    have e2 : Bs.ovL l (k + 1) = Bs.ovL l k := by show (if _ then _ else _) = _; rw [ho]; rfl
    have e3 : Bs.bgF l (k + 1) = Bs.upd (Bs.bgF l k) (Bs.ge l k).task.toNat (Bs.ge l k).at_ := by show (if _ then _ else _) = _; rw [ho]; rfl
    rw [e1, e2, e3, Bs.bits_snoc]
    exact after_begin t _ _ _ _ _ _ w hv8 hb8 hv
  · have e1 : Bs.bgL l (k + 1) = Bs.bgL l k := by show (if _ then _ else _) = _; rw [ho]; rfl
    have e2 : Bs.ovL l (k + 1) = Bs.ovL l k ++ [(Bs.ge l k).task] := by show (if _ then _ else _) = _; rw [ho]; rfl
    have e3 : Bs.bgF l (k + 1) = Bs.bgF l k := by show (if _ then _ else _) = _; rw [ho]; rfl
    rw [e1, e2, e3, Bs.bits_snoc]
    exact after_over t _ _ _ _ _ _ w hv8 ho8 hv
/-- an event in a block of its own -/
def EV (w : World) (a : Nat) (x : Bs.E) : Prop := Blk w a 33 #[.int .i64 x.at_, .int .i64 x.task, .bool x.over]
set_option maxHeartbeats 1600000 in
theorem ValidLog_any (A : Option Addr) (c : Nat) (g : List Bs.T) (A1 : Option Addr) (c1 : Nat) (l : List Bs.E) (lo hi l1 h1 : Nat) (w : World) (h : RG w lo hi A g) (hh : hi ≤ w.heap.size) (hm : RE w l1 h1 A1 l) (hh1 : h1 ≤ w.heap.size) (hl : g.length ≤ 9223372036854775807) (hll : l.length ≤ 9223372036854775807) :
    Calls Try.prog 14 #[.slice A g.length c, .slice A1 l.length c1] w fun e w' => e = .returned (.bool (Bs.logV g l)) ∧ Below w.heap.size w w' := by
  have q1 := ValidGraph_any A c g lo hi w h hh hl
  cases hv : Bs.valid g
  · rw [hv] at q1
    have C1 := Lib.hid q1
    have HV := Lib.hid (Bs.logV_no1 (l := l) hv)
    clear q1 hv h hm
    go_enter Try.func14, Try.ntmps14
    go_wp2_with fail
    with_reducible refine (C1.out).mono ?_
    rintro e w1 ⟨rfl, hb⟩
    have HB := Lib.hid hb
    clear hb
    go_wp2
    go_ret
    exact ⟨ret_bool HV.out.symm, HB.out⟩
  rw [hv] at q1
  have C1 := Lib.hid q1
  by_cases h16 : l.length ≤ 16
  rotate_left
  · have HV := Lib.hid (Bs.logV_no2 (g := g) h16)
    have d1 : decide ((l.length : Int) > 16) = true := by simp; omega
    have d2 : decide ((16 : Int) < (l.length : Int)) = true := by simp; omega
    clear q1 hv h hm
    go_enter Try.func14, Try.ntmps14
    go_wp2_with fail
    with_reducible refine (C1.out).mono ?_
    rintro e w1 ⟨rfl, hb⟩
    have HB := Lib.hid hb
    clear hb
    go_wp2
    go_ret
    exact ⟨ret_bool HV.out.symm, HB.out⟩
  have d1 : decide ((l.length : Int) > 16) = false := by simp; omega
  have d2 : decide ((16 : Int) < (l.length : Int)) = false := by simp; omega
  have hF := valid_fine hv
  have h8 := Bs.fine_len hF
  have HLI := Lib.hid (fun k (hk : Bs.evK g l k = true) => Bs.LI.of hF k hk)
  have HES := Lib.hid (fun k => Bs.evK_succ g l k)
  have HENO := Lib.hid (fun k (hk : k < l.length) (hx : Bs.evOk g l k = false) => Bs.logV_no3 (Bs.evK_no (n := l.length) hk hx))
  have HYES := Lib.hid (fun (hx : Bs.evK g l l.length = true) => show Bs.logV g l = true from Bs.logV_iff.2 ⟨hv, h16, hx⟩)
  have C2 := Lib.hid (fun (now : Int) (f : Nat → Int) (B O : List Int) (xa xt : Int) (xo : Bool) W (hb : Below w.heap.size w W) (hB : ∀ y ∈ B, 0 ≤ y ∧ y < 8) (hO : ∀ y ∈ O, 0 ≤ y ∧ y < 8) (hf : ∀ i, i < 8 → 0 ≤ f i ∧ f i ≤ 100000) => accepts_any now f B O xa xt xo A c g lo hi W (h.below hb hh) (Nat.le_trans hh hb.size) hF hB hO hf)
  have HR := Lib.hid hm
  clear q1 hv h hm hF
  go_enter Try.func14, Try.ntmps14
  go_wp2_with fail
  with_reducible refine (C1.out).mono ?_
  rintro e w1 ⟨rfl, hb⟩
  have HS1 := Lib.hid (LS.new w1 0 z8 0 0)
  have HB1 := Lib.hid (hb.alloc hb.size (.cells (lsA 0 z8 0 0) 61))
  rw [lsZero] at HS1 HB1
  have s1 := hb.size
  clear hb C1
  go_wp2
  go_loopw [19] (fun i wr => ∃ (k : Nat), k ≤ l.length ∧ i = .int .i64 k ∧ Bs.evK g l k = true ∧ LS wr w1.heap.size (Bs.nwK l k) (Bs.bgF l k) (Bs.bits (Bs.bgL l k)) (Bs.bits (Bs.ovL l k)) ∧ Below w.heap.size w wr) (fun i _ => l.length - (intOf i).toNat)
  case atStart => exact ⟨0, Nat.zero_le _, rfl, rfl, HS1.out, HB1.out⟩
  case round =>
    obtain ⟨k, hk, rfl, hev, hls, hb⟩ := hrel
    clear HS1 HB1
    have hli := HLI.out k hev
    by_cases hlt : k < l.length
    · obtain ⟨b, o, rfl, _, _, q0, q1, q2⟩ := (HR.out.below hb hh1).at_ hlt
      have hacc := Bs.acc_eq hli
      have c2 := C2.out (Bs.nwK l k) (Bs.bgF l k) (Bs.bgL l k) (Bs.ovL l k) (Bs.ge l k).at_ (Bs.ge l k).task (Bs.ge l k).over _ (hb.alloc hb.size (.cells #[.int .i64 (Bs.ge l k).at_, .int .i64 (Bs.ge l k).task, .bool (Bs.ge l k).over] 33)) (hli.b8 h8) (hli.o8 h8) (fun i _ => by have := hli.fb i; omega)
      have hsu := HES.out k
      rw [hev, Bool.true_and] at hsu
      have hno := HENO.out k hlt
      have HSU := Lib.hid hsu
      have HNO := Lib.hid hno
      have HLS := Lib.hid (hls.alloc (.cells #[.int .i64 (Bs.ge l k).at_, .int .i64 (Bs.ge l k).task, .bool (Bs.ge l k).over] 33))
      have HEV := Lib.hid (show EV (wr.alloc (.cells #[.int .i64 (Bs.ge l k).at_, .int .i64 (Bs.ge l k).task, .bool (Bs.ge l k).over] 33)) wr.heap.size (Bs.ge l k) from Blk.new wr _ _)
      have HBA := Lib.hid (hb.alloc hb.size (.cells #[.int .i64 (Bs.ge l k).at_, .int .i64 (Bs.ge l k).task, .bool (Bs.ge l k).over] 33))
      have slt := hls.lt
      have i0 : (0 : Int) ≤ (k : Int) := by omega
      have i1 : (k : Int) < (l.length : Int) := by omega
      have C3 := Lib.hid (fun (hx : Bs.evOk g l k = true) W => after_any l k (Bs.nwK l k) W (hli.b8 h8) (hli.o8 h8) (by have := Bs.evOk_iff.1 hx; omega))
      rw [show (⟨(Bs.ge l k).at_, (Bs.ge l k).task, (Bs.ge l k).over⟩ : Bs.E) = Bs.ge l k from rfl, hacc] at c2
      have C2a := Lib.hid c2
      clear hls hb hev hli hacc c2 hsu hno HLI HES HENO HYES C2
      generalize Bs.nwK l k = nw at *
      generalize Bs.bgF l k = bf at *
      generalize Bs.bits (Bs.bgL l k) = bb at *
      generalize Bs.bits (Bs.ovL l k) = ob at *
      cases hok : Bs.evOk g l k
      · rw [hok] at C2a
        have HN := Lib.hid (HNO.out hok)
        clear hok C3
        go_wp2_with (first
          | (refine ls_load rfl _ rfl w1.heap.size nw bf bb ob rfl HLS.out ?_))
        with_reducible refine (C2a.out).mono ?_
        rintro e w5 ⟨rfl, hb5⟩
        have HB5 := Lib.hid (HBA.out.trans (hb5.mono HBA.out.size))
        clear hb5
        go_wp2
        go_ret
        exact ⟨ret_bool HN.out.symm, HB5.out⟩
      · rw [hok] at C2a
        have HEK := Lib.hid (HSU.out.trans hok)
        have C3a := Lib.hid (C3.out hok)
        clear hok C3
        go_wp2_with (first
          | (refine ls_load rfl _ rfl w1.heap.size nw bf bb ob rfl HLS.out ?_))
        with_reducible refine (C2a.out).mono ?_
        rintro e w5 ⟨rfl, hb5⟩
        have s5 := hb5.size
        have HB5 := Lib.hid (HBA.out.trans (hb5.mono HBA.out.size))
        have HLS5 := Lib.hid (HLS.out.below hb5 HLS.out.lt)
        have hev5 := Blk.below HEV.out hb5 (Blk.lt HEV.out)
        have v0 : w5.cell? ⟨wr.heap.size, 0, none⟩ = some (.int .i64 (Bs.ge l k).at_) := (Blk.cell hev5 0).trans rfl
        have v1 : w5.cell? ⟨wr.heap.size, 1, none⟩ = some (.int .i64 (Bs.ge l k).task) := (Blk.cell hev5 1).trans rfl
        have v2 : w5.cell? ⟨wr.heap.size, 2, none⟩ = some (.bool (Bs.ge l k).over) := (Blk.cell hev5 2).trans rfl
        clear hb5 hev5 C2a
        go_wp2_with (first
          | (refine ls_load rfl _ rfl w1.heap.size nw bf bb ob rfl HLS5.out ?_))
        with_reducible refine (C3a.out _).mono ?_
        rintro e w6 ⟨rfl, hb6⟩
        have HB6 := Lib.hid (HB5.out.trans (hb6.mono HB5.out.size))
        have HLS6 := Lib.hid (HLS5.out.below hb6 HLS5.out.lt)
        clear hb6
        go_wp2_with (first
          | (refine ls_store rfl _ _ rfl w1.heap.size nw (Bs.nwK l (k + 1)) bf (Bs.bgF l (k + 1)) bb (Bs.bits (Bs.bgL l (k + 1))) ob (Bs.bits (Bs.ovL l (k + 1))) rfl rfl HLS6.out ?_; intro w9 h9 o9; have H9 := Lib.hid h9; have HB9 := Lib.hid (HB6.out.trans (o9.below s1)); clear h9 o9))
        go_roundw
        case rel => exact ⟨k + 1, by omega, by go_num, HEK.out, H9.out, HB9.out⟩
        case measure => simp [intOf]; omega
    · obtain rfl : k = l.length := by omega
      have HV := Lib.hid (HYES.out hev)
      have HB := Lib.hid hb
      clear hls hb hev hli
      go_wp2
      go_ret
      exact ⟨ret_bool HV.out.symm, HB.out⟩
end Go.Proofs.Ytihgakbopkaemaa
