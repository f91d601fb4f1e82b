/-
  WALKS: the draws of chapter 12.
-/
import Derived.Test.YtmdmemompjpmkaaK17
namespace Go.Proofs.Ytmdmemompjpmkaa
open Go.RowKit
theorem oneE7 (a0 a1 a2 a3 a4 a5 a6 : Int) : ∀ k, k < 7 → ∃ x, (#[Value.int .i64 a0, .int .i64 a1, .int .i64 a2, .int .i64 a3, .int .i64 a4, .int .i64 a5, .int .i64 a6] : Array Value)[k]? = some (.int .i64 x) := by
  intro k hk
  match k, hk with
  | 0, _ => exact ⟨_, rfl⟩
  | 1, _ => exact ⟨_, rfl⟩
  | 2, _ => exact ⟨_, rfl⟩
  | 3, _ => exact ⟨_, rfl⟩
  | 4, _ => exact ⟨_, rfl⟩
  | 5, _ => exact ⟨_, rfl⟩
  | 6, _ => exact ⟨_, rfl⟩
def OneE (p : Int → Prop) (lo rb P : Nat) (w : World) (e : Ending) (w' : World) : Prop := (∃ x, e = .returned (.int .i64 x) ∧ p x) ∧ RD w' lo rb (P + 1) ∧ Fx rb w w'
theorem one_newE (p : Int → Prop) (cs : Array Value) (n lo rb P : Nat) (w : World) (hs : RD w lo rb P) (hP : P ≤ 1000000) (h : ∀ k, k < n → ∃ x, cs[k]? = some (.int .i64 x) ∧ p x) (h0 : 0 < n) (h1 : n ≤ 1000) {g : Nat} (hg : w.heap.size = g) :
    Calls Try.prog 39 #[.pointer (some ⟨rb, 0, none⟩), .slice (some ⟨g, 0, none⟩) n n] (w.alloc (.cells cs 3)) (OneE p lo rb P w) := by
  subst hg
  have hlt := hs.lt
  have hal := Below.alloc (Below.refl w.heap.size w) (Nat.le_refl _) (.cells cs 3)
  have C1 := Lib.hid (pickX n lo rb P _ (hs.after hal) hP (by omega))
  have HF := Lib.hid (Fx.of (rb := rb) hal)
  have HB := Lib.hid (Blk.new w 3 cs)
  clear hs hal
  go_enter Try.func39, Try.ntmps39
  go_wp2_with fail
  refine (C1.out).mono ?_
  rintro e w1 ⟨⟨k, rfl, hk, _⟩, hs1, hf1⟩
  have hk := hk h0
  obtain ⟨x, hx, hpx⟩ := h k hk
  have hc : w1.cell? ⟨w.heap.size, k, none⟩ = some (.int .i64 x) := by
    rw [hf1.cell (by simp) (by show w.heap.size ≠ rb; omega), HB.out.cell, hx]
  have HS := Lib.hid hs1
  have HF := Lib.hid (HF.out.trans hf1)
  have HP := Lib.hid hpx
  clear hs1 hf1 h hx hpx
  go_wp2_with fail
  go_ret
  exact ⟨⟨x, rfl, HP.out⟩, HS.out, HF.out⟩
theorem oneEs : ∀ k, k < 7 → ∃ x, (#[Value.int .i64 3, .int .i64 4, .int .i64 2, .int .i64 1, .int .i64 0, .int .i64 6, .int .i64 7] : Array Value)[k]? = some (.int .i64 x) ∧ (0 ≤ x ∧ x ≤ 7) := by
  intro k hk
  match k, hk with
  | 0, _ => exact ⟨_, rfl, by decide⟩
  | 1, _ => exact ⟨_, rfl, by decide⟩
  | 2, _ => exact ⟨_, rfl, by decide⟩
  | 3, _ => exact ⟨_, rfl, by decide⟩
  | 4, _ => exact ⟨_, rfl, by decide⟩
  | 5, _ => exact ⟨_, rfl, by decide⟩
  | 6, _ => exact ⟨_, rfl, by decide⟩
theorem oneE5 (a0 a1 a2 a3 a4 : Int) : ∀ k, k < 5 → ∃ x, (#[Value.int .i64 a0, .int .i64 a1, .int .i64 a2, .int .i64 a3, .int .i64 a4] : Array Value)[k]? = some (.int .i64 x) := by
  intro k hk
  match k, hk with
  | 0, _ => exact ⟨_, rfl⟩
  | 1, _ => exact ⟨_, rfl⟩
  | 2, _ => exact ⟨_, rfl⟩
  | 3, _ => exact ⟨_, rfl⟩
  | 4, _ => exact ⟨_, rfl⟩
set_option maxHeartbeats 1600000 in
theorem someTimesX (lo rb P : Nat) (w : World) (hs : RD w lo rb P) (hP : P ≤ 800000) :
    Calls Try.prog 34 #[.pointer (some ⟨rb, 0, none⟩)] w (SpX lo rb (P + 20) 100 w) := by
  have hrb := hs.lt
  have hal := Below.alloc (Below.refl w.heap.size w) (Nat.le_refl _) (.cells #[] 3)
  have C1 := Lib.hid (one_newE (fun x => 0 ≤ x ∧ x ≤ 7) #[.int .i64 3, .int .i64 4, .int .i64 2, .int .i64 1, .int .i64 0, .int .i64 6, .int .i64 7] 7 lo rb P _ (hs.after hal) (by omega) oneEs (by omega) (by omega) (g := w.heap.size + 1) (by simp))
  have HF0 := Lib.hid (Fx.of (rb := rb) hal)
  have HO0 := Lib.hid (OI.new w w.heap.size (Nat.le_refl _))
  clear hs hal
  go_enter Try.func34, Try.ntmps34
  go_wp2_with fail
  refine (C1.out).mono ?_
  rintro e w1 ⟨⟨n, rfl, hn0, hn6⟩, hs1, hf1⟩
  have HO1 := Lib.hid (HO0.out.fx hf1 hrb)
  have HS1 := Lib.hid hs1
  have HF1 := Lib.hid (HF0.out.trans hf1)
  obtain ⟨n', rfl⟩ : ∃ n' : Nat, n = (n' : Int) := ⟨n.toNat, by omega⟩
  clear hs1 hf1 C1 HO0 HF0
  go_wp2
  go_loopw [3, 4] (fun v i wr => ∃ (k : Nat) (A1 : Option Addr) (c1 : Nat) (l : List Int), i = .int .i64 (k : Int) ∧ v = .slice A1 l.length c1 ∧ l.length + k ≤ 7 ∧ OI wr w.heap.size A1 c1 l ∧ RD wr lo rb (P + 1 + l.length) ∧ Fx rb w wr) (fun _ i _ => (intOf i).toNat)
  case atStart => exact ⟨n', _, _, [], rfl, rfl, by simp; omega, HO1.out, HS1.out, HF1.out⟩
  case round =>
    obtain ⟨k, A1, c1, l, rfl, rfl, hlk, ho, hs, hf⟩ := hrel
    have sr := hf.size
    have HO := Lib.hid ho
    have HS := Lib.hid hs
    have HF := Lib.hid hf
    clear ho hs hf HO1 HS1 HF1
    by_cases hlt : 0 < k
    · have C1 := Lib.hid (pickX 20 lo rb (P + 1 + l.length) wr HS.out (by omega) (by omega))
      have d1 : decide ((0 : Int) < (k : Int)) = true := by simp; omega
      go_wp2_with fail
      refine (C1.out).mono ?_
      rintro e w1 ⟨⟨q, rfl, hq, _⟩, hs1, hf1⟩
      have hq2 := hq (by omega)
      have hw : IntKind.i64.wrap (1 + (q : Int)) = 1 + (q : Int) := IntWalk.i64_in _ ⟨by omega, by omega⟩
      have s1 := hf1.size
      have HS1 := Lib.hid hs1
      have HF1 := Lib.hid (HF.out.trans hf1)
      have HO1 := Lib.hid (HO.out.fx hf1 hrb)
      clear hs1 hf1 C1 HO HS HF hq
      go_wp2_with (at_builtin; go_loud (refine push_int rfl _ _ rfl w.heap.size A1 c1 l (1 + (q : Int)) rfl (HO1.out.alloc _) w1.heap.size 1 rfl (by simp [go_sem]) (by omega) (by simp; omega) ?_; intro A3 c3 w3 ho3 hb3 _; have HB3 := Lib.hid hb3; have HO3 := Lib.hid ho3; clear hb3 ho3))
      have HS3 := Lib.hid ((HS1.out.after (Below.alloc (Below.refl _ _) (Nat.le_refl _) (.cells #[.int .i64 (1 + (q : Int))] 3))).below HB3.out hrb)
      have HF3 := Lib.hid ((HF1.out.alloc (.cells #[.int .i64 (1 + (q : Int))] 3)).then_ HB3.out)
      go_wp2
      go_roundw
      case rel => exact ⟨k - 1, A3, c3, l ++ [1 + (q : Int)], by go_num, by simp, by simp; omega, HO3.out, HS3.out.more (by simp; omega), HF3.out⟩
      case measure => simp [intOf]; omega
    · have d1 : decide ((0 : Int) < (k : Int)) = false := by simp; omega
      have C2 := Lib.hid (spoilX A1 c1 l lo rb (P + 1 + l.length) w.heap.size wr.heap.size 21 wr HS.out (by omega) HO.out.ri (Nat.le_refl _) (by omega))
      go_wp2_with fail
      refine (C2.out).mono ?_
      rintro e w2 ⟨⟨A2, c2, l2, rfl, hl, hlc, hcm, hlm⟩, hs2, hf2⟩
      have HL := Lib.hid (hl.more sr (Nat.le_refl _))
      have HS2 := Lib.hid (hs2.more (P' := P + 20) (by omega))
      have HF2 := Lib.hid (HF.out.trans hf2)
      clear hl hs2 hf2 C2
      go_wp2
      go_ret
      exact ⟨⟨A2, c2, l2, rfl, HL.out, hlc, hcm, by omega⟩, HS2.out, HF2.out⟩
theorem DrawEstimateOf_any (A : Option Addr) (c : Nat) (l : List Int) (w : World) (hb : RB w 0 w.heap.size A l) (hl : l.length ≤ c) (hc : c ≤ maxLen) :
    Calls Try.prog 13 #[.slice A l.length c] w (DrawL w) := by
  have C1 := Lib.hid (newReader_any A c l w hb hl hc)
  clear hb
  go_enter Try.func13, Try.ntmps13
  go_wp2_with fail
  refine (C1.out).mono ?_
  rintro e w1 ⟨rb, rfl, hs1, hf1⟩
  have hrlo := hs1.rd.1
  have hrb := hs1.rd.lt
  have s1 := hf1.1.size
  have C2 := Lib.hid (someTimesX w.heap.size rb 0 w1 hs1.rd (by omega))
  have HF := Lib.hid hf1.1
  clear hs1 hf1 C1
  go_wp2_with fail
  refine (C2.out).mono ?_
  rintro e w2 ⟨⟨A2, c2, l2, rfl, hl2, hlc2, hcm2, hlm2⟩, hrd, hf2⟩
  have HL := Lib.hid (hl2.more (lo' := w.heap.size) s1 (Nat.le_refl _))
  have HB := Lib.hid (HF.out.trans (hf2.below hrlo hrb))
  clear hl2 hrd hf2 C2
  go_wp2
  go_ret
  exact ⟨⟨A2, c2, l2, rfl, HL.out, hlm2, hlc2, hcm2⟩, HB.out⟩
/-- what a draw of a list and a number hands back -/
def DrawLA (w : World) (e : Ending) (w' : World) : Prop := (∃ A2 c2 l x, e = .returned (.tuple #[.slice A2 (List.length l) c2, .int .i64 x]) ∧ RI w' w.heap.size w'.heap.size A2 l ∧ l.length ≤ 100 ∧ l.length ≤ c2 ∧ c2 ≤ maxLen) ∧ Below w.heap.size w w'
theorem DrawAddTime_any (A : Option Addr) (c : Nat) (l : List Int) (w : World) (hb : RB w 0 w.heap.size A l) (hl : l.length ≤ c) (hc : c ≤ maxLen) :
    Calls Try.prog 16 #[.slice A l.length c] w (DrawLA w) := by
  have C1 := Lib.hid (newReader_any A c l w hb hl hc)
  clear hb
  go_enter Try.func16, Try.ntmps16
  go_wp2_with fail
  refine (C1.out).mono ?_
  rintro e w1 ⟨rb, rfl, hs1, hf1⟩
  have hrlo := hs1.rd.1
  have hrb := hs1.rd.lt
  have s1 := hf1.1.size
  have C2 := Lib.hid (someTimesX w.heap.size rb 0 w1 hs1.rd (by omega))
  have HF := Lib.hid hf1.1
  clear hs1 hf1 C1
  go_wp2_with fail
  refine (C2.out).mono ?_
  rintro e w2 ⟨⟨A2, c2, l2, rfl, hl2, hlc2, hcm2, hlm2⟩, hrd, hf2⟩
  have s2 := hf2.size
  have C3 := Lib.hid (one_newX #[.int .i64 1, .int .i64 5, .int .i64 20, .int .i64 0, .int .i64 21] 5 w.heap.size rb _ w2 hrd (by omega) (oneE5 _ _ _ _ _) (by omega) (by omega) rfl)
  have HL := Lib.hid hl2
  have HF2 := Lib.hid hf2
  clear hl2 hrd hf2 C2
  go_wp2_with fail
  with_reducible refine (C3.out).mono ?_
  rintro e w3 ⟨⟨x, rfl⟩, hs3, hf3⟩
  have s3 := hf3.size
  have HL3 := Lib.hid ((HL.out.fx hf3 hrb (Nat.le_refl _)).more s1 s3)
  have HB := Lib.hid (HF.out.trans ((HF2.out.trans hf3).below hrlo hrb))
  clear hs3 hf3 C3
  go_wp2
  go_ret2
  exact ⟨⟨A2, c2, l2, x, rfl, HL3.out, hlm2, hlc2, hcm2⟩, HB.out⟩
theorem DrawTimeLeft_any (A : Option Addr) (c : Nat) (l : List Int) (w : World) (hb : RB w 0 w.heap.size A l) (hl : l.length ≤ c) (hc : c ≤ maxLen) :
    Calls Try.prog 20 #[.slice A l.length c] w (DrawGD w) := by
  have C1 := Lib.hid (DrawValidDone_any A c l w hb hl hc)
  clear hb
  go_enter Try.func20, Try.ntmps20
  go_wp2_with fail
  with_reducible refine (C1.out).mono ?_
  rintro e w4 ⟨⟨A2, c2, g, A3, c3, l3, rfl, hg, hg16, hgc, hcm, hl3, hl100, hlc3, hcm3⟩, hb4⟩
  have HG4 := Lib.hid hg
  have HL3 := Lib.hid hl3
  have HB4 := Lib.hid hb4
  clear hg hl3 hb4
  go_wp2
  go_ret2
  exact ⟨⟨A2, c2, g, A3, c3, l3, rfl, HG4.out, hg16, hgc, hcm, HL3.out, by omega, hlc3, hcm3⟩, HB4.out⟩
theorem DrawProgressOf_any (A : Option Addr) (c : Nat) (l : List Int) (w : World) (hb : RB w 0 w.heap.size A l) (hl : l.length ≤ c) (hc : c ≤ maxLen) :
    Calls Try.prog 26 #[.slice A l.length c] w (DrawGD w) := by
  have C1 := Lib.hid (DrawValidDone_any A c l w hb hl hc)
  clear hb
  go_enter Try.func26, Try.ntmps26
  go_wp2_with fail
  with_reducible refine (C1.out).mono ?_
  rintro e w4 ⟨⟨A2, c2, g, A3, c3, l3, rfl, hg, hg16, hgc, hcm, hl3, hl100, hlc3, hcm3⟩, hb4⟩
  have HG4 := Lib.hid hg
  have HL3 := Lib.hid hl3
  have HB4 := Lib.hid hb4
  clear hg hl3 hb4
  go_wp2
  go_ret2
  exact ⟨⟨A2, c2, g, A3, c3, l3, rfl, HG4.out, hg16, hgc, hcm, HL3.out, by omega, hlc3, hcm3⟩, HB4.out⟩
end Go.Proofs.Ytmdmemompjpmkaa
