/-
  WALKS: the draws of chapter 7.
-/
import Derived.Test.YtoggbndpjcfmiaaX2
import Derived.Test.YtoggbndpjcfmiaaBo
namespace Go.Proofs.Ytoggbndpjcfmiaa
open Go.RowKit
/-- a row of the call's own, of bools -/
def OB (w : World) (B : Nat) (A : Option Addr) (c : Nat) (l : List Bool) : Prop := w.ownsRow B 4 1 (.slice A l.length c) l.length (l.map (Value.bool))
theorem OB.rl {w : World} {B : Nat} {A : Option Addr} {c : Nat} {l : List Bool} (h : OB w B A c l) : RL w B w.heap.size A l := by
  intro k hk
  rcases h.2 with ⟨hv, hn⟩ | ⟨b, cap, cur, hv, hb, hg, hnc, hcm, hcs, ht⟩
  · omega
  · injection hv with hA hn hc
    subst hA
    refine ⟨b, 0, rfl, hb, (Array.getElem?_eq_some_iff.1 hg).1, ?_⟩
    have h1 := h.cells (g := b) (by simp [Value.ownBlock]) k (.bool l[k]) (by simp [hk])
    rw [Addr.add_lit] at h1
    exact h1
theorem OB.nil (w : World) (B : Nat) : OB w B none 0 [] := World.ownsRow_nil w B 4 1
theorem OB.new (w : World) (B : Nat) (hB : B ≤ w.heap.size) : OB (w.alloc (.cells #[] 4)) B (some ⟨w.heap.size, 0, none⟩) 0 [] :=
  World.ownsRow_made w #[] 0 hB (Nat.zero_le _) (by simp)
theorem OB.cap {w : World} {B : Nat} {A : Option Addr} {c : Nat} {l : List Bool} (h : OB w B A c l) : l.length ≤ c ∧ c ≤ maxLen := by
  rcases h.2 with ⟨hv, hn⟩ | ⟨b, cap, cur, hv, hb, hg, hnc, hcm, hcs, ht⟩
  · injection hv with hA hn hc
    subst hc
    exact ⟨by omega, Nat.zero_le _⟩
  · injection hv with hA hn hc
    subst hc
    exact ⟨hnc, hcm⟩
theorem OB.form {w : World} {B : Nat} {v : Value} {l : List Bool} (h : w.ownsRow B 4 1 v l.length (l.map (Value.bool))) : ∃ A c, v = .slice A l.length c ∧ OB w B A c l := by
  rcases h.2 with ⟨hv, hn⟩ | ⟨b, cap, cur, hv, hb, hg, hnc, hcm, hcs, ht⟩
  · refine ⟨none, 0, by rw [hv, hn], ?_⟩
    unfold OB
    rw [hn] at h ⊢
    rw [hv] at h
    exact h
  · refine ⟨_, cap, hv, ?_⟩
    unfold OB
    rw [hv] at h
    exact h
theorem OB.alloc {w : World} {B : Nat} {A : Option Addr} {c : Nat} {l : List Bool} (h : OB w B A c l) (o : Obj) : OB (w.alloc o) B A c l := World.ownsRow.alloc h o
theorem OB.kept {w w' : World} {B : Nat} {A : Option Addr} {c : Nat} {l : List Bool} {row : Option Nat} (h : OB w B A c l) (hg : w.grownBy w' row) (hne : (Value.slice A l.length c).ownBlock = none ∨ (Value.slice A l.length c).ownBlock ≠ row) : OB w' B A c l := World.ownsRow.kept h hg hne
theorem OB.below {w w' : World} {B B' : Nat} {A : Option Addr} {c : Nat} {l : List Bool} (h : OB w B A c l) (hb : Below B' w w') (hB : w.heap.size ≤ B') : OB w' B A c l := by
  refine ⟨h.1, ?_⟩
  rcases h.2 with hn | ⟨g, cap, cur, hv, h1, hg, rest⟩
  · exact .inl hn
  · exact .inr ⟨g, cap, cur, hv, h1, by rw [hb.block g (by have := (Array.getElem?_eq_some_iff.1 hg).1; omega)]; exact hg, rest⟩
theorem OB.drewN {w : World} {B : Nat} {A : Option Addr} {c : Nat} {l : List Bool} (h : OB w B A c l) (n : Nat) : OB (w.drewN n) B A c l := h
/-- 'out = append(out, q)' -/
theorem push_bool {ops : Array Oper} {rest : List Oper} {o : Oper} {a : Act} {Q : Exit → Act → World → Prop} {w : World} (hgd : o.guard = none) (s x : Operand)
    (ho : o.op = .call { callee := .builtin .append, args := #[s, x], argTypes := #[26, 26] })
    (B : Nat) (A : Option Addr) (c : Nat) (l : List Bool) (q : Bool) (hs : a.eval s = .slice A l.length c) (hown : OB w B A c l)
    (g cc : Nat) (hx : a.eval x = .slice (some ⟨g, 0, none⟩) 1 cc) (hc : w.cell? ⟨g, 0, none⟩ = some (.bool q)) (hlen : l.length ≤ 1000000000) (hB : B ≤ w.heap.size)
    (h : ∀ A' c' w', OB w' B A' c' (l ++ [q]) → Below B w w' → w.grownBy w' (Value.slice A l.length c).ownBlock → wpList Try.prog ops Q rest (a.put o.dst (.slice A' (l.length + 1) c')) w') : wpList Try.prog ops Q (o :: rest) a w := by
  obtain ⟨i0, hi0, hz0, hz1, hz2⟩ := info_parts Try.infoB
  refine wpList_append_own w hgd s x 26 ho B 4 i0 (.bool false) 1 1 Try.underlying26 hi0 hz0 hz1 hz2 rfl (by decide) _ _ _ hs hown ⟨g, 0, none⟩ 1 cc [.bool q] hx rfl ?_ ?_ ?_ ?_ hB ?_
  · intro j u hj
    cases j with
    | zero =>
      simp only [List.getElem?_cons_zero, Option.some.injEq] at hj
      subst hj
      rw [Addr.add_lit]
      exact hc
    | succ j => simp at hj
  · intro u hu
    simp only [List.mem_singleton] at hu
    subst hu
    rfl
  · unfold maxLen; omega
  · omega
  · intro v' w' hown' hg _
    have h1 : w'.ownsRow B 4 1 v' (l ++ [q]).length ((l ++ [q]).map (Value.bool)) := by
      rw [List.length_append, List.map_append]
      exact hown'
    obtain ⟨A', c', hv, ho'⟩ := OB.form h1
    rw [hv, List.length_append]
    refine h A' c' w' ho' ?_ hg
    refine (Below.refl B w).grown hg hB ?_
    intro k hk
    exact (hown.lt k hk).1
theorem OB.fx {w w' : World} {rb B : Nat} {A : Option Addr} {c : Nat} {l : List Bool} (h : OB w B A c l) (hf : Fx rb w w') (hB : rb < B) : OB w' B A c l := by
  refine ⟨h.1, ?_⟩
  rcases h.2 with hn | ⟨g, cap, cur, hv, h1, hg, rest⟩
  · exact .inl hn
  · exact .inr ⟨g, cap, cur, hv, h1, by rw [hf.block g (Array.getElem?_eq_some_iff.1 hg).1 (by omega)]; exact hg, rest⟩
theorem RL.fx {w w' : World} {rb lo hi : Nat} {A : Option Addr} {l : List Bool} (h : RL w lo hi A l) (hf : Fx rb w w') (hlo : rb < lo) (hhi : hi ≤ w.heap.size) : RL w' lo hi A l :=
  h.keep fun p h1 h2 => hf.cell (by omega) (by omega)
def OneY (cs : Array Value) (n lo rb P : Nat) (w : World) (e : Ending) (w' : World) : Prop := (∃ x, e = .returned (.int .i64 x) ∧ ∃ k, k < n ∧ cs[k]? = some (.int .i64 x)) ∧ RD w' lo rb (P + 1) ∧ Fx rb w w'
/-- 'r.one([]int{..})' -/
theorem one_newY (cs : Array Value) (n lo rb P : Nat) (w : World) (hs : RD w lo rb P) (hP : P ≤ 1000000) (h : ∀ k, k < n → ∃ x, cs[k]? = some (.int .i64 x)) (h0 : 0 < n) (h1 : n ≤ 1000) {g : Nat} (hg : w.heap.size = g) :
    Calls Try.prog 36 #[.pointer (some ⟨rb, 0, none⟩), .slice (some ⟨g, 0, none⟩) n n] (w.alloc (.cells cs 3)) (OneY cs n lo rb P w) := by
  subst hg
  have hlt := hs.lt
  have hal := Below.alloc (Below.refl w.heap.size w) (Nat.le_refl _) (.cells cs 3)
  have C1 := Lib.hid (pickX n lo rb P _ (hs.after hal) hP (by omega))
  have HF := Lib.hid (Fx.of (rb := rb) hal)
  have HB := Lib.hid (Blk.new w 3 cs)
  clear hs hal
  go_enter Try.func36, Try.ntmps36
  go_wp2_with fail
  refine (C1.out).mono ?_
  rintro e w1 ⟨⟨k, rfl, hk, _⟩, hs1, hf1⟩
  have hk := hk h0
  obtain ⟨x, hx⟩ := h k hk
  have HX := Lib.hid hx
  have hc : w1.cell? ⟨w.heap.size, k, none⟩ = some (.int .i64 x) := by
    rw [hf1.cell (by simp) (by show w.heap.size ≠ rb; omega), HB.out.cell, hx]
  have HS := Lib.hid hs1
  have HF := Lib.hid (HF.out.trans hf1)
  clear hs1 hf1 h hx
  go_wp2_with fail
  go_ret
  exact ⟨⟨x, rfl, k, hk, HX.out⟩, HS.out, HF.out⟩
theorem OB.base {w : World} {B B' : Nat} {A : Option Addr} {c : Nat} {l : List Bool} (h : OB w B A c l) (hB : B' ≤ B) : OB w B' A c l := by
  refine ⟨h.1, ?_⟩
  rcases h.2 with hn | ⟨g, cap, cur, hv, h1, rest⟩
  · exact .inl hn
  · exact .inr ⟨g, cap, cur, hv, Nat.le_trans hB h1, rest⟩
/-- a list of bools -/
def SbX (lo rb P : Nat) (w : World) (e : Ending) (w' : World) : Prop := (∃ A c l, e = .returned (.slice A (List.length l) c) ∧ RL w' w.heap.size w'.heap.size A l ∧ l.length ≤ 7 ∧ l.length ≤ c ∧ c ≤ maxLen) ∧ RD w' lo rb P ∧ Fx rb w w'
set_option maxHeartbeats 1600000 in
theorem someBoolsX (lo rb P : Nat) (w : World) (hs : RD w lo rb P) (hP : P ≤ 900000) :
    Calls Try.prog 35 #[.pointer (some ⟨rb, 0, none⟩)] w (SbX lo rb (P + 8) w) := by
  have hrb := hs.lt
  have hal := Below.alloc (Below.refl w.heap.size w) (Nat.le_refl _) (.cells #[] 4)
  have hs0 := hs.after hal
  have hf0 := Fx.of (rb := rb) hal
  have ho0 := OB.new w w.heap.size (Nat.le_refl _)
  have C1 := Lib.hid (one_newY #[.int .i64 3, .int .i64 2, .int .i64 4, .int .i64 1, .int .i64 6, .int .i64 0, .int .i64 7] 7 lo rb P _ hs0 (by omega) (by
    intro k hk
    match k, hk with
    | 0, _ => exact ⟨_, rfl⟩
    | 1, _ => exact ⟨_, rfl⟩
    | 2, _ => exact ⟨_, rfl⟩
    | 3, _ => exact ⟨_, rfl⟩
    | 4, _ => exact ⟨_, rfl⟩
    | 5, _ => exact ⟨_, rfl⟩
    | 6, _ => exact ⟨_, rfl⟩) (by omega) (by omega) (g := w.heap.size + 1) (by simp))
  have HO0 := Lib.hid ho0
  have HF0 := Lib.hid hf0
  clear hs hal hs0 hf0 ho0
  go_enter Try.func35, Try.ntmps35
  go_wp2_with fail
  with_reducible refine (C1.out).mono ?_
  rintro e w1 ⟨⟨x, rfl, kx, hkx, hx⟩, hs1, hf1⟩
  obtain ⟨n0, hn0, hn7⟩ : ∃ n : Nat, x = (n : Int) ∧ n ≤ 7 := by
    match kx, hkx with
    | 0, _ => exact ⟨3, by simp at hx; omega, by omega⟩
    | 1, _ => exact ⟨2, by simp at hx; omega, by omega⟩
    | 2, _ => exact ⟨4, by simp at hx; omega, by omega⟩
    | 3, _ => exact ⟨1, by simp at hx; omega, by omega⟩
    | 4, _ => exact ⟨6, by simp at hx; omega, by omega⟩
    | 5, _ => exact ⟨0, by simp at hx; omega, by omega⟩
    | 6, _ => exact ⟨7, by simp at hx; omega, by omega⟩
  subst hn0
  have HO1 := Lib.hid (HO0.out.fx hf1 hrb)
  have HF1 := Lib.hid (HF0.out.trans hf1)
  have HS1 := Lib.hid hs1
  clear hx C1 HO0 HF0 hs1 hf1
  go_wp2
  go_loopw [3, 4] (fun v i wr => ∃ (n : Nat) (A' : Option Addr) (c' : Nat) (l : List Bool), i = .int .i64 (n : Int) ∧ v = .slice A' l.length c' ∧ l.length + n ≤ 7 ∧ OB wr w.heap.size A' c' l ∧ RD wr lo rb (P + 1 + l.length) ∧ Fx rb w wr) (fun _ i _ => (intOf i).toNat)
  case atStart => exact ⟨n0, _, _, [], rfl, rfl, by simpa using hn7, HO1.out, HS1.out, HF1.out⟩
  case round =>
    obtain ⟨n, A', c', l, rfl, rfl, hln, ho, hs, hf⟩ := hrel
    clear HO1 HF1 HS1
    by_cases hn : n = 0
    · subst hn
      have HO := Lib.hid ho
      have HS := Lib.hid hs
      have HF := Lib.hid hf
      have hcap := ho.cap
      clear ho hs hf
      go_wp2
      go_ret
      exact ⟨⟨A', c', l, rfl, HO.out.rl, by omega, hcap.1, hcap.2⟩, HS.out.more (by omega), HF.out⟩
    · have C2 := Lib.hid (pickX 3 lo rb (P + 1 + l.length) wr hs (by omega) (by omega))
      have HO := Lib.hid ho
      have HF := Lib.hid hf
      have d1 : (0 : Int) < (n : Int) := by omega
      have hw : IntKind.i64.wrap ((n : Int) - 1) = ((n - 1 : Nat) : Int) := by rw [show (n : Int) - 1 = ((n - 1 : Nat) : Int) from by omega]; exact IntWalk.i64_in _ ⟨by omega, by omega⟩
      clear ho hs hf
      go_wp2_with fail
      refine (C2.out).mono ?_
      rintro e w2 ⟨⟨k, rfl, hk, _⟩, hs2, hf2⟩
      have s2 := hf2.size
      have sw := HF.out.size
      have HO2 := Lib.hid ((HO.out.fx hf2 hrb).alloc (.cells #[.bool ((k : Int) == 0)] 4))
      have HF2 := Lib.hid ((HF.out.trans hf2).alloc (.cells #[.bool ((k : Int) == 0)] 4))
      have HS2 := Lib.hid (hs2.after (Below.alloc (Below.refl _ _) (Nat.le_refl _) (.cells #[.bool ((k : Int) == 0)] 4)))
      have hcc : (w2.alloc (.cells #[.bool ((k : Int) == 0)] 4)).cell? ⟨w2.heap.size, 0, none⟩ = some (.bool ((k : Int) == 0)) := (Blk.new w2 4 #[.bool ((k : Int) == 0)]).cell 0
      have HC := Lib.hid hcc
      clear hs2 hf2 C2 HO HF hcc hk
      go_wp2_with (at_builtin; go_loud (refine push_bool rfl _ _ rfl w.heap.size A' c' l ((k : Int) == 0) rfl HO2.out w2.heap.size 1 rfl HC.out (by omega) (by simp; omega) ?_; intro A3 c3 w3 ho3 hb3 _; have HB3 := Lib.hid hb3; have HO3 := Lib.hid ho3; clear hb3 ho3))
      have HF3 := Lib.hid (HF2.out.then_ HB3.out)
      have HS3 := Lib.hid (HS2.out.below HB3.out hrb)
      clear HF2 HS2 HO2 HC HB3
      go_roundw
      case rel => exact ⟨n - 1, A3, c3, l ++ [(k : Int) == 0], by first | rfl | rw [hw], by simp, by simp; omega, HO3.out, HS3.out.more (by simp; omega), HF3.out⟩
      case measure => simp [intOf]; omega
theorem RB.more {w : World} {lo hi hi' : Nat} {A : Option Addr} {l : List Int} (h : RB w lo hi A l) (hh : hi ≤ hi') : RB w lo hi' A l := by
  intro k hk
  obtain ⟨b, o, e, h1, h2, hc⟩ := h k hk
  exact ⟨b, o, e, h1, by omega, hc⟩
def DrawB (w : World) (e : Ending) (w' : World) : Prop := (∃ A c l x, e = .returned (.tuple #[.slice A (List.length l) c, .int .i64 x]) ∧ RL w' w.heap.size w'.heap.size A l ∧ l.length ≤ 7) ∧ Below w.heap.size w w'
theorem DrawTryTask_any (A : Option Addr) (c : Nat) (l : List Int) (w : World) (hb : RB w 0 w.heap.size A l) (hl : l.length ≤ c) (hc : c ≤ maxLen) :
    Calls Try.prog 15 #[.slice A l.length c] w (DrawB w) := by
  have C1 := Lib.hid (newReader_any A c l w hb hl hc)
  clear hb
  go_enter Try.func15, Try.ntmps15
  go_wp2_with fail
  refine (C1.out).mono ?_
  rintro e w1 ⟨rb, rfl, hs1, hf1⟩
  have hrlo := hs1.rd.1
  have hrb := hs1.rd.lt
  have s1 := hf1.1.size
  have C2 := Lib.hid (someBoolsX w.heap.size rb 0 w1 hs1.rd (by omega))
  have HF := Lib.hid hf1.1
  clear hs1 hf1 C1
  go_wp2_with fail
  refine (C2.out).mono ?_
  rintro e w2 ⟨⟨A2, c2, l2, rfl, hl2, hl7, hlc2, hcm2⟩, hs2, hf2⟩
  have s2 := hf2.size
  have C3 := Lib.hid (one_newY #[.int .i64 2, .int .i64 1, .int .i64 3, .int .i64 0, .int .i64 5, .int .i64 6, .int .i64 (-1)] 7 w.heap.size rb _ w2 hs2 (by omega) (by
    intro k hk
    match k, hk with
    | 0, _ => exact ⟨_, rfl⟩
    | 1, _ => exact ⟨_, rfl⟩
    | 2, _ => exact ⟨_, rfl⟩
    | 3, _ => exact ⟨_, rfl⟩
    | 4, _ => exact ⟨_, rfl⟩
    | 5, _ => exact ⟨_, rfl⟩
    | 6, _ => exact ⟨_, rfl⟩) (by omega) (by omega) rfl)
  have HL := Lib.hid hl2
  have HF2 := Lib.hid hf2
  clear hl2 hs2 hf2 C2
  go_wp2_with fail
  with_reducible refine (C3.out).mono ?_
  rintro e w3 ⟨⟨x, rfl, _, _, _⟩, hs3, hf3⟩
  have s3 := hf3.size
  have HL3 := Lib.hid ((HL.out.fx hf3 hrb (Nat.le_refl _)).more s1 s3)
  have HB := Lib.hid (HF.out.trans ((HF2.out.trans hf3).below hrlo hrb))
  clear hs3 hf3 C3
  go_wp2
  go_ret2
  exact ⟨⟨A2, c2, l2, x, rfl, HL3.out, hl7⟩, HB.out⟩
theorem DrawIsFlaky_any (A : Option Addr) (c : Nat) (l : List Int) (w : World) (hb : RB w 0 w.heap.size A l) (hl : l.length ≤ c) (hc : c ≤ maxLen) :
    Calls Try.prog 21 #[.slice A l.length c] w (DrawB w) := by
  have C1 := Lib.hid (DrawTryTask_any A c l w hb hl hc)
  clear hb
  go_enter Try.func21, Try.ntmps21
  go_wp2_with fail
  refine (C1.out).mono ?_
  rintro e w1 ⟨⟨A2, c2, l2, x, rfl, hl2, hl7⟩, hb⟩
  have HL := Lib.hid hl2
  have HB := Lib.hid hb
  clear C1 hl2 hb
  go_wp2
  go_ret2
  exact ⟨⟨A2, c2, l2, x, rfl, HL.out, hl7⟩, HB.out⟩
def DrawBN (w : World) (e : Ending) (w' : World) : Prop := (∃ A c l x y, e = .returned (.tuple #[.slice A (List.length l) c, .int .i64 x, .int .i64 y]) ∧ RL w' w.heap.size w'.heap.size A l ∧ l.length ≤ 7) ∧ Below w.heap.size w w'
theorem DrawTryTime_any (A : Option Addr) (c : Nat) (l : List Int) (w : World) (hb : RB w 0 w.heap.size A l) (hl : l.length ≤ c) (hc : c ≤ maxLen) :
    Calls Try.prog 18 #[.slice A l.length c] w (DrawBN w) := by
  have C1 := Lib.hid (newReader_any A c l w hb hl hc)
  have HRB := Lib.hid hb
  clear hb
  go_enter Try.func18, Try.ntmps18
  go_wp2_with fail
  refine (C1.out).mono ?_
  rintro e w1 ⟨rb, rfl, hs1, hf1⟩
  have hrlo := hs1.rd.1
  have hrb := hs1.rd.lt
  have s1 := hf1.1.size
  have C2 := Lib.hid (DrawTryTask_any A c l w1 ((HRB.out.below hf1.1 (Nat.le_refl _)).more s1) hl hc)
  have HF := Lib.hid hf1.1
  have HRD := Lib.hid hs1.rd
  clear hs1 hf1 C1 HRB
  go_wp2_with fail
  refine (C2.out).mono ?_
  rintro e w2 ⟨⟨A2, c2, l2, x, rfl, hl2, hl7⟩, hb2⟩
  have s2 := hb2.size
  have C3 := Lib.hid (one_newY #[.int .i64 1, .int .i64 5, .int .i64 20, .int .i64 0, .int .i64 21, .int .i64 7] 6 w.heap.size rb _ w2 (HRD.out.after hb2) (by omega) (by
    intro k hk
    match k, hk with
    | 0, _ => exact ⟨_, rfl⟩
    | 1, _ => exact ⟨_, rfl⟩
    | 2, _ => exact ⟨_, rfl⟩
    | 3, _ => exact ⟨_, rfl⟩
    | 4, _ => exact ⟨_, rfl⟩
    | 5, _ => exact ⟨_, rfl⟩) (by omega) (by omega) rfl)
  have HL := Lib.hid hl2
  have HB2 := Lib.hid (HF.out.trans (hb2.mono s1))
  clear hl2 hb2 C2
  go_wp2_with fail
  with_reducible refine (C3.out).mono ?_
  rintro e w3 ⟨⟨y, rfl, _, _, _⟩, hs3, hf3⟩
  have s3 := hf3.size
  have HL3 := Lib.hid ((HL.out.fx hf3 hrb (Nat.le_refl _)).more s1 s3)
  have HB := Lib.hid (HB2.out.trans (hf3.below hrlo (by omega)))
  clear hs3 hf3 C3
  go_wp2
  go_ret3
  exact ⟨⟨A2, c2, l2, x, y, rfl, HL3.out, hl7⟩, HB.out⟩
theorem DrawDelayOf_any (A : Option Addr) (c : Nat) (l : List Int) (w : World) (hb : RB w 0 w.heap.size A l) (hl : l.length ≤ c) (hc : c ≤ maxLen) :
    Calls Try.prog 12 #[.slice A l.length c] w fun e w' => (∃ k : Nat, k < 8 ∧ e = .returned (.int .i64 ((k : Int) - 1))) ∧ Below w.heap.size w w' := by
  have C1 := Lib.hid (newReader_any A c l w hb hl hc)
  clear hb
  go_enter Try.func12, Try.ntmps12
  go_wp2_with fail
  refine (C1.out).mono ?_
  rintro e w1 ⟨rb, rfl, hs1, hf1⟩
  have hrlo := hs1.rd.1
  have hrb := hs1.rd.lt
  have C2 := Lib.hid (pickX 8 w.heap.size rb 0 w1 hs1.rd (by omega) (by omega))
  have HF := Lib.hid hf1.1
  clear hs1 hf1 C1
  go_wp2_with fail
  refine (C2.out).mono ?_
  rintro e w2 ⟨⟨k, rfl, hk, _⟩, hs2, hf2⟩
  have hk8 := hk (by omega)
  have hw : IntKind.i64.wrap ((k : Int) - 1) = (k : Int) - 1 := IntWalk.i64_in _ ⟨by omega, by omega⟩
  have HB := Lib.hid (HF.out.trans (hf2.below hrlo hrb))
  clear hs2 hf2 C2 hk
  go_wp2
  go_ret
  exact ⟨⟨k, hk8, rfl⟩, HB.out⟩
end Go.Proofs.Ytoggbndpjcfmiaa
