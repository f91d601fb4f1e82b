/-
  MERGED TEXTS: Math94 R74 X15 X16.
-/
import Derived.Test.YtenneicbhpjfmaaK16
import Derived.Test.YtenneicbhpjfmaaMath93
import Derived.Test.YtenneicbhpjfmaaK29
import Derived.Test.YtenneicbhpjfmaaK15
import Derived.Test.YtenneicbhpjfmaaK17
namespace Go.Proofs.Ytenneicbhpjfmaa.Bs
/-- who of the first tasks is over at a time -/
def ovE (g : List T) (S : List Int) (t : Int) : Nat → List E
  | 0 => []
  | k + 1 => if giZ S k + timeOf g k == t then ovE g S t k ++ [⟨t, (k : Int), true⟩] else ovE g S t k
/-- who begins -/
def bgE (S : List Int) (t : Int) : Nat → List E
  | 0 => []
  | k + 1 => if giZ S k == t then bgE S t k ++ [⟨t, (k : Int), false⟩] else bgE S t k
/-- the events of the first times -/
def lgK (g : List T) (S : List Int) : Nat → List E
  | 0 => []
  | t + 1 => lgK g S t ++ (ovE g S (t : Int) g.length ++ bgE S (t : Int) g.length)
def logL (g : List T) (m : List Int) (wk : Int) (S : List Int) : List E := if stV g m wk S then lgK g S 221 else []
theorem ovE_len (g : List T) (S : List Int) (t : Int) : ∀ k, (ovE g S t k).length ≤ k := by
  intro k
  induction k with
  | zero => simp [ovE]
  | succ k ih =>
    show (if _ then _ else _ : List E).length ≤ _
    split
    · rw [List.length_append, List.length_singleton]; omega
    · omega
theorem bgE_len (S : List Int) (t : Int) : ∀ k, (bgE S t k).length ≤ k := by
  intro k
  induction k with
  | zero => simp [bgE]
  | succ k ih =>
    show (if _ then _ else _ : List E).length ≤ _
    split
    · rw [List.length_append, List.length_singleton]; omega
    · omega
theorem lgK_len (g : List T) (S : List Int) : ∀ t, (lgK g S t).length ≤ 2 * g.length * t := by
  intro t
  induction t with
  | zero => simp [lgK]
  | succ t ih =>
    show (_ ++ (_ ++ _) : List E).length ≤ _
    rw [List.length_append, List.length_append]
    have h1 := ovE_len g S (t : Int) g.length
    have h2 := bgE_len S (t : Int) g.length
    rw [Nat.mul_succ]
    omega
theorem lgK_len8 {g : List T} (S : List Int) {t : Nat} (h8 : g.length ≤ 8) (ht : t ≤ 221) : (lgK g S t).length ≤ 3536 := by
  have h1 := lgK_len g S t
  have h2 : 2 * g.length * t ≤ 2 * 8 * 221 := Nat.mul_le_mul (by omega) ht
  omega
theorem logL_no {g : List T} {m S : List Int} {wk : Int} (h : stV g m wk S = false) : logL g m wk S = [] := by unfold logL; rw [h]; rfl
theorem logL_yes {g : List T} {m S : List Int} {wk : Int} (h : stV g m wk S = true) : logL g m wk S = lgK g S 221 := by unfold logL; rw [h]; rfl
end Go.Proofs.Ytenneicbhpjfmaa.Bs
namespace Go.Proofs.Ytenneicbhpjfmaa
open Go.RowKit
set_option maxRecDepth 20000 in
set_option maxHeartbeats 3200000 in
theorem LogOfS_any (A : Option Addr) (c : Nat) (g : List Bs.T) (A1 : Option Addr) (c1 : Nat) (m : List Int) (A2 : Option Addr) (c2 : Nat) (S : List Int) (wk : Int) (lo hi l1 h1 l2 h2 : Nat) (w : World) (h : RG w lo hi A g) (hh : hi ≤ w.heap.size) (hm : RI w l1 h1 A1 m) (hh1 : h1 ≤ w.heap.size) (hs : RI w l2 h2 A2 S) (hh2 : h2 ≤ w.heap.size) (hl : g.length ≤ 9223372036854775807) (hml : m.length ≤ 9223372036854775807) (hsl : S.length ≤ 9223372036854775807) :
    Calls Try.prog 21 #[.slice A g.length c, .slice A1 m.length c1, .int .i64 wk, .slice A2 S.length c2] w (RetE w (Bs.logL g m wk S)) := by
  have hb0 : Below w.heap.size w (w.alloc (.cells #[] 30)) := (Below.refl _ _).alloc (Nat.le_refl _) _
  have q1 := validStartsS_any A c g A1 c1 m A2 c2 S wk lo hi l1 h1 l2 h2 _ (h.below hb0 hh) (by simp; omega) (hm.below hb0 hh1) (by simp; omega) (hs.below hb0 hh2) (by simp; omega) hl hml hsl
  have hsz0 : (w.alloc (.cells #[] 30)).heap.size = w.heap.size + 1 := by simp
  cases hv : Bs.stV g m wk S
  · rw [hv] at q1
    have C1 := Lib.hid q1
    have HB0 := Lib.hid hb0
    rw [Bs.logL_no hv]
    clear q1 hv h hm hs hb0
    go_enter Try.func21, Try.ntmps21
    go_wp2_with fail
    with_reducible refine (C1.out).mono ?_
    rintro e w1 ⟨rfl, hb⟩
    have HB := Lib.hid (HB0.out.trans (hb.mono HB0.out.size))
    clear hb
    go_wp2
    go_ret
    exact ⟨⟨none, 0, rfl, OE.none_ _ _⟩, HB.out⟩
  rw [hv] at q1
  have C1 := Lib.hid q1
  obtain ⟨hcan, hclk, _⟩ := Bs.stV_iff.1 hv
  have hF := valid_fine (Bs.canV_iff.1 hcan).1
  have h8 := Bs.fine_len hF
  have HSG := Lib.hid (fun (k : Nat) (hk : k < g.length) => show k < S.length from by have := Bs.clk_len hclk; omega)
  have HC := Lib.hid (fun i => Bs.clk_at hclk i)
  have HT := Lib.hid (fun k (hk : k < g.length) => Bs.fine_time' hF hk)
  have HLL := Lib.hid (fun t (ht : t ≤ 221) => Bs.lgK_len8 (g := g) S h8 ht)
  have HKS := Lib.hid (fun t => show Bs.lgK g S (t + 1) = Bs.lgK g S t ++ (Bs.ovE g S (t : Int) g.length ++ Bs.bgE S (t : Int) g.length) from rfl)
  have HOS := Lib.hid (fun (t : Int) k => show Bs.ovE g S t (k + 1) = if Bs.giZ S k + Bs.timeOf g k == t then Bs.ovE g S t k ++ [⟨t, (k : Int), true⟩] else Bs.ovE g S t k from rfl)
  have HBS := Lib.hid (fun (t : Int) k => show Bs.bgE S t (k + 1) = if Bs.giZ S k == t then Bs.bgE S t k ++ [⟨t, (k : Int), false⟩] else Bs.bgE S t k from rfl)
  have HOL := Lib.hid (fun (t : Int) k => Bs.ovE_len g S t k)
  have HBL := Lib.hid (fun (t : Int) k => Bs.bgE_len S t k)
  have HG := Lib.hid h
  have HR := Lib.hid hs
  rw [Bs.logL_yes hv]
  have HO0 := Lib.hid (OE.nil w w.heap.size (Nat.le_refl _))
  have HB0 := Lib.hid hb0
  clear q1 hv h hm hs hb0 hcan hclk hF
  go_enter Try.func21, Try.ntmps21
  go_wp2_with fail
  with_reducible refine (C1.out).mono ?_
  rintro e w1 ⟨rfl, hb⟩
  have HO1 := Lib.hid (HO0.out.below hb (Nat.le_refl _))
  have HB1 := Lib.hid (HB0.out.trans (hb.mono HB0.out.size))
  clear hb HO0 HB0 C1
  go_wp2
  go_loopw [9, 10] (fun v i wr => ∃ (t : Nat) (A' : Option Addr) (c' : Nat) (o : List Bs.E), t ≤ 221 ∧ i = .int .i64 (t : Int) ∧ v = .slice A' o.length c' ∧ o = Bs.lgK g S t ∧ OE wr w.heap.size A' c' o ∧ Below w.heap.size w wr) (fun _ i _ => 221 - (intOf i).toNat)
  case atStart => exact ⟨0, _, _, [], by omega, rfl, rfl, rfl, HO1.out, HB1.out⟩
  case round =>
    obtain ⟨t, A', c', o, ht, rfl, rfl, ho, hO, hb⟩ := hrel
    clear HO1 HB1
    have hol := HLL.out t ht
    rw [← ho] at hol
    have HOr := Lib.hid hO
    have HBr := Lib.hid hb
    clear hO hb
    by_cases hlt : t < 221
    · have d1 : decide ((t : Int) ≤ 220) = true := by simp; omega
      have hks := HKS.out t
      rw [← ho] at hks
      have HKr := Lib.hid hks
      clear hks ho
      go_wp2
      go_loopw [9, 11] (fun v i wr => ∃ (k : Nat) (A' : Option Addr) (c' : Nat) (r : List Bs.E), k ≤ g.length ∧ i = .int .i64 (k : Int) ∧ v = .slice A' r.length c' ∧ r = o ++ Bs.ovE g S (t : Int) k ∧ OE wr w.heap.size A' c' r ∧ Below w.heap.size w wr) (fun _ i _ => g.length - (intOf i).toNat)
      case atStart => exact ⟨0, _, _, o, Nat.zero_le _, rfl, rfl, (List.append_nil o).symm, HOr.out, HBr.out⟩
      case round =>
        obtain ⟨k, A', c', r, hk, rfl, rfl, hp, hO, hb⟩ := hrel
        clear HOr HBr
        have hpl := HOL.out (t : Int) k
        have hopl : r.length ≤ 4000 := by rw [hp, List.length_append]; omega
        by_cases hkl : k < g.length
        · obtain ⟨bg, og, N, cN, rfl, g1, g2, k0, k1, k2, k3, hnc, hcN, hN⟩ := (HG.out.below hb hh) k hkl
          obtain ⟨bs, os, rfl, _, _, s0⟩ := (HR.out.below hb hh2).at_ (k := k) (HSG.out k hkl)
          have hti := HT.out k hkl
          have hci := HC.out k
          have hos := HOS.out (t : Int) k
          rw [Bs.timeOf_eq hkl] at hos
          have hos2 := congrArg (o ++ ·) hos
          rw [apply_ite (o ++ ·), ← List.append_assoc, ← hp] at hos2
          clear hos
          rw [← Bs.giZ_at (HSG.out k hkl)] at s0
          generalize Bs.giZ S k = sv at *
          generalize g[k].time = tv at *
          have hw1 : IntKind.i64.wrap (sv + tv) = sv + tv := IntWalk.i64_in _ ⟨by omega, by omega⟩
          have j0 : (0 : Int) ≤ (k : Int) := by omega
          have j1 : (k : Int) < (g.length : Int) := by omega
          have j2 : (k : Int) < (S.length : Int) := by have := HSG.out k hkl; omega
          have HOr := Lib.hid hO
          have HBr := Lib.hid hb
          have sr := hb.size
          clear hO hb hN k2 k3 hnc hp hti hci hpl
          cases hq : (sv + tv == (t : Int))
          · rw [hq] at hos2
            have HOSr := Lib.hid hos2
            clear hos2
            go_wp2
            go_quiet (fail)
            go_wp2
            go_roundw
            case rel => exact ⟨k + 1, _, _, r, by omega, by go_num, rfl, HOSr.out.symm, HOr.out.drewN _, HBr.out.drewN _⟩
            case measure => simp [intOf]; omega
          · rw [hq] at hos2
            have HOSr := Lib.hid hos2
            clear hos2
            go_wp2
            go_quiet (fail)
            go_wp2_with (at_builtin; go_loud (refine push_evs rfl _ _ rfl w.heap.size A' c' r [⟨(t : Int), (k : Int), true⟩] rfl ((HOr.out.drewN _).alloc _) wr.heap.size 1 rfl (new_cellsE (wr.drewN _) _) (by simp; omega) (by simp; omega) ?_; intro A6 c6 w6 ho6 hb6; have HO6 := Lib.hid ho6; have HB6 := Lib.hid (((HBr.out.drewN _).alloc HBr.out.size (.cells #[.int .i64 (t : Int), .int .i64 (k : Int), .bool true] 30)).trans (hb6)); clear ho6 hb6))
            go_roundw
            case rel => exact ⟨k + 1, A6, c6, r ++ [⟨(t : Int), (k : Int), true⟩], by omega, by go_num, by simp, HOSr.out.symm, HO6.out, HB6.out⟩
            case measure => simp [intOf]; omega
        · obtain rfl : k = g.length := by omega
          have HOr := Lib.hid hO
          have HBr := Lib.hid hb
          clear hO hb
          rw [← List.append_assoc, ← hp] at HKr
          clear hp hpl
          go_wp2
          go_loopw [9, 12] (fun v i wr => ∃ (k : Nat) (A' : Option Addr) (c' : Nat) (q : List Bs.E), k ≤ g.length ∧ i = .int .i64 (k : Int) ∧ v = .slice A' q.length c' ∧ q = r ++ Bs.bgE S (t : Int) k ∧ OE wr w.heap.size A' c' q ∧ Below w.heap.size w wr) (fun _ i _ => g.length - (intOf i).toNat)
          case atStart => exact ⟨0, _, _, r, Nat.zero_le _, rfl, rfl, (List.append_nil r).symm, HOr.out, HBr.out⟩
          case round =>
            obtain ⟨k, A', c', q, hk, rfl, rfl, hp, hO, hb⟩ := hrel
            clear HOr HBr
            have hpl := HBL.out (t : Int) k
            have hoql : q.length ≤ 5000 := by rw [hp, List.length_append]; omega
            by_cases hkl : k < g.length
            · obtain ⟨bs, os, rfl, _, _, s0⟩ := (HR.out.below hb hh2).at_ (k := k) (HSG.out k hkl)
              have hos := HBS.out (t : Int) k
              have hos2 := congrArg (r ++ ·) hos
              rw [apply_ite (r ++ ·), ← List.append_assoc, ← hp] at hos2
              clear hos
              rw [← Bs.giZ_at (HSG.out k hkl)] at s0
              generalize Bs.giZ S k = sv at *
              have j0 : (0 : Int) ≤ (k : Int) := by omega
              have j1 : (k : Int) < (g.length : Int) := by omega
              have j2 : (k : Int) < (S.length : Int) := by have := HSG.out k hkl; omega
              have HOr := Lib.hid hO
              have HBr := Lib.hid hb
              have sr := hb.size
              clear hO hb hp hpl
              cases hq : (sv == (t : Int))
              · rw [hq] at hos2
                have HOSr := Lib.hid hos2
                clear hos2
                go_wp2
                go_roundw
                case rel => exact ⟨k + 1, _, _, q, by omega, by go_num, rfl, HOSr.out.symm, HOr.out, HBr.out⟩
                case measure => simp [intOf]; omega
              · rw [hq] at hos2
                have HOSr := Lib.hid hos2
                clear hos2
                go_wp2_with (at_builtin; go_loud (refine push_evs rfl _ _ rfl w.heap.size A' c' q [⟨(t : Int), (k : Int), false⟩] rfl (HOr.out.alloc _) wr.heap.size 1 rfl (new_cellsE _ _) (by simp; omega) (by simp; omega) ?_; intro A6 c6 w6 ho6 hb6; have HO6 := Lib.hid ho6; have HB6 := Lib.hid ((HBr.out.alloc HBr.out.size (.cells #[.int .i64 (t : Int), .int .i64 (k : Int), .bool false] 30)).trans (hb6)); clear ho6 hb6))
                go_roundw
                case rel => exact ⟨k + 1, A6, c6, q ++ [⟨(t : Int), (k : Int), false⟩], by omega, by go_num, by simp, HOSr.out.symm, HO6.out, HB6.out⟩
                case measure => simp [intOf]; omega
            · obtain rfl : k = g.length := by omega
              have HOr := Lib.hid hO
              have HBr := Lib.hid hb
              rw [← hp] at HKr
              have HKr2 := Lib.hid HKr.out
              clear hO hb hp
              go_wp2
              go_roundw
              case rel => exact ⟨t + 1, A', c', q, by omega, by go_num, rfl, HKr2.out.symm, HOr.out, HBr.out⟩
              case measure => simp [intOf]; omega
    · obtain rfl : t = 221 := by omega
      go_wp2
      go_ret
      rw [← ho]
      exact ⟨⟨_, _, rfl, HOr.out⟩, HBr.out⟩
end Go.Proofs.Ytenneicbhpjfmaa
namespace Go.Proofs.Ytenneicbhpjfmaa
open Go.RowKit
theorem oneE7 (a0 a1 a2 a3 a4 a5 a6 : Int) : ∀ k, k < 7 → ∃ x, (#[Value.int .i64 a0, .int .i64 a1, .int .i64 a2, .int .i64 a3, .int .i64 a4, .int .i64 a5, .int .i64 a6] : Array Value)[k]? = some (.int .i64 x) := by
  intro k hk
  match k, hk with
  | 0, _ => exact ⟨_, rfl⟩
  | 1, _ => exact ⟨_, rfl⟩
  | 2, _ => exact ⟨_, rfl⟩
  | 3, _ => exact ⟨_, rfl⟩
  | 4, _ => exact ⟨_, rfl⟩
  | 5, _ => exact ⟨_, rfl⟩
  | 6, _ => exact ⟨_, rfl⟩
def OneE (p : Int → Prop) (lo rb P : Nat) (w : World) (e : Ending) (w' : World) : Prop := (∃ x, e = .returned (.int .i64 x) ∧ p x) ∧ RD w' lo rb (P + 1) ∧ Fx rb w w'
theorem one_newE (p : Int → Prop) (cs : Array Value) (n lo rb P : Nat) (w : World) (hs : RD w lo rb P) (hP : P ≤ 1000000) (h : ∀ k, k < n → ∃ x, cs[k]? = some (.int .i64 x) ∧ p x) (h0 : 0 < n) (h1 : n ≤ 1000) {g : Nat} (hg : w.heap.size = g) :
    Calls Try.prog 53 #[.pointer (some ⟨rb, 0, none⟩), .slice (some ⟨g, 0, none⟩) n n] (w.alloc (.cells cs 3)) (OneE p lo rb P w) := by
  subst hg
  have hlt := hs.lt
  have hal := Below.alloc (Below.refl w.heap.size w) (Nat.le_refl _) (.cells cs 3)
  have C1 := Lib.hid (pickX n lo rb P _ (hs.after hal) hP (by omega))
  have HF := Lib.hid (Fx.of (rb := rb) hal)
  have HB := Lib.hid (Blk.new w 3 cs)
  clear hs hal
  go_enter Try.func53, Try.ntmps53
  go_wp2_with fail
  refine (C1.out).mono ?_
  rintro e w1 ⟨⟨k, rfl, hk, _⟩, hs1, hf1⟩
  have hk := hk h0
  obtain ⟨x, hx, hpx⟩ := h k hk
  have hc : w1.cell? ⟨w.heap.size, k, none⟩ = some (.int .i64 x) := by
    rw [hf1.cell (by simp) (by show w.heap.size ≠ rb; omega), HB.out.cell, hx]
  have HS := Lib.hid hs1
  have HF := Lib.hid (HF.out.trans hf1)
  have HP := Lib.hid hpx
  clear hs1 hf1 h hx hpx
  go_wp2_with fail
  go_ret
  exact ⟨⟨x, rfl, HP.out⟩, HS.out, HF.out⟩
theorem oneEs : ∀ k, k < 7 → ∃ x, (#[Value.int .i64 3, .int .i64 4, .int .i64 2, .int .i64 1, .int .i64 0, .int .i64 6, .int .i64 7] : Array Value)[k]? = some (.int .i64 x) ∧ (0 ≤ x ∧ x ≤ 7) := by
  intro k hk
  match k, hk with
  | 0, _ => exact ⟨_, rfl, by decide⟩
  | 1, _ => exact ⟨_, rfl, by decide⟩
  | 2, _ => exact ⟨_, rfl, by decide⟩
  | 3, _ => exact ⟨_, rfl, by decide⟩
  | 4, _ => exact ⟨_, rfl, by decide⟩
  | 5, _ => exact ⟨_, rfl, by decide⟩
  | 6, _ => exact ⟨_, rfl, by decide⟩
theorem oneE5 (a0 a1 a2 a3 a4 : Int) : ∀ k, k < 5 → ∃ x, (#[Value.int .i64 a0, .int .i64 a1, .int .i64 a2, .int .i64 a3, .int .i64 a4] : Array Value)[k]? = some (.int .i64 x) := by
  intro k hk
  match k, hk with
  | 0, _ => exact ⟨_, rfl⟩
  | 1, _ => exact ⟨_, rfl⟩
  | 2, _ => exact ⟨_, rfl⟩
  | 3, _ => exact ⟨_, rfl⟩
  | 4, _ => exact ⟨_, rfl⟩
/-- what a draw of a list and a number hands back -/
def DrawLA (w : World) (e : Ending) (w' : World) : Prop := (∃ A2 c2 l x, e = .returned (.tuple #[.slice A2 (List.length l) c2, .int .i64 x]) ∧ RI w' w.heap.size w'.heap.size A2 l ∧ l.length ≤ 100 ∧ l.length ≤ c2 ∧ c2 ≤ maxLen) ∧ Below w.heap.size w w'
end Go.Proofs.Ytenneicbhpjfmaa
namespace Go.Proofs.Ytenneicbhpjfmaa
open Go.RowKit
theorem OE.fx {w w' : World} {rb B : Nat} {A : Option Addr} {c : Nat} {l : List Bs.E} (h : OE w B A c l) (hf : Fx rb w w') (hB : rb < B) : OE w' B A c l := by
  refine ⟨h.1, ?_⟩
  rcases h.2 with hn | ⟨g, cap, cur, hv, h1, hg, rest⟩
  · exact .inl hn
  · exact .inr ⟨g, cap, cur, hv, h1, by rw [hf.block g (Array.getElem?_eq_some_iff.1 hg).1 (by omega)]; exact hg, rest⟩
theorem RE.fx {w w' : World} {rb lo hi : Nat} {A : Option Addr} {l : List Bs.E} (h : RE w lo hi A l) (hf : Fx rb w w') (hlo : rb < lo) (hhi : hi ≤ w.heap.size) : RE w' lo hi A l :=
  h.keep fun p h1 h2 => hf.cell (by omega) (by omega)
theorem ec_take : ∀ (l : List Bs.E) (n : Nat), (l.take n).flatMap ec = (l.flatMap ec).take (n * 3)
  | [], n => by simp
  | x :: r, 0 => by simp
  | x :: r, n + 1 => by
    rw [List.take_succ_cons, List.flatMap_cons, List.flatMap_cons, ec_take r n, List.take_append]
    have e : (ec x).length = 3 := rfl
    rw [e, List.take_of_length_le (l := ec x) (by rw [e]; omega), show (n + 1) * 3 - 3 = n * 3 from by omega]
theorem OE.cut {w : World} {B : Nat} {A : Option Addr} {c : Nat} {l : List Bs.E} (h : OE w B A c l) (h0 : 0 < l.length) {n : Nat} (hn : n ≤ l.length) : OE w B A c (l.take n) := by
  have hl : (l.take n).length = n := by rw [List.length_take]; omega
  refine ⟨OE.len, ?_⟩
  rcases h.2 with ⟨hv, h1⟩ | ⟨g, cap, cur, hv, h1, hg, hnc, hcm, hcs, ht⟩
  · omega
  · injection hv with hA hx hc
    subst hA
    subst hc
    refine .inr ⟨g, c, cur, rfl, h1, hg, by omega, hcm, hcs, ?_⟩
    rw [hl, ec_take, ← ht, List.take_take, Nat.min_eq_left (Nat.mul_le_mul_right 3 hn)]
theorem logL_len (g : List Bs.T) (m : List Int) (wk : Int) (S : List Int) : (Bs.logL g m wk S).length ≤ 3536 := by
  cases hv : Bs.stV g m wk S
  · rw [Bs.logL_no hv]; simp
  · rw [Bs.logL_yes hv]
    exact Bs.lgK_len8 S (Bs.fine_len (valid_fine (Bs.canV_iff.1 (Bs.stV_iff.1 hv).1).1)) (Nat.le_refl _)
theorem oneE3 (a0 a1 a2 : Int) : ∀ k, k < 3 → ∃ x, (#[Value.int .i64 a0, .int .i64 a1, .int .i64 a2] : Array Value)[k]? = some (.int .i64 x) := by
  intro k hk
  match k, hk with
  | 0, _ => exact ⟨_, rfl⟩
  | 1, _ => exact ⟨_, rfl⟩
  | 2, _ => exact ⟨_, rfl⟩
/-- events, drawn -/
def EvX (lo rb P : Nat) (w : World) (e : Ending) (w' : World) : Prop := (∃ A c l, e = .returned (.slice A (List.length l) c) ∧ OE w' w.heap.size A c l ∧ l.length ≤ 3536) ∧ RD w' lo rb P ∧ Fx rb w w'
theorem anyLogEnd (w : World) (lor rb P : Nat) (A5 : Option Addr) (c5 : Nat) (L : List Bs.E) (w2 : World) (hO : OE w2 w.heap.size A5 c5 L) (hL : L.length ≤ 3536) (hs : RD w2 lor rb P) (hF : Fx rb w w2) : EvX lor rb P w (.returned (.slice A5 L.length c5)) w2 :=
  ⟨⟨A5, c5, L, rfl, hO, hL⟩, hs, hF⟩
set_option maxRecDepth 20000 in
set_option maxHeartbeats 3200000 in
theorem anyLogX (A : Option Addr) (c : Nat) (g : List Bs.T) (lo hi lor rb P : Nat) (w : World) (hs : RD w lor rb P) (hP : P ≤ 700000) (hg : RGs rb w lo hi A g) (hh : hi ≤ w.heap.size) (hg16 : g.length ≤ 16) :
    Calls Try.prog 44 #[.pointer (some ⟨rb, 0, none⟩), .slice A g.length c] w (EvX lor rb (P + 40) w) := by
  have hrb := hs.lt
  have C1 := Lib.hid (someStartsX A c g lo hi lor rb P w hs hP hg hh hg16)
  have HG := Lib.hid hg
  clear hs hg
  go_enter Try.func44, Try.ntmps44
  go_wp2_with fail
  refine (C1.out).mono ?_
  rintro e w1 ⟨⟨A2, c2, m, x, A3, c3, S, rfl, hm, hm100, hmc, hmm, hS, hS100, hSc, hSm⟩, hs1, hf1⟩
  have s1 := hf1.size
  have C2 := Lib.hid (LogOfS_any A c g A2 c2 m A3 c3 S x lo hi w.heap.size w1.heap.size w.heap.size w1.heap.size w1 (HG.out.fx hf1 hh).rg (by omega) hm (Nat.le_refl _) hS (Nat.le_refl _) (by omega) (by omega) (by omega))
  have hLL := logL_len g m x S
  have HS1 := Lib.hid hs1
  have HF1 := Lib.hid hf1
  clear hs1 hf1 hm hS C1 HG hmc hmm hSc hSm hm100 hS100
  generalize Bs.logL g m x S = L at *
  go_wp2_with fail
  refine (C2.out).mono ?_
  rintro e w2 ⟨⟨A5, c5, rfl, hO⟩, hb2⟩
  have s2 := hb2.size
  have HO2 := Lib.hid (hO.lower s1)
  have HS2 := Lib.hid (HS1.out.after hb2)
  have HF2 := Lib.hid (HF1.out.then_ (hb2.mono s1))
  have hcap := HO2.out.cap
  clear hO hb2 C2 HS1 HF1
  by_cases hL0 : L.length = 0
  · have e1 : decide ((0 : Int) < (L.length : Int)) = false := by simp [hL0]
    have e1' : decide (0 < L.length) = false := by simp [hL0]
    have e1'' : decide ((L.length : Int) > 0) = false := by simp [hL0]
    have HE := Lib.hid (anyLogEnd w lor rb (P + 40) A5 c5 L w2 HO2.out hLL (HS2.out.more (by omega)) HF2.out)
    go_wp2_with fail
    go_ret
    exact (by have := HE.out; rw [hL0] at this; exact this)
  have e1 : decide ((0 : Int) < (L.length : Int)) = true := by simp; omega
  have e1' : decide (0 < L.length) = true := by simp; omega
  have e1'' : decide ((L.length : Int) > 0) = true := by simp; omega
  have C3 := Lib.hid (pickX 3 lor rb (P + 20) w2 HS2.out (by omega) (by omega))
  go_wp2_with fail
  refine (C3.out).mono ?_
  rintro e w3 ⟨⟨k3, rfl, _, _⟩, hs3, hf3⟩
  have s3 := hf3.size
  have HSw3 := Lib.hid hs3
  have HFw3 := Lib.hid (HF2.out.trans hf3)
  have HOw3 := Lib.hid (HO2.out.fx hf3 hrb)
  clear hs3 hf3 C3 HS2 HF2 HO2
  by_cases hk3 : k3 = 0
  rotate_left
  · have f0 : ((k3 : Int) == 0) = false := by rw [beq_eq_false_iff_ne]; omega
    have f0' : (k3 == 0) = false := by rw [beq_eq_false_iff_ne]; omega
    have C4 := Lib.hid (pickX 10 lor rb (P + 21) w3 HSw3.out (by omega) (by omega))
    go_wp2_with fail
    refine (C4.out).mono ?_
    rintro e w5 ⟨⟨k5, rfl, _, _⟩, hs5, hf5⟩
    have HS5 := Lib.hid hs5
    have HF5 := Lib.hid (HFw3.out.trans hf5)
    have HO5 := Lib.hid (HOw3.out.fx hf5 hrb)
    have s5 := HF5.out.size
    clear hs5 hf5 C4
    by_cases hk5 : k5 = 0
    rotate_left
    · have f1 : ((k5 : Int) == 0) = false := by rw [beq_eq_false_iff_ne]; omega
      have f1' : (k5 == 0) = false := by rw [beq_eq_false_iff_ne]; omega
      have HE := Lib.hid (anyLogEnd w lor rb (P + 40) _ c5 (L) w5 HO5.out (by omega) (HS5.out.more (by omega)) HF5.out)
      go_wp2
      go_ret
      exact HE.out
    · subst hk5
      have C5 := Lib.hid (pickX L.length lor rb (P + 22) w5 HS5.out (by omega) (by omega))
      go_wp2_with fail
      refine (C5.out).mono ?_
      rintro e w6 ⟨⟨j, rfl, hj, _⟩, hs6, hf6⟩
      have hjl := hj (by omega)
      have HO6 := Lib.hid (HO5.out.fx hf6 hrb)
      have HF6 := Lib.hid (HF5.out.trans hf6)
      have HS6 := Lib.hid hs6
      have s6 := HF6.out.size
      clear hs6 hf6 C5 hj
      have C6 := Lib.hid (one_newX #[.int .i64 0, .int .i64 5, .int .i64 201] 3 lor rb (P + 23) w6 HS6.out (by omega) (oneE3 0 5 201) (by omega) (by omega) rfl)
      go_wp2_with fail
      refine (C6.out).mono ?_
      rintro e w7 ⟨⟨y, rfl⟩, hs7, hf7⟩
      have HO7 := Lib.hid (HO6.out.fx hf7 hrb)
      have HF7 := Lib.hid (HF6.out.trans hf7)
      have HS7 := Lib.hid hs7
      have s7 := HF7.out.size
      clear hs7 hf7 C6
      have C7 := Lib.hid (pickX 9 lor rb (P + 24) w7 HS7.out (by omega) (by omega))
      go_wp2_with fail
      refine (C7.out).mono ?_
      rintro e w8 ⟨⟨a8, rfl, _, _⟩, hs8, hf8⟩
      have HO8 := Lib.hid (HO7.out.fx hf8 hrb)
      have HF8 := Lib.hid (HF7.out.trans hf8)
      have HS8 := Lib.hid hs8
      have s8 := HF8.out.size
      clear hs8 hf8 C7
      have C8 := Lib.hid (pickX 2 lor rb (P + 25) w8 HS8.out (by omega) (by omega))
      go_wp2_with fail
      refine (C8.out).mono ?_
      rintro e w9 ⟨⟨q9, rfl, _, _⟩, hs9, hf9⟩
      have ho9 := HO8.out.fx hf9 hrb
      have HF9 := Lib.hid (HF8.out.trans hf9)
      have HS9 := Lib.hid hs9
      have s9 := HF9.out.size
      clear hs9 hf9 C8
      obtain ⟨b, hA, hbB, _, _, _⟩ := ho9.blk (by omega)
      cases hA
      have HO9 := Lib.hid ho9
      clear ho9
      obtain ⟨qb, hqb⟩ : ∃ qb, ((q9 : Int) == 0) = qb := ⟨_, rfl⟩
      have hqb' : (q9 == 0) = qb := by rw [← hqb, Bool.eq_iff_iff]; simp
      have i0 : (0 : Int) ≤ (j : Int) := by omega
      have i1 : (j : Int) < (L.length : Int) := by omega
      go_wp2_with (first
        | (refine ev_store2 rfl _ _ rfl w.heap.size b c5 (L) j (by omega) ⟨y, (a8 : Int), qb⟩ rfl rfl HO9.out ?_; intro wz hz oz; have HOz := Lib.hid hz; have HBz := Lib.hid (oz.below hbB); clear hz oz))
      have HE := Lib.hid (anyLogEnd w lor rb (P + 40) _ c5 ((L).set j ⟨y, (a8 : Int), qb⟩) wz HOz.out (by rw [List.length_set]; omega) ((HS9.out.below HBz.out hrb).more (by omega)) (HF9.out.then_ HBz.out))
      go_wp2
      go_ret
      exact by have := HE.out; rw [List.length_set] at this; exact this
  subst hk3
  have hwl : IntKind.i64.wrap ((L.length : Int) + 1) = ((L.length + 1 : Nat) : Int) := by rw [show (L.length : Int) + 1 = ((L.length + 1 : Nat) : Int) from by omega]; exact IntWalk.i64_in _ ⟨by omega, by omega⟩
  have CN := Lib.hid (pickX (L.length + 1) lor rb (P + 21) w3 HSw3.out (by omega) (by omega))
  go_wp2_with fail
  refine (CN.out).mono ?_
  rintro e w4 ⟨⟨n, rfl, hn, _⟩, hs4, hf4⟩
  have hn1 := hn (by omega)
  obtain ⟨b0, hA0, hbB0, _, _, _⟩ := HOw3.out.blk (by omega)
  cases hA0
  have htl : (L.take n).length = n := by rw [List.length_take]; omega
  have HSw4 := Lib.hid hs4
  have HFw4 := Lib.hid (HFw3.out.trans hf4)
  have HOw4 := Lib.hid ((HOw3.out.fx hf4 hrb).cut (by omega) (n := n) (by omega))
  have s4 := HFw4.out.size
  clear hs4 hf4 CN HSw3 HFw3 HOw3 hn
  have hnc : (n : Int) ≤ (c5 : Int) := by omega
  have hnc' : n ≤ c5 := by omega
  have hn0 : (0 : Int) ≤ (n : Int) := by omega
  by_cases hz : n = 0
  · have g1 : decide ((0 : Int) < (n : Int)) = false := by simp [hz]
    have g1' : decide (0 < n) = false := by simp [hz]
    have g1'' : decide ((n : Int) > 0) = false := by simp [hz]
    have HE := Lib.hid (anyLogEnd w lor rb (P + 40) _ c5 (L.take n) w4 HOw4.out (by omega) (HSw4.out.more (by omega)) HFw4.out)
    go_wp2_with fail
    go_ret
    exact (by have := HE.out; rw [htl, hz] at this; exact this)
  have g1 : decide ((0 : Int) < (n : Int)) = true := by simp; omega
  have g1' : decide (0 < n) = true := by simp; omega
  have g1'' : decide ((n : Int) > 0) = true := by simp; omega
  have C4 := Lib.hid (pickX 10 lor rb (P + 22) w4 HSw4.out (by omega) (by omega))
  go_wp2_with fail
  refine (C4.out).mono ?_
  rintro e w5 ⟨⟨k5, rfl, _, _⟩, hs5, hf5⟩
  have HS5 := Lib.hid hs5
  have HF5 := Lib.hid (HFw4.out.trans hf5)
  have HO5 := Lib.hid (HOw4.out.fx hf5 hrb)
  have s5 := HF5.out.size
  clear hs5 hf5 C4
  by_cases hk5 : k5 = 0
  rotate_left
  · have f1 : ((k5 : Int) == 0) = false := by rw [beq_eq_false_iff_ne]; omega
    have f1' : (k5 == 0) = false := by rw [beq_eq_false_iff_ne]; omega
    have HE := Lib.hid (anyLogEnd w lor rb (P + 40) _ c5 (L.take n) w5 HO5.out (by omega) (HS5.out.more (by omega)) HF5.out)
    go_wp2
    go_ret
    exact by have := HE.out; rw [htl] at this; exact this
  · subst hk5
    have C5 := Lib.hid (pickX n lor rb (P + 23) w5 HS5.out (by omega) (by omega))
    go_wp2_with fail
    refine (C5.out).mono ?_
    rintro e w6 ⟨⟨j, rfl, hj, _⟩, hs6, hf6⟩
    have hjl := hj (by omega)
    have HO6 := Lib.hid (HO5.out.fx hf6 hrb)
    have HF6 := Lib.hid (HF5.out.trans hf6)
    have HS6 := Lib.hid hs6
    have s6 := HF6.out.size
    clear hs6 hf6 C5 hj
    have C6 := Lib.hid (one_newX #[.int .i64 0, .int .i64 5, .int .i64 201] 3 lor rb (P + 24) w6 HS6.out (by omega) (oneE3 0 5 201) (by omega) (by omega) rfl)
    go_wp2_with fail
    refine (C6.out).mono ?_
    rintro e w7 ⟨⟨y, rfl⟩, hs7, hf7⟩
    have HO7 := Lib.hid (HO6.out.fx hf7 hrb)
    have HF7 := Lib.hid (HF6.out.trans hf7)
    have HS7 := Lib.hid hs7
    have s7 := HF7.out.size
    clear hs7 hf7 C6
    have C7 := Lib.hid (pickX 9 lor rb (P + 25) w7 HS7.out (by omega) (by omega))
    go_wp2_with fail
    refine (C7.out).mono ?_
    rintro e w8 ⟨⟨a8, rfl, _, _⟩, hs8, hf8⟩
    have HO8 := Lib.hid (HO7.out.fx hf8 hrb)
    have HF8 := Lib.hid (HF7.out.trans hf8)
    have HS8 := Lib.hid hs8
    have s8 := HF8.out.size
    clear hs8 hf8 C7
    have C8 := Lib.hid (pickX 2 lor rb (P + 26) w8 HS8.out (by omega) (by omega))
    go_wp2_with fail
    refine (C8.out).mono ?_
    rintro e w9 ⟨⟨q9, rfl, _, _⟩, hs9, hf9⟩
    have ho9 := HO8.out.fx hf9 hrb
    have HF9 := Lib.hid (HF8.out.trans hf9)
    have HS9 := Lib.hid hs9
    have s9 := HF9.out.size
    clear hs9 hf9 C8
    skip
    have HO9 := Lib.hid ho9
    clear ho9
    obtain ⟨qb, hqb⟩ : ∃ qb, ((q9 : Int) == 0) = qb := ⟨_, rfl⟩
    have hqb' : (q9 == 0) = qb := by rw [← hqb, Bool.eq_iff_iff]; simp
    have i0 : (0 : Int) ≤ (j : Int) := by omega
    have i1 : (j : Int) < (n : Int) := by omega
    go_wp2_with (first
      | (refine ev_store2 rfl _ _ rfl w.heap.size b0 c5 (L.take n) j (by omega) ⟨y, (a8 : Int), qb⟩ rfl rfl HO9.out ?_; intro wz hz oz; have HOz := Lib.hid hz; have HBz := Lib.hid (oz.below hbB0); clear hz oz))
    have HE := Lib.hid (anyLogEnd w lor rb (P + 40) _ c5 ((L.take n).set j ⟨y, (a8 : Int), qb⟩) wz HOz.out (by rw [List.length_set]; omega) ((HS9.out.below HBz.out hrb).more (by omega)) (HF9.out.then_ HBz.out))
    go_wp2
    go_ret
    exact by have := HE.out; rw [List.length_set, htl] at this; exact this
/-- a graph and events -/
def DrawGE (w : World) (e : Ending) (w' : World) : Prop := (∃ A c g A2 c2 l, e = .returned (.tuple #[.slice A (List.length g) c, .slice A2 (List.length l) c2]) ∧ RG w' w.heap.size w'.heap.size A g ∧ g.length ≤ 16 ∧ g.length ≤ c ∧ c ≤ maxLen ∧
  RE w' w.heap.size w'.heap.size A2 l ∧ l.length ≤ 3536 ∧ l.length ≤ c2 ∧ c2 ≤ maxLen) ∧ Below w.heap.size w w'
theorem DrawValidLog_any (A : Option Addr) (c : Nat) (l : List Int) (w : World) (hb : RB w 0 w.heap.size A l) (hl : l.length ≤ c) (hc : c ≤ maxLen) :
    Calls Try.prog 15 #[.slice A l.length c] w (DrawGE w) := by
  have C1 := Lib.hid (newReader_any A c l w hb hl hc)
  clear hb
  go_enter Try.func15, Try.ntmps15
  go_wp2_with fail
  refine (C1.out).mono ?_
  rintro e w1 ⟨rb, rfl, hs1, hf1⟩
  have hrlo := hs1.rd.1
  have C2 := Lib.hid (anyGraph_any w.heap.size rb 0 w1 hs1 (by omega))
  have HF := Lib.hid hf1
  clear hs1 hf1 C1
  go_wp2_with fail
  refine (C2.out).mono ?_
  rintro e w2 hG
  obtain ⟨A2, c2, g, rfl, hg, hg16, hgc, hcm, hrd, hf2⟩ := hG.open_
  have hrb := hrd.lt
  have s2 := hf2.1.size
  have HG := Lib.hid hg
  have HF2 := Lib.hid (HF.out.1.trans hf2.1)
  have HRD := Lib.hid hrd
  have s0 := HF2.out.size
  clear hG hg hrd hf2 C2
  have C3 := Lib.hid (anyLogX A2 c2 g _ _ w.heap.size rb _ w2 HRD.out (by omega) HG.out (Nat.le_refl _) hg16)
  go_wp2_with fail
  refine (C3.out).mono ?_
  rintro e w3 ⟨⟨A3, c3, m, rfl, hm, hm100⟩, hs3, hf3⟩
  have s3 := hf3.size
  have HG4 := Lib.hid ((HG.out.fx hf3 (Nat.le_refl _)).rg.more (hi' := w3.heap.size) (Nat.le_refl _) (by omega))
  have hcp := hm.cap
  have HM4 := Lib.hid (hm.re.more (lo' := w.heap.size) s0 (Nat.le_refl _))
  have HB4 := Lib.hid (HF2.out.trans (hf3.below hrlo hrb))
  clear hs3 hf3 hm C3 HG HRD HF
  go_wp2
  go_ret2
  exact ⟨⟨A2, c2, g, A3, c3, m, rfl, HG4.out, hg16, hgc, hcm, HM4.out, hm100, hcp.1, hcp.2⟩, HB4.out⟩
theorem DrawBusyTime_any (A : Option Addr) (c : Nat) (l : List Int) (w : World) (hb : RB w 0 w.heap.size A l) (hl : l.length ≤ c) (hc : c ≤ maxLen) :
    Calls Try.prog 32 #[.slice A l.length c] w (DrawGE w) := by
  have C1 := Lib.hid (DrawValidLog_any A c l w hb hl hc)
  clear hb
  go_enter Try.func32, Try.ntmps32
  go_wp2_with fail
  with_reducible refine (C1.out).mono ?_
  rintro e w4 ⟨⟨A2, c2, g, A3, c3, m, rfl, hg, hg16, hgc, hcm, hm, hm100, hmc, hmm⟩, hb4⟩
  have HG4 := Lib.hid hg
  have HM4 := Lib.hid hm
  have HB4 := Lib.hid hb4
  clear hg hm hb4
  go_wp2
  go_ret2
  exact ⟨⟨A2, c2, g, A3, c3, m, rfl, HG4.out, hg16, hgc, hcm, HM4.out, hm100, hmc, hmm⟩, HB4.out⟩
theorem DrawMostTogether_any (A : Option Addr) (c : Nat) (l : List Int) (w : World) (hb : RB w 0 w.heap.size A l) (hl : l.length ≤ c) (hc : c ≤ maxLen) :
    Calls Try.prog 36 #[.slice A l.length c] w (DrawGE w) := by
  have C1 := Lib.hid (DrawValidLog_any A c l w hb hl hc)
  clear hb
  go_enter Try.func36, Try.ntmps36
  go_wp2_with fail
  with_reducible refine (C1.out).mono ?_
  rintro e w4 ⟨⟨A2, c2, g, A3, c3, m, rfl, hg, hg16, hgc, hcm, hm, hm100, hmc, hmm⟩, hb4⟩
  have HG4 := Lib.hid hg
  have HM4 := Lib.hid hm
  have HB4 := Lib.hid hb4
  clear hg hm hb4
  go_wp2
  go_ret2
  exact ⟨⟨A2, c2, g, A3, c3, m, rfl, HG4.out, hg16, hgc, hcm, HM4.out, hm100, hmc, hmm⟩, HB4.out⟩
end Go.Proofs.Ytenneicbhpjfmaa
