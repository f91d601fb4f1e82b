/-
  WALKS: the log of beginnings, of the model.
-/
import Derived.Test.YtenneicbhpjfmaaK29
import Derived.Test.YtenneicbhpjfmaaK15
import Derived.Test.YtenneicbhpjfmaaMath94
namespace Go.Proofs.Ytenneicbhpjfmaa
open Go.RowKit
set_option maxRecDepth 20000 in
set_option maxHeartbeats 3200000 in
theorem LogOfS_any (A : Option Addr) (c : Nat) (g : List Bs.T) (A1 : Option Addr) (c1 : Nat) (m : List Int) (A2 : Option Addr) (c2 : Nat) (S : List Int) (wk : Int) (lo hi l1 h1 l2 h2 : Nat) (w : World) (h : RG w lo hi A g) (hh : hi ≤ w.heap.size) (hm : RI w l1 h1 A1 m) (hh1 : h1 ≤ w.heap.size) (hs : RI w l2 h2 A2 S) (hh2 : h2 ≤ w.heap.size) (hl : g.length ≤ 9223372036854775807) (hml : m.length ≤ 9223372036854775807) (hsl : S.length ≤ 9223372036854775807) :
    Calls Try.prog 21 #[.slice A g.length c, .slice A1 m.length c1, .int .i64 wk, .slice A2 S.length c2] w (RetE w (Bs.logL g m wk S)) := by
  have hb0 : Below w.heap.size w (w.alloc (.cells #[] 30)) := (Below.refl _ _).alloc (Nat.le_refl _) _
  have q1 := validStartsS_any A c g A1 c1 m A2 c2 S wk lo hi l1 h1 l2 h2 _ (h.below hb0 hh) (by simp; omega) (hm.below hb0 hh1) (by simp; omega) (hs.below hb0 hh2) (by simp; omega) hl hml hsl
  have hsz0 : (w.alloc (.cells #[] 30)).heap.size = w.heap.size + 1 := by simp
  cases hv : Bs.stV g m wk S
  · rw [hv] at q1
    have C1 := Lib.hid q1
    have HB0 := Lib.hid hb0
    rw [Bs.logL_no hv]
    clear q1 hv h hm hs hb0
    go_enter Try.func21, Try.ntmps21
    go_wp2_with fail
    with_reducible refine (C1.out).mono ?_
    rintro e w1 ⟨rfl, hb⟩
    have HB := Lib.hid (HB0.out.trans (hb.mono HB0.out.size))
    clear hb
    go_wp2
    go_ret
    exact ⟨⟨none, 0, rfl, OE.none_ _ _⟩, HB.out⟩
  rw [hv] at q1
  have C1 := Lib.hid q1
  obtain ⟨hcan, hclk, _⟩ := Bs.stV_iff.1 hv
  have hF := valid_fine (Bs.canV_iff.1 hcan).1
  have h8 := Bs.fine_len hF
  have HSG := Lib.hid (fun (k : Nat) (hk : k < g.length) => show k < S.length from by have := Bs.clk_len hclk; omega)
  have HC := Lib.hid (fun i => Bs.clk_at hclk i)
  have HT := Lib.hid (fun k (hk : k < g.length) => Bs.fine_time' hF hk)
  have HLL := Lib.hid (fun t (ht : t ≤ 221) => Bs.lgK_len8 (g := g) S h8 ht)
  have HKS := Lib.hid (fun t => show Bs.lgK g S (t + 1) = Bs.lgK g S t ++ (Bs.ovE g S (t : Int) g.length ++ Bs.bgE S (t : Int) g.length) from rfl)
  have HOS := Lib.hid (fun (t : Int) k => show Bs.ovE g S t (k + 1) = if Bs.giZ S k + Bs.timeOf g k == t then Bs.ovE g S t k ++ [⟨t, (k : Int), true⟩] else Bs.ovE g S t k from rfl)
  have HBS := Lib.hid (fun (t : Int) k => show Bs.bgE S t (k + 1) = if Bs.giZ S k == t then Bs.bgE S t k ++ [⟨t, (k : Int), false⟩] else Bs.bgE S t k from rfl)
  have HOL := Lib.hid (fun (t : Int) k => Bs.ovE_len g S t k)
  have HBL := Lib.hid (fun (t : Int) k => Bs.bgE_len S t k)
  have HG := Lib.hid h
  have HR := Lib.hid hs
  rw [Bs.logL_yes hv]
  have HO0 := Lib.hid (OE.nil w w.heap.size (Nat.le_refl _))
  have HB0 := Lib.hid hb0
  clear q1 hv h hm hs hb0 hcan hclk hF
  go_enter Try.func21, Try.ntmps21
  go_wp2_with fail
  with_reducible refine (C1.out).mono ?_
  rintro e w1 ⟨rfl, hb⟩
  have HO1 := Lib.hid (HO0.out.below hb (Nat.le_refl _))
  have HB1 := Lib.hid (HB0.out.trans (hb.mono HB0.out.size))
  clear hb HO0 HB0 C1
  go_wp2
  go_loopw [9, 10] (fun v i wr => ∃ (t : Nat) (A' : Option Addr) (c' : Nat) (o : List Bs.E), t ≤ 221 ∧ i = .int .i64 (t : Int) ∧ v = .slice A' o.length c' ∧ o = Bs.lgK g S t ∧ OE wr w.heap.size A' c' o ∧ Below w.heap.size w wr) (fun _ i _ => 221 - (intOf i).toNat)
  case atStart => exact ⟨0, _, _, [], by omega, rfl, rfl, rfl, HO1.out, HB1.out⟩
  case round =>
    obtain ⟨t, A', c', o, ht, rfl, rfl, ho, hO, hb⟩ := hrel
    clear HO1 HB1
    have hol := HLL.out t ht
    rw [← ho] at hol
    have HOr := Lib.hid hO
    have HBr := Lib.hid hb
    clear hO hb
    by_cases hlt : t < 221
    · have d1 : decide ((t : Int) ≤ 220) = true := by simp; omega
      have hks := HKS.out t
      rw [← ho] at hks
      have HKr := Lib.hid hks
      clear hks ho
      go_wp2
      go_loopw [9, 11] (fun v i wr => ∃ (k : Nat) (A' : Option Addr) (c' : Nat) (r : List Bs.E), k ≤ g.length ∧ i = .int .i64 (k : Int) ∧ v = .slice A' r.length c' ∧ r = o ++ Bs.ovE g S (t : Int) k ∧ OE wr w.heap.size A' c' r ∧ Below w.heap.size w wr) (fun _ i _ => g.length - (intOf i).toNat)
      case atStart => exact ⟨0, _, _, o, Nat.zero_le _, rfl, rfl, (List.append_nil o).symm, HOr.out, HBr.out⟩
      case round =>
        obtain ⟨k, A', c', r, hk, rfl, rfl, hp, hO, hb⟩ := hrel
        clear HOr HBr
        have hpl := HOL.out (t : Int) k
        have hopl : r.length ≤ 4000 := by rw [hp, List.length_append]; omega
        by_cases hkl : k < g.length
        · obtain ⟨bg, og, N, cN, rfl, g1, g2, k0, k1, k2, k3, hnc, hcN, hN⟩ := (HG.out.below hb hh) k hkl
          obtain ⟨bs, os, rfl, _, _, s0⟩ := (HR.out.below hb hh2).at_ (k := k) (HSG.out k hkl)
          have hti := HT.out k hkl
          have hci := HC.out k
          have hos := HOS.out (t : Int) k
          rw [Bs.timeOf_eq hkl] at hos
          have hos2 := congrArg (o ++ ·) hos
          rw [apply_ite (o ++ ·), ← List.append_assoc, ← hp] at hos2
          clear hos
          rw [← Bs.giZ_at (HSG.out k hkl)] at s0
          generalize Bs.giZ S k = sv at *
          generalize g[k].time = tv at *
          have hw1 : IntKind.i64.wrap (sv + tv) = sv + tv := IntWalk.i64_in _ ⟨by omega, by omega⟩
          have j0 : (0 : Int) ≤ (k : Int) := by omega
          have j1 : (k : Int) < (g.length : Int) := by omega
          have j2 : (k : Int) < (S.length : Int) := by have := HSG.out k hkl; omega
          have HOr := Lib.hid hO
          have HBr := Lib.hid hb
          have sr := hb.size
          clear hO hb hN k2 k3 hnc hp hti hci hpl
          cases hq : (sv + tv == (t : Int))
          · rw [hq] at hos2
            have HOSr := Lib.hid hos2
            clear hos2
            go_wp2
            go_quiet (fail)
            go_wp2
            go_roundw
            case rel => exact ⟨k + 1, _, _, r, by omega, by go_num, rfl, HOSr.out.symm, HOr.out.drewN _, HBr.out.drewN _⟩
            case measure => simp [intOf]; omega
          · rw [hq] at hos2
            have HOSr := Lib.hid hos2
            clear hos2
            go_wp2
            go_quiet (fail)
            go_wp2_with (at_builtin; go_loud (refine push_evs rfl _ _ rfl w.heap.size A' c' r [⟨(t : Int), (k : Int), true⟩] rfl ((HOr.out.drewN _).alloc _) wr.heap.size 1 rfl (new_cellsE (wr.drewN _) _) (by simp; omega) (by simp; omega) ?_; intro A6 c6 w6 ho6 hb6; have HO6 := Lib.hid ho6; have HB6 := Lib.hid (((HBr.out.drewN _).alloc HBr.out.size (.cells #[.int .i64 (t : Int), .int .i64 (k : Int), .bool true] 30)).trans (hb6)); clear ho6 hb6))
            go_roundw
            case rel => exact ⟨k + 1, A6, c6, r ++ [⟨(t : Int), (k : Int), true⟩], by omega, by go_num, by simp, HOSr.out.symm, HO6.out, HB6.out⟩
            case measure => simp [intOf]; omega
        · obtain rfl : k = g.length := by omega
          have HOr := Lib.hid hO
          have HBr := Lib.hid hb
          clear hO hb
          rw [← List.append_assoc, ← hp] at HKr
          clear hp hpl
          go_wp2
          go_loopw [9, 12] (fun v i wr => ∃ (k : Nat) (A' : Option Addr) (c' : Nat) (q : List Bs.E), k ≤ g.length ∧ i = .int .i64 (k : Int) ∧ v = .slice A' q.length c' ∧ q = r ++ Bs.bgE S (t : Int) k ∧ OE wr w.heap.size A' c' q ∧ Below w.heap.size w wr) (fun _ i _ => g.length - (intOf i).toNat)
          case atStart => exact ⟨0, _, _, r, Nat.zero_le _, rfl, rfl, (List.append_nil r).symm, HOr.out, HBr.out⟩
          case round =>
            obtain ⟨k, A', c', q, hk, rfl, rfl, hp, hO, hb⟩ := hrel
            clear HOr HBr
            have hpl := HBL.out (t : Int) k
            have hoql : q.length ≤ 5000 := by rw [hp, List.length_append]; omega
            by_cases hkl : k < g.length
            · obtain ⟨bs, os, rfl, _, _, s0⟩ := (HR.out.below hb hh2).at_ (k := k) (HSG.out k hkl)
              have hos := HBS.out (t : Int) k
              have hos2 := congrArg (r ++ ·) hos
              rw [apply_ite (r ++ ·), ← List.append_assoc, ← hp] at hos2
              clear hos
              rw [← Bs.giZ_at (HSG.out k hkl)] at s0
              generalize Bs.giZ S k = sv at *
              have j0 : (0 : Int) ≤ (k : Int) := by omega
              have j1 : (k : Int) < (g.length : Int) := by omega
              have j2 : (k : Int) < (S.length : Int) := by have := HSG.out k hkl; omega
              have HOr := Lib.hid hO
              have HBr := Lib.hid hb
              have sr := hb.size
              clear hO hb hp hpl
              cases hq : (sv == (t : Int))
              · rw [hq] at hos2
                have HOSr := Lib.hid hos2
                clear hos2
                go_wp2
                go_roundw
                case rel => exact ⟨k + 1, _, _, q, by omega, by go_num, rfl, HOSr.out.symm, HOr.out, HBr.out⟩
                case measure => simp [intOf]; omega
              · rw [hq] at hos2
                have HOSr := Lib.hid hos2
                clear hos2
                go_wp2_with (at_builtin; go_loud (refine push_evs rfl _ _ rfl w.heap.size A' c' q [⟨(t : Int), (k : Int), false⟩] rfl (HOr.out.alloc _) wr.heap.size 1 rfl (new_cellsE _ _) (by simp; omega) (by simp; omega) ?_; intro A6 c6 w6 ho6 hb6; have HO6 := Lib.hid ho6; have HB6 := Lib.hid ((HBr.out.alloc HBr.out.size (.cells #[.int .i64 (t : Int), .int .i64 (k : Int), .bool false] 30)).trans (hb6)); clear ho6 hb6))
                go_roundw
                case rel => exact ⟨k + 1, A6, c6, q ++ [⟨(t : Int), (k : Int), false⟩], by omega, by go_num, by simp, HOSr.out.symm, HO6.out, HB6.out⟩
                case measure => simp [intOf]; omega
            · obtain rfl : k = g.length := by omega
              have HOr := Lib.hid hO
              have HBr := Lib.hid hb
              rw [← hp] at HKr
              have HKr2 := Lib.hid HKr.out
              clear hO hb hp
              go_wp2
              go_roundw
              case rel => exact ⟨t + 1, A', c', q, by omega, by go_num, rfl, HKr2.out.symm, HOr.out, HBr.out⟩
              case measure => simp [intOf]; omega
    · obtain rfl : t = 221 := by omega
      go_wp2
      go_ret
      rw [← ho]
      exact ⟨⟨_, _, rfl, HOr.out⟩, HBr.out⟩
end Go.Proofs.Ytenneicbhpjfmaa
