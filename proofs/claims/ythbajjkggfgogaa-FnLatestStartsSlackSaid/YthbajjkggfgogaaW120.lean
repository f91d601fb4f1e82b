/-
  WALKS: deadlines of the program: which are met, and how many workers they want.
-/
import Derived.Test.YthbajjkggfgogaaMath120
import Derived.Test.YthbajjkggfgogaaW86
import Derived.Test.YthbajjkggfgogaaK14
import Derived.Test.YthbajjkggfgogaaW56
namespace Go.Proofs.Ythbajjkggfgogaa
open Go.RowKit
theorem validDeadline_any (d : Int) (w : World) : Calls Try.prog 40 #[.int .i64 d] w fun e w' => e = .returned (.bool (Bs.dlOk d)) ∧ w = w' := by
  have HE := Lib.hid (show Bs.dlOk d = decide (0 ≤ d ∧ d ≤ 200) from rfl)
  go_enter Try.func40, Try.ntmps40
  go_wp2
  all_goals go_ret
  all_goals exact ⟨ret_bool (by rw [HE.out]; simp; try omega), rfl⟩
set_option maxHeartbeats 1600000 in
theorem MeetsDeadline_any (A : Option Addr) (c : Nat) (g : List Bs.T) (A1 : Option Addr) (c1 : Nat) (m : List Int) (A2 : Option Addr) (c2 : Nat) (S : List Int) (wk d : Int) (lo hi l1 h1 l2 h2 : Nat) (w : World) (h : RG w lo hi A g) (hh : hi ≤ w.heap.size) (hm : RI w l1 h1 A1 m) (hh1 : h1 ≤ w.heap.size) (hs : RI w l2 h2 A2 S) (hh2 : h2 ≤ w.heap.size) (hl : g.length ≤ 9223372036854775807) (hml : m.length ≤ 9223372036854775807) (hsl : S.length ≤ 9223372036854775807) :
    Calls Try.prog 25 #[.slice A g.length c, .slice A1 m.length c1, .int .i64 wk, .slice A2 S.length c2, .int .i64 d] w fun e w' => e = .returned (.bool (Bs.meetB g m wk S d)) ∧ Below w.heap.size w w' := by
  have q1 := ValidStarts_any A c g A1 c1 m A2 c2 S wk lo hi l1 h1 l2 h2 w h hh hm hh1 hs hh2 hl hml hsl
  have q2 := fun W => validDeadline_any d W
  have q3 := fun W (hb : Below w.heap.size w W) => EndTime_any A c g A1 c1 m A2 c2 S wk lo hi l1 h1 l2 h2 W (h.below hb hh) (Nat.le_trans hh hb.size) (hm.below hb hh1) (Nat.le_trans hh1 hb.size) (hs.below hb hh2) (Nat.le_trans hh2 hb.size) hl hml hsl
  cases hv : Bs.stV g m wk S
  · rw [hv] at q1
    have C1 := Lib.hid q1
    have HV := Lib.hid (Bs.meetB_no1 (d := d) hv)
    clear q1 q2 q3 hv h hm hs
    go_enter Try.func25, Try.ntmps25
    go_wp2_with fail
    with_reducible refine (C1.out).mono ?_
    rintro e w1 ⟨rfl, hb⟩
    have HB := Lib.hid hb
    clear hb
    go_wp2
    go_ret
    exact ⟨ret_bool HV.out.symm, HB.out⟩
  rw [hv] at q1
  have C1 := Lib.hid q1
  cases hd : Bs.dlOk d
  · rw [hd] at q2
    have C2 := Lib.hid q2
    have HV := Lib.hid (Bs.meetB_no2 (g := g) (m := m) (wk := wk) (S := S) hd)
    clear q1 q2 q3 hv h hm hs hd
    go_enter Try.func25, Try.ntmps25
    go_wp2_with fail
    with_reducible refine (C1.out).mono ?_
    rintro e w1 ⟨rfl, hb⟩
    have HB := Lib.hid hb
    clear hb
    go_wp2_with fail
    with_reducible refine (C2.out _).mono ?_
    rintro e w2 ⟨rfl, rfl⟩
    go_wp2
    go_ret
    exact ⟨ret_bool HV.out.symm, HB.out⟩
  rw [hd] at q2
  rw [Bs.endT_yes hv] at q3
  have C2 := Lib.hid q2
  have C3 := Lib.hid q3
  have HV := Lib.hid (Bs.meetB_yes hv hd)
  clear q1 q2 q3 hv h hm hs hd
  generalize Bs.endC g S = E at *
  go_enter Try.func25, Try.ntmps25
  go_wp2_with fail
  with_reducible refine (C1.out).mono ?_
  rintro e w1 ⟨rfl, hb⟩
  have HB := Lib.hid hb
  have s1 := hb.size
  clear hb
  go_wp2_with fail
  with_reducible refine (C2.out _).mono ?_
  rintro e w2 ⟨rfl, rfl⟩
  go_wp2_with fail
  with_reducible refine (C3.out _ HB.out).mono ?_
  rintro e w3 ⟨rfl, hb3⟩
  have HB3 := Lib.hid (HB.out.trans (hb3.mono s1))
  clear hb3
  go_wp2
  go_ret
  exact ⟨ret_bool HV.out.symm, HB3.out⟩
theorem planMeets_any (A : Option Addr) (c : Nat) (g : List Bs.T) (A1 : Option Addr) (c1 : Nat) (m : List Int) (wk d : Int) (lo hi l1 h1 : Nat) (w : World) (h : RG w lo hi A g) (hh : hi ≤ w.heap.size) (hm : RI w l1 h1 A1 m) (hh1 : h1 ≤ w.heap.size) (hl : g.length ≤ 9223372036854775807) (hml : m.length ≤ 9223372036854775807) (hc : Bs.canV g m wk = true) (hd : Bs.dlOk d = true) :
    Calls Try.prog 58 #[.slice A g.length c, .slice A1 m.length c1, .int .i64 wk, .int .i64 d] w fun e w' => e = .returned (.bool (Bs.meetP g m d wk)) ∧ Below w.heap.size w w' := by
  have hpl := Bs.planL_len g m wk
  have C1 := Lib.hid (PlanStarts_any A c g A1 c1 m wk lo hi l1 h1 w h hh hm hh1 hl hml)
  have q2 := fun A2 c2 W (hb : Below w.heap.size w W) (hs : RI W w.heap.size W.heap.size A2 (Bs.planL g m wk)) => MeetsDeadline_any A c g A1 c1 m A2 c2 (Bs.planL g m wk) wk d lo hi l1 h1 _ _ W (h.below hb hh) (Nat.le_trans hh hb.size) (hm.below hb hh1) (Nat.le_trans hh1 hb.size) hs (Nat.le_refl _) hl hml (by omega)
  have he : Bs.meetB g m wk (Bs.planL g m wk) d = Bs.meetP g m d wk := by
    rw [Bs.meetB_yes (Bs.planL_valid hc) hd, Bs.planL_yes hc]
    rfl
  rw [he] at q2
  have C2 := Lib.hid q2
  clear q2 he h hm hc hd
  generalize Bs.planL g m wk = L at *
  go_enter Try.func58, Try.ntmps58
  go_wp2_with fail
  with_reducible refine (C1.out).mono ?_
  rintro e w1 ⟨⟨A3, c3, rfl, ho⟩, hb⟩
  have HB := Lib.hid hb
  have C3 := Lib.hid (C2.out A3 c3 w1 hb ho.ri)
  have s1 := hb.size
  clear hb ho C2 C1
  go_wp2_with fail
  with_reducible refine (C3.out).mono ?_
  rintro e w2 ⟨rfl, hb2⟩
  have HB2 := Lib.hid (HB.out.trans (hb2.mono s1))
  clear hb2 C3
  go_wp2
  go_ret
  exact ⟨rfl, HB2.out⟩
set_option maxHeartbeats 1600000 in
theorem leastWorkers_any (A : Option Addr) (c : Nat) (g : List Bs.T) (A1 : Option Addr) (c1 : Nat) (m : List Int) (d : Int) (lo hi l1 h1 : Nat) (w : World) (h : RG w lo hi A g) (hh : hi ≤ w.heap.size) (hm : RI w l1 h1 A1 m) (hh1 : h1 ≤ w.heap.size) (hl : g.length ≤ 9223372036854775807) (hml : m.length ≤ 9223372036854775807) (hc : Bs.canV g m 1 = true) :
    Calls Try.prog 57 #[.slice A g.length c, .slice A1 m.length c1, .int .i64 d] w fun e w' => (∃ r : Nat, e = .returned (.int .i64 (r : Int)) ∧ 1 ≤ r ∧ r ≤ 5 ∧ ∀ i : Int, 1 ≤ i → i < r → Bs.meetP g m d i = false) ∧ Below w.heap.size w w' := by
  have C1 := Lib.hid (fun wk W (hb : Below w.heap.size w W) => LeastTime_any A c g A1 c1 m wk lo hi l1 h1 W (h.below hb hh) (Nat.le_trans hh hb.size) (hm.below hb hh1) (Nat.le_trans hh1 hb.size) hl hml)
  have HL := Lib.hid (fun (n : Int) (a : 1 ≤ n) (b : n ≤ 4) (x : d < leastL g m n) => Bs.meet_low hc a b x)
  clear h hm hc
  go_enter Try.func57, Try.ntmps57
  go_wp2
  go_loopw [7, 8] (fun a b wr => ∃ (x y : Nat), a = .int .i64 x ∧ b = .int .i64 y ∧ 1 ≤ x ∧ x ≤ y ∧ y ≤ 5 ∧ (∀ i : Int, 1 ≤ i → i < x → Bs.meetP g m d i = false) ∧ Below w.heap.size w wr) (fun a b _ => (intOf b).toNat - (intOf a).toNat)
  case atStart => exact ⟨1, 5, rfl, rfl, by omega, by omega, by omega, fun i a b => by omega, Below.refl _ _⟩
  case round =>
    obtain ⟨x, y, rfl, rfl, hx, hxy, hy, hlow, hb⟩ := hrel
    have HLOW := Lib.hid hlow
    have HB := Lib.hid hb
    have sr := hb.size
    clear hlow hb
    by_cases hlt : x < y
    · obtain ⟨z, hz⟩ : ∃ z : Nat, z = (x + y) / 2 := ⟨_, rfl⟩
      have hzb : x ≤ z ∧ z < y := by omega
      have e1 : IntKind.i64.wrap ((x : Int) + (y : Int)) = (x : Int) + (y : Int) := IntWalk.i64_in _ ⟨by omega, by omega⟩
      have e2 : Int.tdiv ((x : Int) + (y : Int)) 2 = (z : Int) := by rw [Int.tdiv_eq_ediv_of_nonneg (by omega)]; omega
      have e3 : IntKind.i64.wrap (z : Int) = (z : Int) := IntWalk.i64_in _ ⟨by omega, by omega⟩
      have e4 : IntKind.i64.wrap ((z : Int) + 1) = (z : Int) + 1 := IntWalk.i64_in _ ⟨by omega, by omega⟩
      have d0 : decide ((x : Int) < (y : Int)) = true := decide_eq_true (by omega)
      have C2 := Lib.hid (C1.out (z : Int) wr HB.out)
      have HLz := Lib.hid (HL.out (z : Int) (by omega) (by omega))
      clear C1 HL hz
      generalize leastL g m (z : Int) = V at *
      by_cases hv : V ≤ d
      · have d1 : decide (V ≤ d) = true := decide_eq_true hv
        clear hv
        go_wp2_with fail
        with_reducible refine (C2.out).mono ?_
        rintro e w2 ⟨rfl, hb2⟩
        have HB2 := Lib.hid (HB.out.trans (hb2.mono sr))
        clear hb2 C2
        go_wp2
        go_roundw
        case rel => exact ⟨x, z, rfl, rfl, hx, by omega, by omega, HLOW.out, HB2.out⟩
        case measure => simp [intOf]; omega
      · have d1 : decide (V ≤ d) = false := decide_eq_false hv
        have HN := Lib.hid (HLz.out (by omega))
        clear hv
        go_wp2_with fail
        with_reducible refine (C2.out).mono ?_
        rintro e w2 ⟨rfl, hb2⟩
        have HB2 := Lib.hid (HB.out.trans (hb2.mono sr))
        clear hb2 C2
        go_wp2
        go_roundw
        case rel => exact ⟨z + 1, y, by go_num, rfl, by omega, by omega, hy, fun i a b => HN.out i a (by omega), HB2.out⟩
        case measure => simp [intOf]; omega
    · obtain rfl : x = y := by omega
      have d0 : decide ((x : Int) < (x : Int)) = false := decide_eq_false (by omega)
      clear C1 HL
      go_wp2
      go_ret
      exact ⟨⟨x, rfl, hx, hy, HLOW.out⟩, HB.out⟩
set_option maxHeartbeats 1600000 in
theorem WorkersFor_any (A : Option Addr) (c : Nat) (g : List Bs.T) (A1 : Option Addr) (c1 : Nat) (m : List Int) (d : Int) (lo hi l1 h1 : Nat) (w : World) (h : RG w lo hi A g) (hh : hi ≤ w.heap.size) (hm : RI w l1 h1 A1 m) (hh1 : h1 ≤ w.heap.size) (hl : g.length ≤ 9223372036854775807) (hml : m.length ≤ 9223372036854775807) :
    Calls Try.prog 31 #[.slice A g.length c, .slice A1 m.length c1, .int .i64 d] w fun e w' => e = .returned (.int .i64 (Bs.wrkL g m d)) ∧ Below w.heap.size w w' := by
  have q1 := canPlan_any A c g A1 c1 m 1 lo hi l1 h1 w h hh hm hh1 hl hml
  have q2 := fun W => validDeadline_any d W
  cases hv : Bs.canV g m 1
  · rw [hv] at q1
    have C1 := Lib.hid q1
    have HV := Lib.hid (Bs.wrkL_cannot (d := d) hv)
    clear q1 q2 hv h hm
    go_enter Try.func31, Try.ntmps31
    go_wp2_with fail
    with_reducible refine (C1.out).mono ?_
    rintro e w1 ⟨rfl, hb⟩
    have HB := Lib.hid hb
    clear hb
    go_wp2
    go_ret
    exact ⟨ret_int HV.out.symm, HB.out⟩
  rw [hv] at q1
  have C1 := Lib.hid q1
  cases hd : Bs.dlOk d
  · rw [hd] at q2
    have C2 := Lib.hid q2
    have HV := Lib.hid (Bs.wrkL_no3 (g := g) (m := m) hd)
    clear q1 q2 hv h hm hd
    go_enter Try.func31, Try.ntmps31
    go_wp2_with fail
    with_reducible refine (C1.out).mono ?_
    rintro e w1 ⟨rfl, hb⟩
    have HB := Lib.hid hb
    clear hb
    go_wp2_with fail
    with_reducible refine (C2.out _).mono ?_
    rintro e w2 ⟨rfl, rfl⟩
    go_wp2
    go_ret
    exact ⟨ret_int HV.out.symm, HB.out⟩
  rw [hd] at q2
  have C2 := Lib.hid q2
  obtain ⟨hval, hroom, _⟩ := Bs.canV_iff.1 hv
  have C3 := Lib.hid (fun W (hb : Below w.heap.size w W) => leastWorkers_any A c g A1 c1 m d lo hi l1 h1 W (h.below hb hh) (Nat.le_trans hh hb.size) (hm.below hb hh1) (Nat.le_trans hh1 hb.size) hl hml hv)
  have C4 := Lib.hid (fun wk (a : 1 ≤ wk) (b : wk ≤ 4) W (hb : Below w.heap.size w W) => planMeets_any A c g A1 c1 m wk d lo hi l1 h1 W (h.below hb hh) (Nat.le_trans hh hb.size) (hm.below hb hh1) (Nat.le_trans hh1 hb.size) hl hml (Bs.canV_iff.2 ⟨hval, hroom, a, b⟩) hd)
  have HV := Lib.hid (Bs.wrkL_can hv hd)
  clear q1 q2 hv h hm hd hval hroom
  go_enter Try.func31, Try.ntmps31
  go_wp2_with fail
  with_reducible refine (C1.out).mono ?_
  rintro e w1 ⟨rfl, hb⟩
  have HB := Lib.hid hb
  have s1 := hb.size
  clear hb
  go_wp2_with fail
  with_reducible refine (C2.out _).mono ?_
  rintro e w2 ⟨rfl, rfl⟩
  go_wp2_with fail
  with_reducible refine (C3.out _ HB.out).mono ?_
  rintro e w3 ⟨⟨r, rfl, hr1, hr5, hrl⟩, hb3⟩
  have HF := Lib.hid (Bs.wrk_from hr1 hr5 hrl)
  have HB3 := Lib.hid (HB.out.trans (hb3.mono s1))
  clear hb3 C1 C2 C3 hrl HB
  go_wp2
  go_loopw [7] (fun a wr => ∃ (k : Nat), a = .int .i64 k ∧ 1 ≤ k ∧ k ≤ 5 ∧ Bs.wrkC g m d = Bs.wrkFrom (Bs.meetP g m d) (5 - k) k ∧ Below w.heap.size w wr) (fun a _ => 5 - (intOf a).toNat)
  case atStart => exact ⟨r, rfl, hr1, hr5, HF.out, HB3.out⟩
  case round =>
    clear HF HB3
    obtain ⟨k, rfl, hk1, hk5, hw, hb⟩ := hrel
    have HW := Lib.hid hw
    have HB := Lib.hid hb
    have sr := hb.size
    clear hw hb
    by_cases hlt : k ≤ 4
    · have C5 := Lib.hid (C4.out (k : Int) (by omega) (by omega) wr HB.out)
      have HY := Lib.hid (fun (h : Bs.meetP g m d k = true) => show Bs.wrkC g m d = k from by rw [HW.out, show 5 - k = (4 - k) + 1 from by omega]; exact Bs.wrk_yes h)
      have HN := Lib.hid (fun (h : Bs.meetP g m d k = false) => show Bs.wrkC g m d = Bs.wrkFrom (Bs.meetP g m d) (5 - (k + 1)) ((k + 1 : Nat) : Int) from by rw [HW.out, show 5 - k = (5 - (k + 1)) + 1 from by omega]; exact Bs.wrk_no h)
      have d0 : decide ((k : Int) ≤ 4) = true := decide_eq_true (by omega)
      have e4 : IntKind.i64.wrap ((k : Int) + 1) = (k : Int) + 1 := IntWalk.i64_in _ ⟨by omega, by omega⟩
      clear HW C4
      cases hp : Bs.meetP g m d k
      · rw [hp] at C5
        have HN2 := Lib.hid (HN.out hp)
        clear hp HN HY
        go_wp2_with fail
        with_reducible refine (C5.out).mono ?_
        rintro e w5 ⟨rfl, hb5⟩
        have HB5 := Lib.hid (HB.out.trans (hb5.mono sr))
        clear hb5 C5
        go_wp2
        go_roundw
        case rel => exact ⟨k + 1, by go_num, by omega, by omega, HN2.out, HB5.out⟩
        case measure => simp [intOf]; omega
      · rw [hp] at C5
        have HY2 := Lib.hid (HY.out hp)
        clear hp HN HY
        go_wp2_with fail
        with_reducible refine (C5.out).mono ?_
        rintro e w5 ⟨rfl, hb5⟩
        have HB5 := Lib.hid (HB.out.trans (hb5.mono sr))
        clear hb5 C5
        go_wp2
        go_ret
        exact ⟨ret_int (by rw [HV.out, HY2.out]), HB5.out⟩
    · obtain rfl : k = 5 := by omega
      have d0 : decide ((5 : Int) ≤ 4) = false := by decide
      clear C4
      go_wp2
      go_ret
      exact ⟨ret_int (by rw [HV.out, HW.out]; rfl), HB.out⟩
end Go.Proofs.Ythbajjkggfgogaa
