/-
  WALKS: deadlines of the model: which are met, and how many workers they want.
-/
import Derived.Test.YthbajjkggfgogaaMath120
import Derived.Test.YthbajjkggfgogaaK15
namespace Go.Proofs.Ythbajjkggfgogaa
open Go.RowKit
set_option maxHeartbeats 1600000 in
theorem MeetsDeadlineS_any (A : Option Addr) (c : Nat) (g : List Bs.T) (A1 : Option Addr) (c1 : Nat) (m : List Int) (A2 : Option Addr) (c2 : Nat) (S : List Int) (wk d : Int) (lo hi l1 h1 l2 h2 : Nat) (w : World) (h : RG w lo hi A g) (hh : hi ≤ w.heap.size) (hm : RI w l1 h1 A1 m) (hh1 : h1 ≤ w.heap.size) (hs : RI w l2 h2 A2 S) (hh2 : h2 ≤ w.heap.size) (hl : g.length ≤ 9223372036854775807) (hml : m.length ≤ 9223372036854775807) (hsl : S.length ≤ 9223372036854775807) :
    Calls Try.prog 29 #[.slice A g.length c, .slice A1 m.length c1, .int .i64 wk, .slice A2 S.length c2, .int .i64 d] w fun e w' => e = .returned (.bool (Bs.meetB g m wk S d)) ∧ Below w.heap.size w w' := by
  have q1 := validStartsS_any A c g A1 c1 m A2 c2 S wk lo hi l1 h1 l2 h2 w h hh hm hh1 hs hh2 hl hml hsl
  have q2 := fun W => inRange_any d 0 200 W
  have hdd : decide (0 ≤ d ∧ d ≤ 200) = Bs.dlOk d := rfl
  rw [hdd] at q2
  cases hv : Bs.stV g m wk S
  · rw [hv] at q1
    have C1 := Lib.hid q1
    have HV := Lib.hid (Bs.meetB_no1 (d := d) hv)
    clear q1 q2 hv h hm hs hdd
    go_enter Try.func29, Try.ntmps29
    go_wp2_with fail
    with_reducible refine (C1.out).mono ?_
    rintro e w1 ⟨rfl, hb⟩
    have HB := Lib.hid hb
    clear hb
    go_wp2
    go_ret
    exact ⟨ret_bool HV.out.symm, HB.out⟩
  rw [hv] at q1
  have C1 := Lib.hid q1
  cases hd : Bs.dlOk d
  · rw [hd] at q2
    have C2 := Lib.hid q2
    have HV := Lib.hid (Bs.meetB_no2 (g := g) (m := m) (wk := wk) (S := S) hd)
    clear q1 q2 hv h hm hs hd hdd
    go_enter Try.func29, Try.ntmps29
    go_wp2_with fail
    with_reducible refine (C1.out).mono ?_
    rintro e w1 ⟨rfl, hb⟩
    have HB := Lib.hid hb
    clear hb
    go_wp2_with fail
    with_reducible refine (C2.out _).mono ?_
    rintro e w2 ⟨rfl, rfl⟩
    go_wp2
    go_ret
    exact ⟨ret_bool HV.out.symm, HB.out⟩
  rw [hd] at q2
  obtain ⟨hcan, hck, _⟩ := Bs.stV_iff.1 hv
  have hF := valid_fine (Bs.canV_iff.1 hcan).1
  have hSl := Bs.clk_len hck
  have C3 := Lib.hid (fun W (hb : Below w.heap.size w W) => endOfS_any A c g A2 c2 S lo hi l2 h2 W (h.below hb hh) (hs.below hb hh2) hF (Nat.le_of_eq hSl.symm) hsl (fun i _ => by have := Bs.clk_at hck i; omega))
  have C2 := Lib.hid q2
  have HV := Lib.hid (Bs.meetB_yes hv hd)
  clear q1 q2 hv h hm hs hd hcan hck hF hSl hdd
  generalize Bs.endC g S = E at *
  go_enter Try.func29, Try.ntmps29
  go_wp2_with fail
  with_reducible refine (C1.out).mono ?_
  rintro e w1 ⟨rfl, hb⟩
  have HB := Lib.hid hb
  clear hb
  go_wp2_with fail
  with_reducible refine (C2.out _).mono ?_
  rintro e w2 ⟨rfl, rfl⟩
  go_wp2_with fail
  with_reducible refine (C3.out _ HB.out).mono ?_
  rintro e w3 ⟨rfl, n, rfl⟩
  go_wp2
  go_ret
  exact ⟨ret_bool HV.out.symm, HB.out.drewN _⟩
set_option maxHeartbeats 3200000 in
theorem WorkersForS_any (A : Option Addr) (c : Nat) (g : List Bs.T) (A1 : Option Addr) (c1 : Nat) (m : List Int) (d : Int) (lo hi l1 h1 : Nat) (w : World) (h : RG w lo hi A g) (hh : hi ≤ w.heap.size) (hm : RI w l1 h1 A1 m) (hh1 : h1 ≤ w.heap.size) (hl : g.length ≤ 9223372036854775807) (hml : m.length ≤ 9223372036854775807) :
    Calls Try.prog 32 #[.slice A g.length c, .slice A1 m.length c1, .int .i64 d] w fun e w' => e = .returned (.int .i64 (Bs.wrkL g m d)) ∧ Below w.heap.size w w' := by
  have q1 := validGraphS_any A c g lo hi w h hh hl
  have q2 := fun W (hb : Below w.heap.size w W) => validRoom_any A1 c1 m l1 h1 W (hm.below hb hh1) hml
  have q3 := fun W => inRange_any d 0 200 W
  have hdd : decide (0 ≤ d ∧ d ≤ 200) = Bs.dlOk d := rfl
  rw [hdd] at q3
  clear hdd
  cases hv : Bs.valid g
  · rw [hv] at q1
    have C1 := Lib.hid q1
    have HV := Lib.hid (Bs.wrkL_no1 (m := m) (d := d) hv)
    clear q1 q2 q3 hv h hm
    go_enter Try.func32, Try.ntmps32
    go_wp2_with fail
    with_reducible refine (C1.out).mono ?_
    rintro e w1 ⟨rfl, hb⟩
    have HB := Lib.hid hb
    clear hb
    go_wp2
    go_ret
    exact ⟨ret_int HV.out.symm, HB.out⟩
  rw [hv] at q1
  have C1 := Lib.hid q1
  cases hr : Bs.roomOk m
  · rw [hr] at q2
    have C2 := Lib.hid q2
    have HV := Lib.hid (Bs.wrkL_no2 (g := g) (d := d) hr)
    clear q1 q2 q3 hv hr h hm
    go_enter Try.func32, Try.ntmps32
    go_wp2_with fail
    with_reducible refine (C1.out).mono ?_
    rintro e w1 ⟨rfl, hb⟩
    have HB := Lib.hid hb
    clear hb
    go_wp2_with fail
    with_reducible refine (C2.out _ HB.out).mono ?_
    rintro e w2 ⟨rfl, rfl⟩
    go_wp2
    go_ret
    exact ⟨ret_int HV.out.symm, HB.out⟩
  rw [hr] at q2
  have C2 := Lib.hid q2
  cases hd : Bs.dlOk d
  · rw [hd] at q3
    have C3 := Lib.hid q3
    have HV := Lib.hid (Bs.wrkL_no3 (g := g) (m := m) hd)
    clear q1 q2 q3 hv hr hd h hm
    go_enter Try.func32, Try.ntmps32
    go_wp2_with fail
    with_reducible refine (C1.out).mono ?_
    rintro e w1 ⟨rfl, hb⟩
    have HB := Lib.hid hb
    clear hb
    go_wp2_with fail
    with_reducible refine (C2.out _ HB.out).mono ?_
    rintro e w2 ⟨rfl, rfl⟩
    go_wp2_with fail
    with_reducible refine (C3.out _).mono ?_
    rintro e w2 ⟨rfl, rfl⟩
    go_wp2
    go_ret
    exact ⟨ret_int HV.out.symm, HB.out⟩
  rw [hd] at q3
  have C3 := Lib.hid q3
  have hF := valid_fine hv
  have CP := Lib.hid (fun wk (a : 1 ≤ wk) (b : wk ≤ 4) W (hb : Below w.heap.size w W) => planS_any A c g A1 c1 m wk lo hi l1 h1 W (h.below hb hh) (Nat.le_trans hh hb.size) (hm.below hb hh1) (Nat.le_trans hh1 hb.size) (Bs.canV_iff.2 ⟨hv, hr, a, b⟩))
  have CE := Lib.hid (fun wk (a : 1 ≤ wk) (b : wk ≤ 4) A2 c2 l2 h2 W (hb : Below w.heap.size w W) (hs : RI W l2 h2 A2 (Bs.planC g m wk)) => endOfS_any A c g A2 c2 (Bs.planC g m wk) lo hi l2 h2 W (h.below hb hh) hs hF (Nat.le_of_eq (Bs.planC_len hv hr).symm) (by rw [Bs.planC_len hv hr]; have := Bs.fine_len hF; omega) (fun i _ => by have := Bs.clk_at (Bs.plan_clk (Bs.canV_iff.2 ⟨hv, hr, a, b⟩)) i; omega))
  have HV := Lib.hid (Bs.wrkL_yes hv hr hd)
  have HW0 := Lib.hid (show Bs.wrkC g m d = Bs.wrkFrom (Bs.meetP g m d) (5 - 1) ((1 : Nat) : Int) from rfl)
  have HMP := Lib.hid (fun (n : Int) => show Bs.meetP g m d n = decide (Bs.endC g (Bs.planC g m n) ≤ d) from rfl)
  clear q1 q2 q3 hv hr hd h hm hF
  go_enter Try.func32, Try.ntmps32
  go_wp2_with fail
  with_reducible refine (C1.out).mono ?_
  rintro e w1 ⟨rfl, hb⟩
  have HB := Lib.hid hb
  clear hb
  go_wp2_with fail
  with_reducible refine (C2.out _ HB.out).mono ?_
  rintro e w2 ⟨rfl, rfl⟩
  go_wp2_with fail
  with_reducible refine (C3.out _).mono ?_
  rintro e w2 ⟨rfl, rfl⟩
  clear C1 C2 C3
  go_wp2
  go_loopw [7] (fun a wr => ∃ (k : Nat), a = .int .i64 k ∧ 1 ≤ k ∧ k ≤ 5 ∧ Bs.wrkC g m d = Bs.wrkFrom (Bs.meetP g m d) (5 - k) k ∧ Below w.heap.size w wr) (fun a _ => 5 - (intOf a).toNat)
  case atStart => exact ⟨1, rfl, by omega, by omega, HW0.out, HB.out⟩
  case round =>
    clear HW0 HB
    obtain ⟨k, rfl, hk1, hk5, hw, hb⟩ := hrel
    have HW := Lib.hid hw
    have HB := Lib.hid hb
    have sr := hb.size
    clear hw hb
    by_cases hlt : k ≤ 4
    · have C5 := Lib.hid (CP.out (k : Int) (by omega) (by omega) wr HB.out)
      have C6 := Lib.hid (CE.out (k : Int) (by omega) (by omega))
      have hmp := HMP.out (k : Int)
      have HY := Lib.hid (fun (h : Bs.meetP g m d k = true) => show Bs.wrkC g m d = k from by rw [HW.out, show 5 - k = (4 - k) + 1 from by omega]; exact Bs.wrk_yes h)
      have HN := Lib.hid (fun (h : Bs.meetP g m d k = false) => show Bs.wrkC g m d = Bs.wrkFrom (Bs.meetP g m d) (5 - (k + 1)) ((k + 1 : Nat) : Int) from by rw [HW.out, show 5 - k = (5 - (k + 1)) + 1 from by omega]; exact Bs.wrk_no h)
      have d0 : decide ((k : Int) ≤ 4) = true := decide_eq_true (by omega)
      have e4 : IntKind.i64.wrap ((k : Int) + 1) = (k : Int) + 1 := IntWalk.i64_in _ ⟨by omega, by omega⟩
      rw [hmp] at HY HN
      clear HW CP CE HMP hmp
      generalize Bs.endC g (Bs.planC g m (k : Int)) = E at *
      generalize Bs.planC g m (k : Int) = L at *
      go_wp2_with fail
      with_reducible refine (C5.out).mono ?_
      rintro e w5 ⟨⟨A5, c5, rfl, ho5⟩, hb5⟩
      have HB5 := Lib.hid (HB.out.trans (hb5.mono sr))
      have C7 := Lib.hid (C6.out A5 c5 _ _ w5 HB5.out ho5.ri)
      clear hb5 ho5 C5 C6
      cases hp : decide (E ≤ d)
      · have HN2 := Lib.hid (HN.out hp)
        clear HN HY
        go_wp2_with fail
        with_reducible refine (C7.out).mono ?_
        rintro e w6 ⟨rfl, n, rfl⟩
        have HB6 := Lib.hid (HB5.out.drewN n)
        clear C7
        go_wp2
        go_roundw
        case rel => exact ⟨k + 1, by go_num, by omega, by omega, HN2.out, HB6.out⟩
        case measure => simp [intOf]; omega
      · have HY2 := Lib.hid (HY.out hp)
        clear HN HY
        go_wp2_with fail
        with_reducible refine (C7.out).mono ?_
        rintro e w6 ⟨rfl, n, rfl⟩
        have HB6 := Lib.hid (HB5.out.drewN n)
        clear C7
        go_wp2
        go_ret
        exact ⟨ret_int (by rw [HV.out, HY2.out]), HB6.out⟩
    · obtain rfl : k = 5 := by omega
      have d0 : decide ((5 : Int) ≤ 4) = false := by decide
      clear CP CE
      go_wp2
      go_ret
      exact ⟨ret_int (by rw [HV.out, HW.out]; rfl), HB.out⟩
end Go.Proofs.Ythbajjkggfgogaa
