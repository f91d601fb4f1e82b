/-
  MERGED TEXTS: R1 R2 R3 R4 R5 R6.
-/
import Derived.Test.YtihgakbopkaemaaK1
import Derived.Test.YtihgakbopkaemaaK2
namespace Go.Proofs.Ytihgakbopkaemaa
open Go.RowKit
set_option maxHeartbeats 1600000 in
theorem ready_any (A : Option Addr) (c : Nat) (g : List Bs.T) (A' : Option Addr) (c' : Nat) (d : List Int) (lo hi lo' hi' : Nat) (w : World) (h : RG w lo hi A g) (hh : hi ≤ w.heap.size) (h' : RI w lo' hi' A' d) (hh' : hi' ≤ w.heap.size) (hl : g.length ≤ 1000) (hd : d.length ≤ 9223372036854775807) :
    Calls Try.prog 116 #[.slice A g.length c, .slice A' d.length c'] w (RetI w (Bs.readyC g d)) := by
  have hb0 : Below w.heap.size w (w.alloc (.cells #[] 3)) := (Below.refl _ _).alloc (Nat.le_refl _) _
  have HG := Lib.hid h
  have HD := Lib.hid h'
  clear h h'
  go_enter Try.func116, Try.ntmps116
  go_wp2
  go_loopw [5, 6] (fun v i wr => ∃ (k : Nat) (A2 : Option Addr) (c2 : Nat), k ≤ g.length ∧ i = .int .i64 k ∧ v = .slice A2 (Bs.pick k (Bs.okNext g d)).length c2 ∧ OI wr w.heap.size A2 c2 (Bs.pick k (Bs.okNext g d)) ∧ Below w.heap.size w wr) (fun _ i _ => g.length - (intOf i).toNat)
  case atStart => exact ⟨0, _, _, Nat.zero_le _, rfl, rfl, OI.new _ _ (Nat.le_refl _), hb0⟩
  case round =>
    obtain ⟨k, A2, c2, hk, rfl, rfl, ho, hb⟩ := hrel
    have sr := hb.size
    have HB := Lib.hid hb
    have HO := Lib.hid ho
    have hpl := Bs.pick_len k (Bs.okNext g d)
    clear hb ho
    by_cases hlt : k < g.length
    · obtain ⟨b, o, N, cN, rfl, h1, h2, q0, q1, q2, q3, hlN, hcN, hN⟩ := (HG.out.below HB.out hh) k hlt
      have hD := HD.out.below HB.out hh'
      have c3 := isIn_any A' c' d (k : Int) lo' hi' wr hD hd
      generalize hv1 : d.contains (k : Int) = b1 at c3
      have c4 := allDone_any N cN g[k].needs A' c' d _ _ _ _ wr hN hD (by omega) hd
      generalize hv2 : (g[k].needs.all fun x => d.contains x) = b2 at c4
      have hok : Bs.okNext g d k = (!b1 && b2) := by rw [Bs.okNext_eq hlt, hv1, hv2]
      have HP := Lib.hid (Bs.pick_snoc k (Bs.okNext g d))
      have HQ := Lib.hid (Bs.pick_skip k (Bs.okNext g d))
      have HOK := Lib.hid hok
      have C3 := Lib.hid c3
      have C4 := Lib.hid c4
      have d1 : (k : Int) < (g.length : Int) := by omega
      clear c3 c4 hv1 hv2 hok q0 q2 q3 hN hD hlN
      generalize Bs.pick k (Bs.okNext g d) = L at *
      cases b1
      · cases b2
        · have HQ := Lib.hid (HQ.out HOK.out)
          go_wp2_with (first | (go_at_call 101; refine (C3.out).mono ?_; rintro e w' ⟨rfl, rfl⟩) | (go_at_call 102; refine (C4.out).mono ?_; rintro e w' ⟨rfl, rfl⟩))
          go_roundw
          case rel => exact ⟨k + 1, A2, c2, by omega, by go_num, by rw [HQ.out], by rw [HQ.out]; exact HO.out, HB.out⟩
          case measure => simp [intOf]; omega
        · have HP := Lib.hid (HP.out HOK.out)
          go_wp2_with (first | (go_at_call 101; refine (C3.out).mono ?_; rintro e w' ⟨rfl, rfl⟩) | (go_at_call 102; refine (C4.out).mono ?_; rintro e w' ⟨rfl, rfl⟩) | (at_builtin; refine push_int rfl _ _ rfl w.heap.size A2 c2 L (k : Int) rfl (HO.out.alloc _) wr.heap.size 1 rfl (by simp [go_sem]) (by omega) (by simp; omega) ?_; intro A3 c3 w3 ho3 hb3 _))
          go_wp2
          go_roundw
          case rel => exact ⟨k + 1, A3, c3, by omega, by go_num, by rw [HP.out, List.length_append]; rfl, by rw [HP.out]; exact ho3, (HB.out.alloc sr _).trans hb3⟩
          case measure => simp [intOf]; omega
      · have HQ := Lib.hid (HQ.out (by rw [HOK.out]; rfl))
        go_wp2_with (first | (go_at_call 101; refine (C3.out).mono ?_; rintro e w' ⟨rfl, rfl⟩) | (go_at_call 102; refine (C4.out).mono ?_; rintro e w' ⟨rfl, rfl⟩))
        go_roundw
        case rel => exact ⟨k + 1, A2, c2, by omega, by go_num, by rw [HQ.out], by rw [HQ.out]; exact HO.out, HB.out⟩
        case measure => simp [intOf]; omega
    · obtain rfl : k = g.length := by omega
      go_wp2
      go_ret
      exact ⟨⟨A2, c2, rfl, HO.out⟩, HB.out⟩
end Go.Proofs.Ytihgakbopkaemaa
namespace Go.Proofs.Ytihgakbopkaemaa
open Go.RowKit
theorem readyL_no {g : List Bs.T} {d : List Int} (h : Bs.vdone g d = false) : Bs.readyL g d = [] := by unfold Bs.readyL; rw [h]; rfl
theorem readyL_yes {g : List Bs.T} {d : List Int} (h : Bs.vdone g d = true) : Bs.readyL g d = Bs.readyC g d := by unfold Bs.readyL; rw [h]; rfl
/-- a list and a bool -/
def RetIB (w : World) (L : List Int) (b : Bool) (e : Ending) (w' : World) : Prop := (∃ A c, e = .returned (.tuple #[.slice A L.length c, .bool b]) ∧ OI w' w.heap.size A c L) ∧ Below w.heap.size w w'
theorem RetIB.nil {w w' : World} {L : List Int} {b : Bool} (hb : Below w.heap.size w w') (h : L = []) (hf : b = false) : RetIB w L b (.returned (.tuple #[.slice none 0 0, .bool false])) w' := by
  subst h
  subst hf
  exact ⟨⟨none, 0, rfl, OI.nil _ _⟩, hb⟩
theorem finL_no {g : List Bs.T} {d : List Int} {a : Int} (h : Bs.finOk g d a = false) : Bs.finL g d a = [] := by unfold Bs.finL; rw [h]; rfl
theorem finL_yes {g : List Bs.T} {d : List Int} {a : Int} (h : Bs.finOk g d a = true) : Bs.finL g d a = Bs.finC g d a := by unfold Bs.finL; rw [h]; rfl
end Go.Proofs.Ytihgakbopkaemaa
namespace Go.Proofs.Ytihgakbopkaemaa
open Go.RowKit
theorem validRoom_any (A : Option Addr) (c : Nat) (r : List Int) (lo hi : Nat) (w : World) (h : RI w lo hi A r) (hl : r.length ≤ 9223372036854775807) :
    Calls Try.prog 71 #[.slice A r.length c] w fun e w' => e = .returned (.bool (Bs.roomOk r)) ∧ w = w' := by
  have C1 := Lib.hid (allIn_any A c r 4 8 lo hi w h hl)
  clear h
  by_cases h3 : r.length = 3
  · have hq : ((r.length : Int) == 3) = true := by rw [beq_iff_eq]; omega
    have HV := Lib.hid (show Bs.allInB r 4 8 = Bs.roomOk r from by unfold Bs.roomOk; simp [h3])
    clear h3
    go_enter Try.func71, Try.ntmps71
    go_wp2_with fail
    refine (C1.out).mono ?_
    rintro e w1 ⟨rfl, rfl⟩
    go_wp2
    go_ret
    exact ⟨ret_bool HV.out, rfl⟩
  · have hq : ((r.length : Int) == 3) = false := by rw [beq_eq_false_iff_ne]; omega
    have HV := Lib.hid (show false = Bs.roomOk r from by unfold Bs.roomOk; simp [h3])
    clear h3
    go_enter Try.func71, Try.ntmps71
    go_wp2
    go_ret
    exact ⟨ret_bool HV.out, rfl⟩
theorem used_any (A : Option Addr) (c : Nat) (g : List Bs.T) (A' : Option Addr) (c' : Nat) (r : List Int) (p : Int) (lo hi lo' hi' : Nat) (w : World) (h : RG w lo hi A g) (h' : RI w lo' hi' A' r) (hF : Bs.fine g = true) (hr : ∀ x ∈ r, 0 ≤ x ∧ x < g.length) (hl : r.length ≤ 1000000) :
    Calls Try.prog 98 #[.slice A g.length c, .slice A' r.length c', .int .i64 p] w fun e w' => e = .returned (.int .i64 (Bs.usedC g r p)) ∧ w = w' := by
  have h8 := Bs.fine_len hF
  have HT := Lib.hid (fun i hi => Bs.fine_task hF (i := i) hi)
  have HR := Lib.hid hr
  have HS := Lib.hid (fun k hk => Bs.sumZ_take r (Bs.unitF g p) k hk)
  obtain ⟨f, hf⟩ : ∃ f : Int → Int, f = Bs.unitF g p := ⟨_, rfl⟩
  rw [← hf] at HS
  have HV := Lib.hid (show Bs.usedC g r p = Bs.sumZ (r.map f) from by rw [hf]; rfl)
  have HFF := Lib.hid (fun v (hv : v < g.length) => show f (v : Int) = if g[v].pool == p then g[v].units else 0 from by rw [hf]; unfold Bs.unitF; rw [Int.toNat_natCast, Bs.pool_at hv, Bs.units_at hv])
  clear hr hF hf
  go_enter Try.func98, Try.ntmps98
  go_wp2
  go_loop [7, 8] (fun s i => ∃ k : Nat, k ≤ r.length ∧ i = .int .i64 k ∧ ∃ t : Int, s = .int .i64 t ∧ t = Bs.sumZ ((r.take k).map f) ∧ 0 ≤ t ∧ t ≤ 4 * k) (fun _ i => r.length - (intOf i).toNat)
  case atStart => exact ⟨0, Nat.zero_le _, rfl, 0, rfl, by simp [Bs.sumZ], by omega, by omega⟩
  case round =>
    obtain ⟨k, hk, rfl, t, rfl, ht, ht0, ht1⟩ := hrel
    by_cases hlt : k < r.length
    · obtain ⟨b, o, rfl, _, _, hc0⟩ := h' k hlt
      obtain ⟨x0, x1⟩ := HR.out r[k] (List.getElem_mem hlt)
      have hst := HS.out k hlt
      rw [← ht] at hst
      have b0 : (0 : Int) ≤ (k : Int) := by omega
      have b1 : (k : Int) < (r.length : Int) := by omega
      generalize hx : r[k] = x at *
      clear hx
      obtain ⟨v, rfl⟩ : ∃ v : Nat, x = (v : Int) := ⟨x.toNat, by omega⟩
      have hv : v < g.length := by omega
      obtain ⟨bg, og, N, cN, rfl, _, _, k0, k1, k2, k3, hnc, hcN, hN⟩ := h v hv
      obtain ⟨_, _, u0, u1⟩ := HT.out v hv
      have hff := HFF.out v hv
      have d0 : (0 : Int) ≤ (v : Int) := by omega
      have d1 : (v : Int) < (g.length : Int) := by omega
      clear k0 k1 hN hnc ht
      generalize g[v].pool = pv at *
      generalize g[v].units = uv at *
      by_cases hp : pv = p
      · have hq : (pv == p) = true := by simp [hp]
        rw [hff, hq] at hst
        simp only [if_true] at hst
        have H1 := Lib.hid hst
        clear hst hff hp
        have hw : IntKind.i64.wrap (t + uv) = t + uv := IntWalk.i64_in _ ⟨by omega, by omega⟩
        go_wp2
        go_round
        case rel => exact ⟨k + 1, by omega, by go_num, t + uv, rfl, H1.out.symm, by omega, by omega⟩
        case measure => simp [intOf]; omega
      · have hq : (pv == p) = false := by simp [hp]
        rw [hff, hq] at hst
        simp only [Bool.false_eq_true, if_false, Int.add_zero] at hst
        have H1 := Lib.hid hst
        clear hst hff hp
        go_wp2
        go_round
        case rel => exact ⟨k + 1, by omega, by go_num, t, rfl, H1.out.symm, by omega, by omega⟩
        case measure => simp [intOf]; omega
    · have e : r.take k = r := List.take_of_length_le (by omega)
      rw [e] at ht
      rw [← HV.out] at ht
      subst ht
      go_wp2
      go_ret
      exact ⟨rfl, rfl⟩
theorem usedL_no1 {g : List Bs.T} {r : List Int} (h : Bs.valid g = false) : Bs.usedL g r = [] := by unfold Bs.usedL; rw [h]; rfl
theorem usedL_no2 {g : List Bs.T} {r : List Int} (h : Bs.inG g r = false) : Bs.usedL g r = [] := by unfold Bs.usedL; rw [h]; simp
theorem usedL_yes {g : List Bs.T} {r : List Int} (hv : Bs.valid g = true) (h : Bs.inG g r = true) : Bs.usedL g r = (List.range 3).map (fun p => Bs.usedC g r ((p : Nat) : Int)) := by unfold Bs.usedL; rw [hv, h]; rfl
end Go.Proofs.Ytihgakbopkaemaa
namespace Go.Proofs.Ytihgakbopkaemaa
open Go.RowKit
theorem runOk_no1 {g : List Bs.T} {m r : List Int} (h : Bs.valid g = false) : Bs.runOk g m r = false := by unfold Bs.runOk; rw [h]; rfl
theorem runOk_no2 {g : List Bs.T} {m r : List Int} (h : Bs.roomOk m = false) : Bs.runOk g m r = false := by unfold Bs.runOk; rw [h]; simp
theorem runOk_no3 {g : List Bs.T} {m r : List Int} (h : Bs.inG g r = false) : Bs.runOk g m r = false := by unfold Bs.runOk; rw [h]; simp
theorem runOk_at {g : List Bs.T} {m r : List Int} (h1 : Bs.valid g = true) (h2 : Bs.roomOk m = true) (h3 : Bs.inG g r = true) : Bs.runOk g m r = Bs.fitsC g m r := by unfold Bs.runOk; rw [h1, h2, h3]; rfl
theorem used_quiet (A : Option Addr) (c : Nat) (g : List Bs.T) (A' : Option Addr) (c' : Nat) (r : List Int) (p : Int) (lo hi lo' hi' : Nat) (w : World) (h : RG w lo hi A g) (h' : RI w lo' hi' A' r) (hF : Bs.fine g = true) (hr : ∀ x ∈ r, 0 ≤ x ∧ x < g.length) (hl : r.length ≤ 1000000) (m n : Nat) :
    Calls Try.prog 98 #[.slice A g.length c, .slice A' r.length c', .int .i64 p] (w.drewN (m + n)) fun e w' => e = .returned (.int .i64 (Bs.usedC g r p)) ∧ ∃ k, w' = w.drewN (m + k) :=
  (used_any A c g A' c' r p lo hi lo' hi' (w.drewN (m + n)) h h' hF hr hl).mono fun _ _ ⟨h1, h2⟩ => ⟨h1, n, h2.symm⟩
set_option maxRecDepth 20000 in
set_option maxHeartbeats 3200000 in
theorem validRunningS_any (A : Option Addr) (c : Nat) (g : List Bs.T) (A1 : Option Addr) (c1 : Nat) (m : List Int) (A' : Option Addr) (c' : Nat) (r : List Int) (lo hi l1 h1 lo' hi' : Nat) (w : World) (h : RG w lo hi A g) (hh : hi ≤ w.heap.size) (hm : RI w l1 h1 A1 m) (hh1 : h1 ≤ w.heap.size) (h' : RI w lo' hi' A' r) (hh' : hi' ≤ w.heap.size) (hl : g.length ≤ 9223372036854775807) (hml : m.length ≤ 9223372036854775807) (hr : r.length ≤ 9223372036854775807) :
    Calls Try.prog 74 #[.slice A g.length c, .slice A1 m.length c1, .slice A' r.length c'] w fun e w' => e = .returned (.bool (Bs.runOk g m r)) ∧ Below w.heap.size w w' := by
  have q1 := validGraphS_any A c g lo hi w h hh hl
  have q2 := fun W (hb : Below w.heap.size w W) => validRoom_any A1 c1 m l1 h1 W (hm.below hb hh1) hml
  have q3 := fun W (hb : Below w.heap.size w W) => ascends_any A' c' r lo' hi' W (h'.below hb hh') hr
  have q4 := fun W (hb : Below w.heap.size w W) => allIn_any A' c' r 0 ((g.length : Int) - 1) lo' hi' W (h'.below hb hh') hr
  cases hv : Bs.valid g
  · rw [hv] at q1
    have C1 := Lib.hid q1
    have HV := Lib.hid (runOk_no1 (m := m) (r := r) hv)
    clear q1 q2 q3 q4 h h' hm
    go_enter Try.func74, Try.ntmps74
    go_wp2_with fail
    refine (C1.out).mono ?_
    rintro e w1 ⟨rfl, hb⟩
    have HB := Lib.hid hb
    clear hb
    go_wp2
    go_ret
    exact ⟨ret_bool HV.out.symm, HB.out⟩
  · have hF := valid_fine hv
    have h8 := Bs.fine_len hF
    have hw : IntKind.i64.wrap ((g.length : Int) - 1) = (g.length : Int) - 1 := IntWalk.i64_in _ ⟨by omega, by omega⟩
    rw [hv] at q1
    cases hro : Bs.roomOk m
    · rw [hro] at q2
      have C1 := Lib.hid q1
      have C2 := Lib.hid q2
      have HV := Lib.hid (runOk_no2 (g := g) (r := r) hro)
      clear q1 q2 q3 q4 h h' hm
      go_enter Try.func74, Try.ntmps74
      go_wp2_with fail
      refine (C1.out).mono ?_
      rintro e w1 ⟨rfl, hb⟩
      have HB := Lib.hid hb
      clear hb
      go_wp2_with fail
      refine (C2.out _ HB.out).mono ?_
      rintro e w2 ⟨rfl, rfl⟩
      go_wp2
      go_ret
      exact ⟨ret_bool HV.out.symm, HB.out⟩
    · rw [hro] at q2
      have HM3 := Lib.hid (Bs.roomOk_len hro)
      cases ha : Bs.asc r
      · rw [ha] at q3
        have C1 := Lib.hid q1
        have C2 := Lib.hid q2
        have C3 := Lib.hid q3
        have HV := Lib.hid (runOk_no3 (m := m) (Bs.inG_no1 (g := g) ha))
        clear q1 q2 q3 q4 h h' hm
        go_enter Try.func74, Try.ntmps74
        go_wp2_with fail
        refine (C1.out).mono ?_
        rintro e w1 ⟨rfl, hb⟩
        have HB := Lib.hid hb
        clear hb
        go_wp2_with fail
        refine (C2.out _ HB.out).mono ?_
        rintro e w2 ⟨rfl, rfl⟩
        go_wp2_with fail
        refine (C3.out _ HB.out).mono ?_
        rintro e w3 ⟨rfl, n3, rfl⟩
        have HB := Lib.hid (HB.out.drewN n3)
        go_wp2
        go_ret
        exact ⟨ret_bool HV.out.symm, HB.out⟩
      · rw [ha] at q3
        cases hin : Bs.allInB r 0 ((g.length : Int) - 1)
        · rw [hin] at q4
          have C1 := Lib.hid q1
          have C2 := Lib.hid q2
          have C3 := Lib.hid q3
          have C4 := Lib.hid q4
          have HV := Lib.hid (runOk_no3 (m := m) (Bs.inG_no2 (g := g) hin))
          clear q1 q2 q3 q4 h h' hm
          go_enter Try.func74, Try.ntmps74
          go_wp2_with fail
          refine (C1.out).mono ?_
          rintro e w1 ⟨rfl, hb⟩
          have HB := Lib.hid hb
          clear hb
          go_wp2_with fail
          refine (C2.out _ HB.out).mono ?_
          rintro e w2 ⟨rfl, rfl⟩
          go_wp2_with fail
          refine (C3.out _ HB.out).mono ?_
          rintro e w3 ⟨rfl, n3, rfl⟩
          have HB := Lib.hid (HB.out.drewN n3)
          go_wp2_with fail
          refine (C4.out _ HB.out).mono ?_
          rintro e w4 ⟨rfl, rfl⟩
          go_wp2
          go_ret
          exact ⟨ret_bool HV.out.symm, HB.out⟩
        · rw [hin] at q4
          have hig := Bs.inG_yes ha hin
          have hrl := Bs.inG_len hig
          have C1 := Lib.hid q1
          have C2 := Lib.hid q2
          have C3 := Lib.hid q3
          have C4 := Lib.hid q4
          have HV := Lib.hid (runOk_at hv hro hig)
          have CU := Lib.hid (fun (p : Int) W (hb : Below w.heap.size w W) => used_quiet A c g A' c' r p lo hi lo' hi' W (h.below hb hh) (h'.below hb hh') hF (Bs.inG_mem hig) (by omega))
          have HM := Lib.hid hm
          clear q1 q2 q3 q4 hv ha hin h h' hF hig hro hm
          go_enter Try.func74, Try.ntmps74
          go_wp2_with fail
          refine (C1.out).mono ?_
          rintro e w1 ⟨rfl, hb⟩
          have HB := Lib.hid hb
          clear hb
          go_wp2_with fail
          refine (C2.out _ HB.out).mono ?_
          rintro e w2 ⟨rfl, rfl⟩
          go_wp2_with fail
          refine (C3.out _ HB.out).mono ?_
          rintro e w3 ⟨rfl, n3, rfl⟩
          have HB := Lib.hid (HB.out.drewN n3)
          go_wp2_with fail
          refine (C4.out _ HB.out).mono ?_
          rintro e w4 ⟨rfl, rfl⟩
          generalize w1.drewN n3 = W1 at *
          have HM1 := Lib.hid (HM.out.below HB.out hh1)
          clear C1 C2 C3 C4 hw HM
          obtain ⟨q, hq⟩ : ∃ q : Nat → Bool, q = fun (p : Nat) => decide (Bs.usedC g r (p : Int) ≤ Bs.giZ m p) := ⟨_, rfl⟩
          have HQ := Lib.hid (fun (k : Nat) => show q k = decide (Bs.usedC g r (k : Int) ≤ Bs.giZ m k) from by rw [hq])
          have HV := Lib.hid (show Bs.runOk g m r = (List.range 3).all q from by rw [HV.out, hq]; rfl)
          clear hq
          go_wp2
          go_loopw [7] (fun i wr => ∃ k : Nat, k ≤ 3 ∧ i = .int .i64 (k : Int) ∧ (List.range k).all q = true ∧ ∃ n, wr = W1.drewN n) (fun i _ => 3 - (intOf i).toNat)
          case atStart => exact ⟨0, by omega, rfl, rfl, 0, rfl⟩
          case round =>
            obtain ⟨k, hk, rfl, hall, n, rfl⟩ := hrel
            by_cases hlt : k < 3
            · have d1 : decide ((k : Int) < 3) = true := by simp; omega
              have hkm : k < m.length := by have := HM3.out; omega
              obtain ⟨b, o, rfl, _, _, hc0⟩ := HM1.out k hkm
              have C5 := fun j => CU.out (k : Int) W1 HB.out n j
              have hqk := HQ.out k
              rw [Bs.giZ_at hkm] at hqk
              have hst : (List.range (k + 1)).all q = q k := by rw [List.range_succ, List.all_append, hall]; simp
              have hst3 := fun (hf : q k = false) => show (List.range 3).all q = false from by rw [List.all_eq_false]; exact ⟨k, by simpa using hlt, by simp [hf]⟩
              have b0 : (0 : Int) ≤ (k : Int) := by omega
              have b1 : (k : Int) < (m.length : Int) := by omega
              generalize m[k] = x at *
              generalize Bs.usedC g r (k : Int) = u at *
              have C5 := fun j => Lib.hid (C5 j)
              have HST := Lib.hid hst
              have HST3 := Lib.hid hst3
              have HQK := Lib.hid hqk
              clear hst hst3 hqk hall
              by_cases hux : x < u
              · have d2 : decide (x < u) = true := by simpa using hux
                have HF := Lib.hid (HST3.out (by rw [HQK.out]; simp; omega))
                clear hux
                go_wp2
                go_quiet ((go_at_call 98; exact (C5 _).out))
                go_wp2
                go_ret
                exact ⟨ret_bool (show false = _ from by rw [HV.out, HF.out]), by first | exact HB.out.drewN _ | exact (HB.out.drewN _).drewN _⟩
              · have d2 : decide (x < u) = false := by simpa using hux
                have HF := Lib.hid (HST.out.trans (show q k = true from by rw [HQK.out]; simp; omega))
                clear hux
                go_wp2
                go_quiet ((go_at_call 98; exact (C5 _).out))
                go_wp2
                go_roundw
                case rel => exact ⟨k + 1, by omega, by go_num, HF.out, _, by first | rfl | rw [World.drewN_drewN]⟩
                case measure => simp [intOf]; omega
            · have d1 : decide ((k : Int) < 3) = false := by simp; omega
              have hk3 : k = 3 := by omega
              subst hk3
              have HA := Lib.hid hall
              clear hall
              go_wp2
              go_ret
              exact ⟨ret_bool (show true = _ from by rw [HV.out, HA.out]), by first | exact HB.out.drewN _ | exact (HB.out.drewN _).drewN _⟩
end Go.Proofs.Ytihgakbopkaemaa
namespace Go.Proofs.Ytihgakbopkaemaa
open Go.RowKit
theorem waitsL_no1 {g : List Bs.T} {d : List Int} {a : Int} (h : Bs.vdone g d = false) : Bs.waitsL g d a = [] := by unfold Bs.waitsL; rw [h]; rfl
theorem waitsL_no2 {g : List Bs.T} {d : List Int} {a : Int} (h : decide (0 ≤ a ∧ a ≤ (g.length : Int) - 1) = false) : Bs.waitsL g d a = [] := by unfold Bs.waitsL; rw [h]; simp
theorem waitsL_yes {g : List Bs.T} {d : List Int} {a : Int} (h : Bs.vdone g d = true) (h2 : decide (0 ≤ a ∧ a ≤ (g.length : Int) - 1) = true) : Bs.waitsL g d a = Bs.waitsC g d a := by unfold Bs.waitsL; rw [h, h2]; rfl
theorem filter_take {l : List Int} (p : Int → Bool) (k : Nat) (hk : k < l.length) : (l.take (k + 1)).filter p = (l.take k).filter p ++ (if p l[k] then [l[k]] else []) := by
  rw [List.take_succ_eq_append_getElem hk, List.filter_append]
  congr 1
  cases hp : p l[k] <;> simp [hp]
end Go.Proofs.Ytihgakbopkaemaa
namespace Go.Proofs.Ytihgakbopkaemaa
open Go.RowKit
end Go.Proofs.Ytihgakbopkaemaa
