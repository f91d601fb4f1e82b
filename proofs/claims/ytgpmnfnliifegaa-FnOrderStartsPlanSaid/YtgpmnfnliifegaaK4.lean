/-
  MERGED TEXTS: R1 R2 R3 R4 R5 R6.
-/
import Derived.Test.YtgpmnfnliifegaaK1
import Derived.Test.YtgpmnfnliifegaaK2
namespace Go.Proofs.Ytgpmnfnliifegaa
open Go.RowKit
set_option maxHeartbeats 1600000 in
theorem ready_any (A : Option Addr) (c : Nat) (g : List Bs.T) (A' : Option Addr) (c' : Nat) (d : List Int) (lo hi lo' hi' : Nat) (w : World) (h : RG w lo hi A g) (hh : hi ≤ w.heap.size) (h' : RI w lo' hi' A' d) (hh' : hi' ≤ w.heap.size) (hl : g.length ≤ 1000) (hd : d.length ≤ 9223372036854775807) :
    Calls Try.prog 95 #[.slice A g.length c, .slice A' d.length c'] w (RetI w (Bs.readyC g d)) := by
  have hb0 : Below w.heap.size w (w.alloc (.cells #[] 3)) := (Below.refl _ _).alloc (Nat.le_refl _) _
  have HG := Lib.hid h
  have HD := Lib.hid h'
  clear h h'
  go_enter Try.func95, Try.ntmps95
  go_wp2
  go_loopw [5, 6] (fun v i wr => ∃ (k : Nat) (A2 : Option Addr) (c2 : Nat), k ≤ g.length ∧ i = .int .i64 k ∧ v = .slice A2 (Bs.pick k (Bs.okNext g d)).length c2 ∧ OI wr w.heap.size A2 c2 (Bs.pick k (Bs.okNext g d)) ∧ Below w.heap.size w wr) (fun _ i _ => g.length - (intOf i).toNat)
  case atStart => exact ⟨0, _, _, Nat.zero_le _, rfl, rfl, OI.new _ _ (Nat.le_refl _), hb0⟩
  case round =>
    obtain ⟨k, A2, c2, hk, rfl, rfl, ho, hb⟩ := hrel
    have sr := hb.size
    have HB := Lib.hid hb
    have HO := Lib.hid ho
    have hpl := Bs.pick_len k (Bs.okNext g d)
    clear hb ho
    by_cases hlt : k < g.length
    · obtain ⟨b, o, N, cN, rfl, h1, h2, q0, q1, q2, q3, hlN, hcN, hN⟩ := (HG.out.below HB.out hh) k hlt
      have hD := HD.out.below HB.out hh'
      have c3 := isIn_any A' c' d (k : Int) lo' hi' wr hD hd
      generalize hv1 : d.contains (k : Int) = b1 at c3
      have c4 := allDone_any N cN g[k].needs A' c' d _ _ _ _ wr hN hD (by omega) hd
      generalize hv2 : (g[k].needs.all fun x => d.contains x) = b2 at c4
      have hok : Bs.okNext g d k = (!b1 && b2) := by rw [Bs.okNext_eq hlt, hv1, hv2]
      have HP := Lib.hid (Bs.pick_snoc k (Bs.okNext g d))
      have HQ := Lib.hid (Bs.pick_skip k (Bs.okNext g d))
      have HOK := Lib.hid hok
      have C3 := Lib.hid c3
      have C4 := Lib.hid c4
      have d1 : (k : Int) < (g.length : Int) := by omega
      clear c3 c4 hv1 hv2 hok q0 q2 q3 hN hD hlN
      generalize Bs.pick k (Bs.okNext g d) = L at *
      cases b1
      · cases b2
        · have HQ := Lib.hid (HQ.out HOK.out)
          go_wp2_with (first | (go_at_call 75; refine (C3.out).mono ?_; rintro e w' ⟨rfl, rfl⟩) | (go_at_call 76; refine (C4.out).mono ?_; rintro e w' ⟨rfl, rfl⟩))
          go_roundw
          case rel => exact ⟨k + 1, A2, c2, by omega, by go_num, by rw [HQ.out], by rw [HQ.out]; exact HO.out, HB.out⟩
          case measure => simp [intOf]; omega
        · have HP := Lib.hid (HP.out HOK.out)
          go_wp2_with (first | (go_at_call 75; refine (C3.out).mono ?_; rintro e w' ⟨rfl, rfl⟩) | (go_at_call 76; refine (C4.out).mono ?_; rintro e w' ⟨rfl, rfl⟩) | (at_builtin; refine push_int rfl _ _ rfl w.heap.size A2 c2 L (k : Int) rfl (HO.out.alloc _) wr.heap.size 1 rfl (by simp [go_sem]) (by omega) (by simp; omega) ?_; intro A3 c3 w3 ho3 hb3 _))
          go_wp2
          go_roundw
          case rel => exact ⟨k + 1, A3, c3, by omega, by go_num, by rw [HP.out, List.length_append]; rfl, by rw [HP.out]; exact ho3, (HB.out.alloc sr _).trans hb3⟩
          case measure => simp [intOf]; omega
      · have HQ := Lib.hid (HQ.out (by rw [HOK.out]; rfl))
        go_wp2_with (first | (go_at_call 75; refine (C3.out).mono ?_; rintro e w' ⟨rfl, rfl⟩) | (go_at_call 76; refine (C4.out).mono ?_; rintro e w' ⟨rfl, rfl⟩))
        go_roundw
        case rel => exact ⟨k + 1, A2, c2, by omega, by go_num, by rw [HQ.out], by rw [HQ.out]; exact HO.out, HB.out⟩
        case measure => simp [intOf]; omega
    · obtain rfl : k = g.length := by omega
      go_wp2
      go_ret
      exact ⟨⟨A2, c2, rfl, HO.out⟩, HB.out⟩
end Go.Proofs.Ytgpmnfnliifegaa
namespace Go.Proofs.Ytgpmnfnliifegaa
open Go.RowKit
theorem readyL_no {g : List Bs.T} {d : List Int} (h : Bs.vdone g d = false) : Bs.readyL g d = [] := by unfold Bs.readyL; rw [h]; rfl
theorem readyL_yes {g : List Bs.T} {d : List Int} (h : Bs.vdone g d = true) : Bs.readyL g d = Bs.readyC g d := by unfold Bs.readyL; rw [h]; rfl
/-- a list and a bool -/
def RetIB (w : World) (L : List Int) (b : Bool) (e : Ending) (w' : World) : Prop := (∃ A c, e = .returned (.tuple #[.slice A L.length c, .bool b]) ∧ OI w' w.heap.size A c L) ∧ Below w.heap.size w w'
theorem RetIB.nil {w w' : World} {L : List Int} {b : Bool} (hb : Below w.heap.size w w') (h : L = []) (hf : b = false) : RetIB w L b (.returned (.tuple #[.slice none 0 0, .bool false])) w' := by
  subst h
  subst hf
  exact ⟨⟨none, 0, rfl, OI.nil _ _⟩, hb⟩
theorem finL_no {g : List Bs.T} {d : List Int} {a : Int} (h : Bs.finOk g d a = false) : Bs.finL g d a = [] := by unfold Bs.finL; rw [h]; rfl
theorem finL_yes {g : List Bs.T} {d : List Int} {a : Int} (h : Bs.finOk g d a = true) : Bs.finL g d a = Bs.finC g d a := by unfold Bs.finL; rw [h]; rfl
end Go.Proofs.Ytgpmnfnliifegaa
namespace Go.Proofs.Ytgpmnfnliifegaa
open Go.RowKit
theorem validRoom_any (A : Option Addr) (c : Nat) (r : List Int) (lo hi : Nat) (w : World) (h : RI w lo hi A r) (hl : r.length ≤ 9223372036854775807) :
    Calls Try.prog 45 #[.slice A r.length c] w fun e w' => e = .returned (.bool (Bs.roomOk r)) ∧ w = w' := by
  have C1 := Lib.hid (allIn_any A c r 4 8 lo hi w h hl)
  clear h
  by_cases h3 : r.length = 3
  · have hq : ((r.length : Int) == 3) = true := by rw [beq_iff_eq]; omega
    have HV := Lib.hid (show Bs.allInB r 4 8 = Bs.roomOk r from by unfold Bs.roomOk; simp [h3])
    clear h3
    go_enter Try.func45, Try.ntmps45
    go_wp2_with fail
    refine (C1.out).mono ?_
    rintro e w1 ⟨rfl, rfl⟩
    go_wp2
    go_ret
    exact ⟨ret_bool HV.out, rfl⟩
  · have hq : ((r.length : Int) == 3) = false := by rw [beq_eq_false_iff_ne]; omega
    have HV := Lib.hid (show false = Bs.roomOk r from by unfold Bs.roomOk; simp [h3])
    clear h3
    go_enter Try.func45, Try.ntmps45
    go_wp2
    go_ret
    exact ⟨ret_bool HV.out, rfl⟩
theorem used_any (A : Option Addr) (c : Nat) (g : List Bs.T) (A' : Option Addr) (c' : Nat) (r : List Int) (p : Int) (lo hi lo' hi' : Nat) (w : World) (h : RG w lo hi A g) (h' : RI w lo' hi' A' r) (hF : Bs.fine g = true) (hr : ∀ x ∈ r, 0 ≤ x ∧ x < g.length) (hl : r.length ≤ 1000000) :
    Calls Try.prog 122 #[.slice A g.length c, .slice A' r.length c', .int .i64 p] w fun e w' => e = .returned (.int .i64 (Bs.usedC g r p)) ∧ w = w' := by
  have h8 := Bs.fine_len hF
  have HT := Lib.hid (fun i hi => Bs.fine_task hF (i := i) hi)
  have HR := Lib.hid hr
  have HS := Lib.hid (fun k hk => Bs.sumZ_take r (Bs.unitF g p) k hk)
  obtain ⟨f, hf⟩ : ∃ f : Int → Int, f = Bs.unitF g p := ⟨_, rfl⟩
  rw [← hf] at HS
  have HV := Lib.hid (show Bs.usedC g r p = Bs.sumZ (r.map f) from by rw [hf]; rfl)
  have HFF := Lib.hid (fun v (hv : v < g.length) => show f (v : Int) = if g[v].pool == p then g[v].units else 0 from by rw [hf]; unfold Bs.unitF; rw [Int.toNat_natCast, Bs.pool_at hv, Bs.units_at hv])
  clear hr hF hf
  go_enter Try.func122, Try.ntmps122
  go_wp2
  go_loop [7, 8] (fun s i => ∃ k : Nat, k ≤ r.length ∧ i = .int .i64 k ∧ ∃ t : Int, s = .int .i64 t ∧ t = Bs.sumZ ((r.take k).map f) ∧ 0 ≤ t ∧ t ≤ 4 * k) (fun _ i => r.length - (intOf i).toNat)
  case atStart => exact ⟨0, Nat.zero_le _, rfl, 0, rfl, by simp [Bs.sumZ], by omega, by omega⟩
  case round =>
    obtain ⟨k, hk, rfl, t, rfl, ht, ht0, ht1⟩ := hrel
    by_cases hlt : k < r.length
    · obtain ⟨b, o, rfl, _, _, hc0⟩ := h' k hlt
      obtain ⟨x0, x1⟩ := HR.out r[k] (List.getElem_mem hlt)
      have hst := HS.out k hlt
      rw [← ht] at hst
      have b0 : (0 : Int) ≤ (k : Int) := by omega
      have b1 : (k : Int) < (r.length : Int) := by omega
      generalize hx : r[k] = x at *
      clear hx
      obtain ⟨v, rfl⟩ : ∃ v : Nat, x = (v : Int) := ⟨x.toNat, by omega⟩
      have hv : v < g.length := by omega
      obtain ⟨bg, og, N, cN, rfl, _, _, k0, k1, k2, k3, hnc, hcN, hN⟩ := h v hv
      obtain ⟨_, _, u0, u1⟩ := HT.out v hv
      have hff := HFF.out v hv
      have d0 : (0 : Int) ≤ (v : Int) := by omega
      have d1 : (v : Int) < (g.length : Int) := by omega
      clear k0 k1 hN hnc ht
      generalize g[v].pool = pv at *
      generalize g[v].units = uv at *
      by_cases hp : pv = p
      · have hq : (pv == p) = true := by simp [hp]
        rw [hff, hq] at hst
        simp only [if_true] at hst
        have H1 := Lib.hid hst
        clear hst hff hp
        have hw : IntKind.i64.wrap (t + uv) = t + uv := IntWalk.i64_in _ ⟨by omega, by omega⟩
        go_wp2
        go_round
        case rel => exact ⟨k + 1, by omega, by go_num, t + uv, rfl, H1.out.symm, by omega, by omega⟩
        case measure => simp [intOf]; omega
      · have hq : (pv == p) = false := by simp [hp]
        rw [hff, hq] at hst
        simp only [Bool.false_eq_true, if_false, Int.add_zero] at hst
        have H1 := Lib.hid hst
        clear hst hff hp
        go_wp2
        go_round
        case rel => exact ⟨k + 1, by omega, by go_num, t, rfl, H1.out.symm, by omega, by omega⟩
        case measure => simp [intOf]; omega
    · have e : r.take k = r := List.take_of_length_le (by omega)
      rw [e] at ht
      rw [← HV.out] at ht
      subst ht
      go_wp2
      go_ret
      exact ⟨rfl, rfl⟩
theorem usedL_no1 {g : List Bs.T} {r : List Int} (h : Bs.valid g = false) : Bs.usedL g r = [] := by unfold Bs.usedL; rw [h]; rfl
theorem usedL_no2 {g : List Bs.T} {r : List Int} (h : Bs.inG g r = false) : Bs.usedL g r = [] := by unfold Bs.usedL; rw [h]; simp
theorem usedL_yes {g : List Bs.T} {r : List Int} (hv : Bs.valid g = true) (h : Bs.inG g r = true) : Bs.usedL g r = (List.range 3).map (fun p => Bs.usedC g r ((p : Nat) : Int)) := by unfold Bs.usedL; rw [hv, h]; rfl
end Go.Proofs.Ytgpmnfnliifegaa
namespace Go.Proofs.Ytgpmnfnliifegaa
open Go.RowKit
theorem runOk_no1 {g : List Bs.T} {m r : List Int} (h : Bs.valid g = false) : Bs.runOk g m r = false := by unfold Bs.runOk; rw [h]; rfl
theorem runOk_no2 {g : List Bs.T} {m r : List Int} (h : Bs.roomOk m = false) : Bs.runOk g m r = false := by unfold Bs.runOk; rw [h]; simp
theorem runOk_no3 {g : List Bs.T} {m r : List Int} (h : Bs.inG g r = false) : Bs.runOk g m r = false := by unfold Bs.runOk; rw [h]; simp
theorem runOk_at {g : List Bs.T} {m r : List Int} (h1 : Bs.valid g = true) (h2 : Bs.roomOk m = true) (h3 : Bs.inG g r = true) : Bs.runOk g m r = Bs.fitsC g m r := by unfold Bs.runOk; rw [h1, h2, h3]; rfl
theorem used_quiet (A : Option Addr) (c : Nat) (g : List Bs.T) (A' : Option Addr) (c' : Nat) (r : List Int) (p : Int) (lo hi lo' hi' : Nat) (w : World) (h : RG w lo hi A g) (h' : RI w lo' hi' A' r) (hF : Bs.fine g = true) (hr : ∀ x ∈ r, 0 ≤ x ∧ x < g.length) (hl : r.length ≤ 1000000) (m n : Nat) :
    Calls Try.prog 122 #[.slice A g.length c, .slice A' r.length c', .int .i64 p] (w.drewN (m + n)) fun e w' => e = .returned (.int .i64 (Bs.usedC g r p)) ∧ ∃ k, w' = w.drewN (m + k) :=
  (used_any A c g A' c' r p lo hi lo' hi' (w.drewN (m + n)) h h' hF hr hl).mono fun _ _ ⟨h1, h2⟩ => ⟨h1, n, h2.symm⟩
end Go.Proofs.Ytgpmnfnliifegaa
namespace Go.Proofs.Ytgpmnfnliifegaa
open Go.RowKit
theorem waitsL_no1 {g : List Bs.T} {d : List Int} {a : Int} (h : Bs.vdone g d = false) : Bs.waitsL g d a = [] := by unfold Bs.waitsL; rw [h]; rfl
theorem waitsL_no2 {g : List Bs.T} {d : List Int} {a : Int} (h : decide (0 ≤ a ∧ a ≤ (g.length : Int) - 1) = false) : Bs.waitsL g d a = [] := by unfold Bs.waitsL; rw [h]; simp
theorem waitsL_yes {g : List Bs.T} {d : List Int} {a : Int} (h : Bs.vdone g d = true) (h2 : decide (0 ≤ a ∧ a ≤ (g.length : Int) - 1) = true) : Bs.waitsL g d a = Bs.waitsC g d a := by unfold Bs.waitsL; rw [h, h2]; rfl
theorem filter_take {l : List Int} (p : Int → Bool) (k : Nat) (hk : k < l.length) : (l.take (k + 1)).filter p = (l.take k).filter p ++ (if p l[k] then [l[k]] else []) := by
  rw [List.take_succ_eq_append_getElem hk, List.filter_append]
  congr 1
  cases hp : p l[k] <;> simp [hp]
end Go.Proofs.Ytgpmnfnliifegaa
namespace Go.Proofs.Ytgpmnfnliifegaa
open Go.RowKit
set_option maxRecDepth 20000 in
set_option maxHeartbeats 1600000 in
theorem PoolTimeS_any (A : Option Addr) (c : Nat) (g : List Bs.T) (p r : Int) (lo hi : Nat) (w : World) (h : RG w lo hi A g) (hh : hi ≤ w.heap.size) (hl : g.length ≤ 9223372036854775807) :
    Calls Try.prog 64 #[.slice A g.length c, .int .i64 p, .int .i64 r] w fun e w' => e = .returned (.int .i64 (Bs.poolT g p r)) ∧ Below w.heap.size w w' := by
  have q1 := validGraphS_any A c g lo hi w h hh hl
  have q2 := fun W => inRange_any p 0 2 W
  have q3 := fun W => inRange_any r 4 8 W
  cases hv : Bs.valid g
  · rw [hv] at q1
    have C1 := Lib.hid q1
    have HV := Lib.hid (Bs.poolT_no1 (p := p) (r := r) hv)
    clear q1 q2 q3 hv h
    go_enter Try.func64, Try.ntmps64
    go_wp2_with fail
    refine (C1.out).mono ?_
    rintro e w1 ⟨rfl, hb⟩
    have HB := Lib.hid hb
    clear hb
    go_wp2
    go_ret
    exact ⟨ret_int HV.out.symm, HB.out⟩
  · have hF := valid_fine hv
    have h8 := Bs.fine_len hF
    rw [hv] at q1
    have C1 := Lib.hid q1
    cases hp : decide (0 ≤ p ∧ p ≤ 2)
    · rw [hp] at q2
      have C2 := Lib.hid q2
      have HV := Lib.hid (Bs.poolT_no2 (g := g) (r := r) hp)
      clear q1 q2 q3 hv h hF hp
      go_enter Try.func64, Try.ntmps64
      go_wp2_with fail
      refine (C1.out).mono ?_
      rintro e w1 ⟨rfl, hb⟩
      have HB := Lib.hid hb
      clear hb
      go_wp2_with fail
      refine (C2.out _).mono ?_
      rintro e w2 ⟨rfl, rfl⟩
      go_wp2
      go_ret
      exact ⟨ret_int HV.out.symm, HB.out⟩
    · rw [hp] at q2
      have C2 := Lib.hid q2
      cases hr : decide (4 ≤ r ∧ r ≤ 8)
      · rw [hr] at q3
        have C3 := Lib.hid q3
        have HV := Lib.hid (Bs.poolT_no3 (g := g) (p := p) hr)
        clear q1 q2 q3 hv h hF hp hr
        go_enter Try.func64, Try.ntmps64
        go_wp2_with fail
        refine (C1.out).mono ?_
        rintro e w1 ⟨rfl, hb⟩
        have HB := Lib.hid hb
        clear hb
        go_wp2_with fail
        refine (C2.out _).mono ?_
        rintro e w2 ⟨rfl, rfl⟩
        go_wp2_with fail
        refine (C3.out _).mono ?_
        rintro e w3 ⟨rfl, rfl⟩
        go_wp2
        go_ret
        exact ⟨ret_int HV.out.symm, HB.out⟩
      · rw [hr] at q3
        have C3 := Lib.hid q3
        have HV := Lib.hid (Bs.poolT_yes hv hp hr)
        rw [decide_eq_true_eq] at hr
        have HT := Lib.hid (fun i (hi : i < g.length) => And.intro (Bs.fine_time' hF hi) (Bs.fine_task hF hi))
        have HS := Lib.hid (fun k hk => Bs.sumZ_takeT g (Bs.workF p) k hk)
        have HG := Lib.hid h
        clear q1 q2 q3 hv h hF hp
        go_enter Try.func64, Try.ntmps64
        go_wp2_with fail
        refine (C1.out).mono ?_
        rintro e w1 ⟨rfl, hb⟩
        have HB := Lib.hid hb
        clear hb
        go_wp2_with fail
        refine (C2.out _).mono ?_
        rintro e w2 ⟨rfl, rfl⟩
        go_wp2_with fail
        refine (C3.out _).mono ?_
        rintro e w3 ⟨rfl, rfl⟩
        have HG1 := Lib.hid (HG.out.below HB.out hh)
        clear C1 C2 C3 HG
        obtain ⟨W1, rfl⟩ : ∃ W1, W1 = w1 := ⟨_, rfl⟩
        go_wp2
        go_loopw [7, 8] (fun s i wr => ∃ k : Nat, k ≤ g.length ∧ i = .int .i64 k ∧ (∃ t : Int, s = .int .i64 t ∧ t = Bs.sumZ ((g.take k).map (Bs.workF p)) ∧ 0 ≤ t ∧ t ≤ 80 * k) ∧ ∃ n, wr = W1.drewN n) (fun _ i _ => g.length - (intOf i).toNat)
        case atStart => exact ⟨0, Nat.zero_le _, rfl, ⟨0, rfl, by simp [Bs.sumZ], by omega, by omega⟩, 0, rfl⟩
        case round =>
          obtain ⟨k, hk, rfl, ⟨t, rfl, ht, ht0, ht1⟩, n, rfl⟩ := hrel
          by_cases hlt : k < g.length
          · obtain ⟨bg, og, N, cN, rfl, _, _, k0, k1, k2, k3, hnc, hcN, hN⟩ := HG1.out k hlt
            obtain ⟨⟨u0, u1⟩, _, _, u2, u3⟩ := HT.out k hlt
            have hst := HS.out k hlt
            rw [← ht] at hst
            have hff : Bs.workF p g[k] = if g[k].pool == p then g[k].time * g[k].units else 0 := rfl
            obtain ⟨b0, b1⟩ := Bs.work_b u0 u1 u2 u3
            have d1 : (k : Int) < (g.length : Int) := by omega
            clear k1 hN hnc ht
            generalize g[k].pool = pv at *
            generalize g[k].time = tv at *
            generalize g[k].units = uv at *
            by_cases hpv : pv = p
            · have hq : (pv == p) = true := by simp [hpv]
              rw [hff, hq] at hst
              simp only [if_true] at hst
              have H1 := Lib.hid hst
              generalize hm : tv * uv = m at *
              have hw1 : IntKind.i64.wrap (tv * uv) = tv * uv := IntWalk.i64_in _ ⟨by omega, by omega⟩
              have hw2 : IntKind.i64.wrap (t + m) = t + m := IntWalk.i64_in _ ⟨by omega, by omega⟩
              clear hst hff hpv u0 u1 u2 u3
              go_wp2
              go_quiet (fail)
              go_wp2
              go_roundw
              case rel => exact ⟨k + 1, by omega, by go_num, ⟨t + m, by first | rfl | rw [hm], H1.out.symm, by omega, by omega⟩, _, by first | rfl | rw [World.drewN_drewN]⟩
              case measure => simp [intOf]; omega
            · have hq : (pv == p) = false := by simp [hpv]
              rw [hff, hq] at hst
              simp only [Bool.false_eq_true, if_false, Int.add_zero] at hst
              have H1 := Lib.hid hst
              clear hst hff hpv b0 b1
              go_wp2
              go_roundw
              case rel => exact ⟨k + 1, by omega, by go_num, ⟨t, rfl, H1.out.symm, by omega, by omega⟩, _, by first | rfl | rw [World.drewN_drewN]⟩
              case measure => simp [intOf]; omega
          · have e : g.take k = g := List.take_of_length_le (by omega)
            rw [e] at ht
            have HVT := Lib.hid (show Bs.poolT g p r = (t + r - 1) / r from by rw [HV.out, ht]; rfl)
            have hq : (r == 0) = false := by rw [beq_eq_false_iff_ne]; omega
            have hw1 : IntKind.i64.wrap (t + r) = t + r := IntWalk.i64_in _ ⟨by omega, by omega⟩
            have hw2 : IntKind.i64.wrap (t + r - 1) = t + r - 1 := IntWalk.i64_in _ ⟨by omega, by omega⟩
            clear ht e
            go_wp2
            go_ret
            exact ⟨ret_int HVT.out.symm, by first | exact HB.out | exact HB.out.drewN _⟩
end Go.Proofs.Ytgpmnfnliifegaa
