/-
  WALKS: the next task and the possible order, of the program.
-/
import Derived.Test.YtiokblodjhmjmabW3
namespace Go.Proofs.Ytiokblodjhmjmab
open Go.RowKit
set_option maxHeartbeats 800000 in
theorem nextTask_any (A : Option Addr) (c : Nat) (g : List Bs.T) (out : List Int) (lo hi : Nat) (w : World) (h : RG w lo hi A g) (hh : hi ≤ w.heap.size) (hf : Bs.fine g = true) (hd : Bs.Dist g.length out) :
    Calls Try.prog 72 #[.slice A g.length c, .int .u64 (Bs.bits out : Nat)] w fun e w' => e = .returned (.int .i64 (Bs.nxtI g out)) ∧ Below w.heap.size w w' := by
  have hl := Bs.fine_len hf
  have hout := hd.eight hl
  have hd8 := Bs.bits_lt out hout
  have hneed := fun (k : Nat) (hk : k < g.length) => Bs.need_eight hf hk
  have HF := Lib.hid hf
  have HO := Lib.hid hout
  have HD := Lib.hid hneed
  clear hf hout hneed
  have ht : ∀ k : Nat, (Bs.bits out).testBit k = out.contains (k : Int) := Bs.bits_test out (fun x hx => (HO.out x hx).1)
  have hbs : ∀ l : List Int, (∀ x ∈ l, 0 ≤ x ∧ x < 8) → (bits .andNot .u64 ((Bs.bits l : Nat) : Int) ((Bs.bits out : Nat) : Int) == 0) = (l.all fun x => out.contains x) := by
    intro l hl8
    have h1 := Bs.bits_lt l hl8
    rw [u64_andNot_nat _ _ (by omega) (by omega), Bool.eq_iff_iff, ← Bs.bits_sub l out hl8 HO.out]
    simp only [beq_iff_eq]
    omega
  generalize Bs.bits out = d at *
  have HT := Lib.hid ht
  have HB := Lib.hid hbs
  clear ht hbs
  go_enter Try.func72, Try.ntmps72
  go_wp2
  go_loopw [9] (fun i wr => ∃ k : Nat, k ≤ g.length ∧ i = .int .i64 k ∧ Bs.Look g out k (-1) ∧ Below w.heap.size w wr) (fun i _ => g.length - (intOf i).toNat)
  case atStart => exact ⟨0, Nat.zero_le _, rfl, Bs.Look.start _ _, Below.refl _ _⟩
  case round =>
    obtain ⟨k, hk, rfl, hlook, hb⟩ := hrel
    have hsz := hb.size
    have HL := Lib.hid hlook
    clear hlook
    by_cases hlt : k < g.length
    · have hr := h.below hb hh
      obtain ⟨b, o, N, cN, rfl, h1, h2, q0, q1, q2, q3, hlN, hcN, hN⟩ := hr k hlt
      clear hr
      have hA : ∀ ob, RI (wr.alloc ob) lo hi N g[k].needs := fun ob => hN.keep fun p _ hp => World.cell?_alloc_lt wr ob p (by omega)
      have c1 := fun w' => hasTask_any d k w' hd8 (by omega)
      rw [HT.out k] at c1
      generalize hv1 : out.contains (k : Int) = b1 at c1
      have c2 := fun ob => setOf_any N cN g[k].needs lo hi (wr.alloc ob) (hA ob) (by omega) (HD.out k hlt)
      have hz := HB.out g[k].needs (HD.out k hlt)
      generalize hv2 : (g[k].needs.all fun x => out.contains x) = b2 at hz
      generalize Bs.bits g[k].needs = s at hz c2
      have HV := Lib.hid (show Bs.okNext g out k = (!b1 && b2) from by rw [Bs.okNext_eq hlt, hv1, hv2])
      have C1 := Lib.hid c1
      have C2 := Lib.hid c2
      clear c1 c2 hv1 hv2 hA
      cases b1
      · cases b2
        · go_wp2_with (first | (go_at_call 58; refine (C1.out _).mono ?_; rintro e w' ⟨rfl, rfl⟩) | (go_at_call 61; refine (C2.out _).mono ?_; rintro e w' ⟨rfl, rfl⟩))
          go_roundw
          case rel => exact ⟨k + 1, by omega, by go_num, HL.out.no HV.out, hb.alloc hsz _⟩
          case measure => simp [intOf]; omega
        · go_wp2_with (first | (go_at_call 58; refine (C1.out _).mono ?_; rintro e w' ⟨rfl, rfl⟩) | (go_at_call 61; refine (C2.out _).mono ?_; rintro e w' ⟨rfl, rfl⟩))
          go_ret
          exact ⟨ret_int (HL.out.ans_yes hlt HV.out).symm, by exact hb.alloc hsz _⟩
      · go_wp2_with (first | (go_at_call 58; refine (C1.out _).mono ?_; rintro e w' ⟨rfl, rfl⟩) | (go_at_call 61; refine (C2.out _).mono ?_; rintro e w' ⟨rfl, rfl⟩))
        go_roundw
        case rel => exact ⟨k + 1, by omega, by go_num, HL.out.no (by rw [HV.out]; rfl), hb.alloc hsz _⟩
        case measure => simp [intOf]; omega
    · go_wp2
      go_ret
      exact ⟨ret_int (HL.out.ans (by omega)).symm, hb⟩

set_option maxHeartbeats 800000 in
theorem possibleOrder_any (A : Option Addr) (c : Nat) (g : List Bs.T) (lo hi : Nat) (w : World) (h : RG w lo hi A g) (hh : hi ≤ w.heap.size) (hf : Bs.fine g = true) :
    Calls Try.prog 55 #[.slice A g.length c] w fun e w' => (∃ A' c', e = .returned (.slice A' (Bs.top g).length c') ∧ OI w' w.heap.size A' c' (Bs.top g)) ∧ Below w.heap.size w w' := by
  have hl := Bs.fine_len hf
  have HF := Lib.hid hf
  clear hf
  go_enter Try.func55, Try.ntmps55
  go_wp2
  go_loopw [3, 4] (fun v s wr => ∃ A' c' out, v = .slice A' (List.length out) c' ∧ s = .int .u64 (Bs.bits out : Nat) ∧ OI wr w.heap.size A' c' out ∧ Bs.Mid g out ∧ Below w.heap.size w wr) (fun v _ _ => g.length - lenOf v)
  case atStart => exact ⟨_, _, [], rfl, rfl, OI.new w _ (Nat.le_refl _), Bs.Mid.start g, (Below.refl _ _).alloc (Nat.le_refl _) _⟩
  case round =>
    obtain ⟨A', c', out, rfl, rfl, ho, hm, hb⟩ := hrel
    have hol := hm.1.le
    have hr := h.below hb hh
    have hsz := hb.size
    by_cases hfull : out.length < g.length
    · have hout := Bs.bits_lt out (hm.1.eight hl)
      have c1 := nextTask_any A c g out lo hi wr hr (by omega) HF.out hm.1
      cases hn : Bs.nxt g out with
      | none =>
        have hx : Bs.nxtI g out = -1 := by unfold Bs.nxtI; rw [hn]
        rw [hx] at c1
        have C1 := Lib.hid c1
        have HN := Lib.hid (hm.stop hn)
        clear c1 hx hn
        go_wp2_with (go_at_call 72; refine (C1.out).mono ?_; rintro e w' ⟨rfl, hb'⟩)
        go_ret
        have he := HN.out
        subst he
        exact ⟨⟨A', c', rfl, ho.below hb' (Nat.le_refl _)⟩, hb.trans (hb'.mono hsz)⟩
      | some i =>
        have hx : Bs.nxtI g out = i := by unfold Bs.nxtI; rw [hn]
        rw [hx] at c1
        have hi8 : i < 8 := by have := (Bs.okNext_some hn).1; omega
        have C1 := Lib.hid c1
        have HT := Lib.hid (hm.step hn)
        have HS := Lib.hid (Bs.bits_snoc out (i : Int))
        clear c1 hx hn
        generalize Bs.bits out = d at *
        go_wp2_with (first | (go_at_call 72; refine (C1.out).mono ?_; rintro e w' ⟨rfl, hb'⟩; have hsz' := hb'.size; have ho' := ho.below hb' (Nat.le_refl _)) | (at_builtin; refine push_int rfl _ _ rfl w.heap.size A' c' out (i : Int) rfl (ho'.alloc _) w'.heap.size 1 rfl (by simp [go_sem]) (by omega) (by simp; omega) ?_; intro A2 c2 w2 ho2 hb2 _))
        have hsz2 := hb2.size
        go_wp2
        go_roundw
        case rel => exact ⟨A2, c2, out ++ [(i : Int)], by simp, by rw [HS.out, or_pow d i hout hi8, Int.toNat_natCast], ho2, HT.out, ((hb.trans (hb'.mono hsz)).alloc (by omega) _).trans hb2⟩
        case measure => simp [lenOf]; omega
    · go_wp2
      go_ret
      have he := hm.full (by omega)
      subst he
      exact ⟨⟨A', c', rfl, ho⟩, hb⟩
end Go.Proofs.Ytiokblodjhmjmab
