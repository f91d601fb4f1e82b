/-
  WALKS: orders, valid graphs, stuck tasks, of the model and of the program.
-/
import Derived.Test.YtiokblodjhmjmabW2
namespace Go.Proofs.Ytiokblodjhmjmab
open Go.RowKit

set_option maxHeartbeats 800000 in
theorem topOrder_any (A : Option Addr) (c : Nat) (g : List Bs.T) (lo hi : Nat) (w : World) (h : RG w lo hi A g) (hh : hi ≤ w.heap.size) (hl : g.length ≤ 8) :
    Calls Try.prog 59 #[.slice A g.length c] w fun e w' => (∃ A' c', e = .returned (.slice A' (Bs.top g).length c') ∧ OI w' w.heap.size A' c' (Bs.top g)) ∧ Below w.heap.size w w' := by
  obtain ⟨i0, hi0, hz0, hz1, hz2⟩ := info_parts Try.info3
  go_enter Try.func59, Try.ntmps59
  go_wp2
  go_loopw [3] (fun v wr => ∃ A' c' out, v = .slice A' (List.length out) c' ∧ OI wr w.heap.size A' c' out ∧ Bs.Mid g out ∧ Below w.heap.size w wr) (fun v _ => g.length - lenOf v)
  case atStart => exact ⟨_, _, [], rfl, OI.new w _ (Nat.le_refl _), Bs.Mid.start g, (Below.refl _ _).alloc (Nat.le_refl _) _⟩
  case round =>
    obtain ⟨A', c', out, rfl, ho, hm, hb⟩ := hrel
    have hro := ho.ri
    have hol := hm.1.le
    have hr := h.below hb hh
    have hsz := hb.size
    go_wp2
    go_loop [4, 5] (fun nx i => ∃ (k : Nat) (q : Int), k ≤ g.length ∧ i = .int .i64 k ∧ nx = .int .i64 q ∧ Bs.Look g out k q) (fun _ i => g.length - (intOf i).toNat)
    case atStart => exact ⟨0, -1, Nat.zero_le _, rfl, rfl, Bs.Look.start _ _⟩
    case round =>
      obtain ⟨k, q, hk, rfl, rfl, hlook⟩ := hrel
      by_cases hq : q < 0
      · have hq1 : q = -1 := by rcases hlook with ⟨e, _⟩ | ⟨m, _, e, _⟩ <;> omega
        subst hq1
        have HL := Lib.hid hlook
        clear hlook hq
        by_cases hlt : k < g.length
        · obtain ⟨b, o, N, cN, rfl, h1, h2, q0, q1, q2, q3, hlN, hcN, hN⟩ := hr k hlt
          have c1 := isIn_any A' c' out (k : Int) w.heap.size wr.heap.size wr hro (by omega)
          generalize hv1 : out.contains (k : Int) = b1 at c1
          have c2 := allDone_any N cN g[k].needs A' c' out lo hi w.heap.size wr.heap.size wr hN hro (by omega) (by omega)
          generalize hv2 : (g[k].needs.all fun x => out.contains x) = b2 at c2
          have HV := Lib.hid (show Bs.okNext g out k = (!b1 && b2) from by rw [Bs.okNext_eq hlt, hv1, hv2])
          have C1 := Lib.hid c1
          have C2 := Lib.hid c2
          clear c1 c2 hv1 hv2
          cases b1
          · cases b2
            · go_wp2_with (first | (go_at_call 63; refine (C1.out).mono ?_; rintro e w' ⟨rfl, rfl⟩) | (go_at_call 73; refine (C2.out).mono ?_; rintro e w' ⟨rfl, rfl⟩))
              go_round
              case rel => exact ⟨k + 1, -1, by omega, by go_num, rfl, HL.out.no HV.out⟩
              case measure => simp [intOf]; omega
            · go_wp2_with (first | (go_at_call 63; refine (C1.out).mono ?_; rintro e w' ⟨rfl, rfl⟩) | (go_at_call 73; refine (C2.out).mono ?_; rintro e w' ⟨rfl, rfl⟩))
              go_round
              case rel => exact ⟨k + 1, k, by omega, by go_num, rfl, HL.out.yes hlt HV.out⟩
              case measure => simp [intOf]; omega
          · go_wp2_with (first | (go_at_call 63; refine (C1.out).mono ?_; rintro e w' ⟨rfl, rfl⟩) | (go_at_call 73; refine (C2.out).mono ?_; rintro e w' ⟨rfl, rfl⟩))
            go_round
            case rel => exact ⟨k + 1, -1, by omega, by go_num, rfl, HL.out.no (by rw [HV.out]; rfl)⟩
            case measure => simp [intOf]; omega
        · have hnone := HL.out.none_ (by omega) (by omega)
          have HN := Lib.hid hnone
          clear hnone
          go_wp2
          go_ret
          have he := hm.stop HN.out
          subst he
          exact ⟨⟨A', c', rfl, ho⟩, hb⟩
      · have hsome := hlook.some_ (by omega)
        have hst := hm.step hsome
        have hlt := Bs.nxt_lt hm.1 hsome
        have HS := Lib.hid hsome
        have HT := Lib.hid hst
        clear hsome hst hlook
        by_cases hlt2 : k < g.length
        all_goals
          go_wp2_with (at_builtin; refine push_int rfl _ _ rfl w.heap.size A' c' out q rfl (ho.alloc _) wr.heap.size 1 rfl (by simp [go_sem]) (by omega) (by simp; omega) ?_; intro A2 c2 w2 ho2 hb2 _)
          have hsz2 := hb2.size
          go_wp2
          go_roundw
          case rel => exact ⟨A2, c2, out ++ [q], by simp, ho2, by have := HT.out; rw [show ((q.toNat : Nat) : Int) = q from by omega] at this; exact this, (hb.alloc hsz _).trans hb2⟩
          case measure => simp [lenOf]; omega
end Go.Proofs.Ytiokblodjhmjmab
