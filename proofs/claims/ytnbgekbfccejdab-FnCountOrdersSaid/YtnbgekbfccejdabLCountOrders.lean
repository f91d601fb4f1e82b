/-
  THE WALK OF laws.FnCountOrders.
-/
import Derived.Test.YtnbgekbfccejdabDrCountOrders
import Derived.Test.YtnbgekbfccejdabMath48
import Derived.Test.YtnbgekbfccejdabW60
import Derived.Test.YtnbgekbfccejdabR30
import Derived.Test.YtnbgekbfccejdabOT
import Derived.Test.YtnbgekbfccejdabMath11
namespace Go.Proofs.Ytnbgekbfccejdab
open Go.RowKit
set_option maxRecDepth 20000 in
set_option maxHeartbeats 6400000 in
theorem fnCountOrders_walk (A : Option Addr) (c : Nat) (l : List Int) (w : World) (hb : RB w 0 w.heap.size A l) (hlc : l.length ≤ c ∧ c ≤ maxLen) :
    Calls Try.prog 9 #[.slice A l.length c] w fun e w' => e = .returned (.bool true) ∧ Below w.heap.size w w' := by
  have hl63 : l.length ≤ 9223372036854775807 := by have := hlc.2; unfold maxLen at this; omega
  by_cases hbig : 1048576 < l.length
  · go_enter Try.func9, Try.ntmps9
    go_wp2
    go_ret
    exact ⟨rfl, Below.refl _ _⟩
  · have C1 := Lib.hid (DrawCountOrders_any A c l w hb hlc.1 hlc.2)
    clear hb
    go_enter Try.func9, Try.ntmps9
    go_wp2_with fail
    refine (C1.out).mono ?_
    rintro e w1 ⟨⟨A1, c1, g, rfl, hg, hg16, hgc, hcm⟩, hb1⟩
    have HG := Lib.hid hg
    have s1 := hb1.size
    have hl9 : g.length ≤ 9223372036854775807 := by omega
    have q2 := CountOrders_any A1 c1 g w.heap.size w1.heap.size w1 HG.out (Nat.le_refl _) hl9
    have qs := fun W hg hs => CountOrdersS_any A1 c1 g w.heap.size w1.heap.size W hg hs hl9
    obtain ⟨V, hV⟩ : ∃ V, V = Bs.cntC g := ⟨_, rfl⟩
    rw [← hV] at q2 qs
    have HV := Lib.hid hV
    have C2 := Lib.hid q2
    have CS := Lib.hid qs
    have HB1 := Lib.hid hb1
    have hne : (V != V) = false := by simp
    have heq : (V == V) = true := by simp
    clear C1 hg q2 qs hb1 hV
    go_wp2_with fail
    with_reducible refine (C2.out).mono ?_
    rintro e w2 ⟨rfl, hb2⟩
    have s2 := hb2.size
    have HG2 := Lib.hid (HG.out.below hb2 (Nat.le_refl _))
    have HB2 := Lib.hid (HB1.out.trans (hb2.mono s1))
    have C3 := Lib.hid (CS.out w2 HG2.out s2)
    clear hb2 C2 HG HB1
    go_wp2_with fail
    with_reducible refine (C3.out).mono ?_
    rintro e w3 ⟨rfl, hb3⟩
    have s3 := hb3.size
    have hs3 : w1.heap.size ≤ w3.heap.size := Nat.le_trans s2 s3
    have HG3 := Lib.hid (HG2.out.below hb3 s2)
    have HB3 := Lib.hid (HB2.out.trans (hb3.mono (Nat.le_trans s1 s2)))
    clear hb3 C3 HG2 HB2
    obtain ⟨W3, rfl⟩ : ∃ W3, W3 = w3 := ⟨_, rfl⟩
    by_cases h0 : V < 0
    · clear HV
      have C6 := Lib.hid (CS.out W3 HG3.out hs3)
      clear CS
      go_wp2_with fail
      with_reducible refine (C6.out).mono ?_
      rintro e w6 ⟨rfl, hb6⟩
      have HB6 := Lib.hid (HB3.out.trans (hb6.mono (Nat.le_trans s1 hs3)))
      clear hb6 C6
      go_wp2
      go_ret
      exact ⟨rfl, HB6.out⟩
    · clear hne heq CS
      obtain ⟨hv, h5, _, hn1, hnf, hfr⟩ := Bs.cnt_law HV.out h0
      have hd0 : decide (V < 0) = false := by simp; omega
      have hW : w.heap.size ≤ W3.heap.size := Nat.le_trans s1 hs3
      have hf5 : Bs.fct g.length ≤ 120 := by
        have : g.length = 0 ∨ g.length = 1 ∨ g.length = 2 ∨ g.length = 3 ∨ g.length = 4 ∨ g.length = 5 := by omega
        rcases this with e | e | e | e | e | e <;> rw [e] <;> decide
      have HFS := Lib.hid (fun k => show Bs.fct (k + 1) = Bs.fct k * (k + 1) from rfl)
      have HFB := Lib.hid (fun k (hk : k ≤ 5) => show Bs.fct k ≤ 120 from by
        have : k = 0 ∨ k = 1 ∨ k = 2 ∨ k = 3 ∨ k = 4 ∨ k = 5 := by omega
        rcases this with e | e | e | e | e | e <;> rw [e] <;> decide)
      have HFR := Lib.hid hfr
      clear HV hv hfr
      go_wp2
      go_loopw [5, 6, 7] (fun v va i wr => ∃ (k : Nat) (A' : Option Addr) (c' : Nat) (o : List Bs.T), i = .int .i64 k ∧ va = .int .i64 (Bs.fct k : Nat) ∧ k ≤ g.length ∧ v = .slice A' o.length c' ∧ o = (g.map Bs.bare).take k ∧ OT wr W3.heap.size A' c' o ∧ Below W3.heap.size W3 wr) (fun _ _ i _ => g.length + 1 - (intOf i).toNat)
      case atStart => exact ⟨0, _, _, [], rfl, rfl, Nat.zero_le _, rfl, by simp, OT.nil _ _ (Nat.le_refl _), (Below.refl _ _).alloc (Nat.le_refl _) _⟩
      case round =>
        obtain ⟨k, A', c', o, rfl, rfl, hk, rfl, ho, hO, hbr⟩ := hrel
        have sr := hbr.size
        have HO := Lib.hid hO
        have HBR := Lib.hid hbr
        have HoT := Lib.hid ho
        have hol : o.length = k := by rw [ho, List.length_take, List.length_map]; omega
        have HOL' := Lib.hid hol
        have hol1 : o.length ≤ 16 := by omega
        clear hO hbr ho hol
        by_cases hlt : k < g.length
        · obtain ⟨b1, o1, N, cN, rfl, _, _, k0, k1, k2, k3, hnc, hcN, hN⟩ := (HG3.out.below HBR.out hs3) k hlt
          have hts : o ++ [Bs.bare g[k]] = (g.map Bs.bare).take (k + 1) := by
            rw [HoT.out, List.take_succ_eq_append_getElem (by simpa using hlt), List.getElem_map]
          have HTS := Lib.hid hts
          clear hts k1 hN
          have hfs := HFS.out k
          have hfb := HFB.out (k + 1) (by omega)
          have hfb0 := HFB.out k (by omega)
          obtain ⟨fk, hfk⟩ : ∃ fk, fk = Bs.fct k := ⟨_, rfl⟩
          obtain ⟨fk1, hfk1⟩ : ∃ fk1, fk1 = Bs.fct (k + 1) := ⟨_, rfl⟩
          rw [← hfk, ← hfk1] at hfs
          rw [← hfk] at hfb0 ⊢
          rw [← hfk1] at hfb
          have HFK1 := Lib.hid hfk1
          have hmul : (fk : Int) * ((k : Int) + 1) = (fk1 : Int) := by rw [hfs, Int.natCast_mul]; rfl
          have hw1 : IntKind.i64.wrap ((k : Int) + 1) = (k : Int) + 1 := IntWalk.i64_in _ ⟨by omega, by omega⟩
          have hw2 : IntKind.i64.wrap ((fk : Int) * ((k : Int) + 1)) = (fk1 : Int) := by rw [hmul]; exact IntWalk.i64_in _ ⟨by omega, by omega⟩
          have HMUL := Lib.hid hmul
          clear hfk hfk1 hfs hmul
          obtain ⟨t, ht⟩ : ∃ t, t = Bs.bare g[k] := ⟨_, rfl⟩
          have e0 : g[k].time = t.time := by rw [ht]; rfl
          have e2 : g[k].pool = t.pool := by rw [ht]; rfl
          have e3 : g[k].units = t.units := by rw [ht]; rfl
          rw [← ht] at HTS
          rw [e0] at k0
          rw [e2] at k2
          rw [e3] at k3
          clear ht e0 e2 e3 hnc
          obtain ⟨WR, rfl⟩ : ∃ WR, WR = wr := ⟨_, rfl⟩
          go_wp2
          go_region_law (refine step_push_task rfl _ _ rfl W3.heap.size A' c' o t rfl (by first | exact (HO.out.drewN 1).alloc _ | exact HO.out.alloc _) _ 1 rfl (by first | exact new_cells (WR.drewN 1) t | exact new_cells WR t | exact new_cells _ t) (by omega) (by simp; omega) ?_; intro A5 c5 w5 ho5 hb5)
          all_goals
            have s5 := hb5.size
            go_wp2
            go_roundw
            case rel => exact ⟨k + 1, A5, c5, _, by go_num, by rw [← HFK1.out], by omega, by simp, HTS.out, ho5, (((HBR.out.drewN 1).alloc (by simpa using sr) _).trans (hb5.mono (by simp)))⟩
            case measure => simp [intOf]; omega
        · have e : o = g.map Bs.bare := by rw [HoT.out, List.take_of_length_le]; simp; omega
          subst e
          have hkn : k = g.length := by
            rw [List.length_map] at hol1
            omega
          subst hkn
          have c7 := CountOrders_any A' c' (g.map Bs.bare) W3.heap.size wr.heap.size wr HO.out.rg (Nat.le_refl _) (by rw [List.length_map]; omega)
          rw [HFR.out] at c7
          have C7 := Lib.hid c7
          clear c7 HoT HOL' HO hol1
          generalize Bs.fct g.length = ff at *
          generalize g.map Bs.bare = FR at *
          have d1 : decide (V ≥ 1) = true := by simp; omega
          have d2 : decide (1 ≤ V) = true := by simp; omega
          have d3 : decide (V ≤ (ff : Int)) = true := by simp; omega
          have d4 : ((ff : Int) == (ff : Int)) = true := by simp
          go_wp2_with fail
          with_reducible refine (C7.out).mono ?_
          rintro e w7 ⟨rfl, hb7⟩
          have HB7 := Lib.hid (HB3.out.trans ((HBR.out.trans (hb7.mono sr)).mono hW))
          clear hb7 C7
          go_wp2
          go_ret
          exact ⟨rfl, HB7.out⟩
end Go.Proofs.Ytnbgekbfccejdab
