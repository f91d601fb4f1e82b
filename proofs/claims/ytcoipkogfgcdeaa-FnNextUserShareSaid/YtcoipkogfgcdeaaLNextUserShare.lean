/-
  THE WALK OF laws.FnNextUserShare.
-/
import Derived.Test.YtcoipkogfgcdeaaX14
import Derived.Test.YtcoipkogfgcdeaaMath83
import Derived.Test.YtcoipkogfgcdeaaR60
import Derived.Test.YtcoipkogfgcdeaaW104
namespace Go.Proofs.Ytcoipkogfgcdeaa
open Go.RowKit
set_option maxRecDepth 20000 in
set_option maxHeartbeats 6400000 in
theorem fnNextUserShare_walk (A : Option Addr) (c : Nat) (l : List Int) (w : World) (hb : RB w 0 w.heap.size A l) (hlc : l.length ≤ c ∧ c ≤ maxLen) :
    Calls Try.prog 6 #[.slice A l.length c] w fun e w' => e = .returned (.bool true) ∧ Below w.heap.size w w' := by
  have hl63 : l.length ≤ 9223372036854775807 := by have := hlc.2; unfold maxLen at this; omega
  by_cases hbig : 1048576 < l.length
  · go_enter Try.func6, Try.ntmps6
    go_wp2
    go_ret
    exact ⟨rfl, Below.refl _ _⟩
  · have C1 := Lib.hid (DrawNextUser_any A c l w hb hlc.1 hlc.2)
    clear hb
    go_enter Try.func6, Try.ntmps6
    go_wp2_with fail
    refine (C1.out).mono ?_
    rintro e w1 ⟨⟨A1, c1, g, rfl, hg, hg6, hgc, hcm⟩, hb1⟩
    have HG := Lib.hid hg
    have HB1 := Lib.hid hb1
    have s1 := hb1.size
    have hl9 : g.length ≤ 9223372036854775807 := by omega
    obtain ⟨N, hN⟩ : ∃ N, N = Bs.nextL g := ⟨_, rfl⟩
    have c2 := fun W (hb : Below w1.heap.size w1 W) => NextUser_any A1 c1 g w.heap.size w1.heap.size W (HG.out.below hb (Nat.le_refl _)) hb.size hl9
    have cs := fun W (hb : Below w1.heap.size w1 W) => NextUserS_any A1 c1 g w.heap.size w1.heap.size W (HG.out.below hb (Nat.le_refl _)) hb.size hl9
    rw [← hN] at c2 cs
    have C2 := Lib.hid (c2 w1 (Below.refl _ _))
    have CS := Lib.hid cs
    have HN := Lib.hid hN
    clear C1 hg hb1 c2 cs hN
    go_wp2_with fail
    refine (C2.out).mono ?_
    rintro e w2 ⟨rfl, hb2⟩
    have s2 := hb2.size
    have C3 := Lib.hid (CS.out w2 hb2)
    have HB2 := Lib.hid hb2
    clear hb2 C2
    go_wp2_with fail
    refine (C3.out).mono ?_
    rintro e w3 ⟨rfl, hb3⟩
    have hb13 := HB2.out.trans (hb3.mono s2)
    clear hb3
    have s13 := hb13.size
    have HX := Lib.hid hb13
    have HG3 := Lib.hid (HG.out.below hb13 (Nat.le_refl _))
    have HB3 := Lib.hid (HB1.out.trans (hb13.mono s1))
    have hne : (N != N) = false := by simp
    have heq : (N == N) = true := by simp
    clear hb13 C3 HB2 HB1
    have cv := ValidUsers_any A1 c1 g w.heap.size w1.heap.size w3 HG3.out s13 hl9
    obtain ⟨V, hV⟩ : ∃ V, V = Bs.usersOk g := ⟨_, rfl⟩
    rw [← hV] at cv
    have CV := Lib.hid cv
    cases V
    · clear cv hV
      go_wp2_with fail
      with_reducible refine (CV.out).mono ?_
      rintro e w4 ⟨rfl, hb4⟩
      have s4 := hb4.size
      have hb14 := HX.out.trans (hb4.mono s13)
      have C4 := Lib.hid (CS.out w4 hb14)
      have HB4 := Lib.hid (HB3.out.trans (hb4.mono HB3.out.size))
      clear hb4 hb14 CV CS HX HN
      go_wp2_with fail
      refine (C4.out).mono ?_
      rintro e w5 ⟨rfl, hb5⟩
      have HB5 := Lib.hid (HB4.out.trans (hb5.mono HB4.out.size))
      clear hb5 C4
      go_wp2
      go_ret
      exact ⟨by first | rfl | simp, HB5.out⟩
    · obtain ⟨m, hm0, hm, hms⟩ := share_next hV.symm
      have HG4 := Lib.hid (fun W (hb : Below w3.heap.size w3 W) => HG3.out.below hb s13)
      have HSG := Lib.hid (same_gu hm)
      have HMS := Lib.hid hms
      have HMZ := Lib.hid (show mostK g 0 = 0 from rfl)
      have HMK := Lib.hid (fun k => show mostK g (k + 1) = if mostK g k < (Bs.gu g k).share then (Bs.gu g k).share else mostK g k from rfl)
      have c5 := fun A5 c5 B W hr hh => NextUser_any A5 c5 (sameU g) B W.heap.size W hr hh (by rw [same_len]; exact hl9)
      rw [hm0, same_len] at c5
      have C5 := Lib.hid c5
      have HBT := Lib.hid (fun k (hk : k < g.length) => same_take g hk)
      have HBL := Lib.hid (fun k => same_len (g.take k))
      have HST := Lib.hid (show ∀ k, (Bs.gu g k).share = (Bs.gu g k).share from fun _ => rfl)
      clear cv hV CS HX HN hm0 hms c5 HST
      generalize mostK g = mk at *
      go_wp2_with fail
      with_reducible refine (CV.out).mono ?_
      rintro e w4 ⟨rfl, hb4⟩
      have s4 := hb4.size
      have HG5 := Lib.hid (fun W (hb : Below w4.heap.size w4 W) => (HG4.out w4 hb4).below hb (Nat.le_trans s13 s4))
      have HB4 := Lib.hid (HB3.out.trans (hb4.mono HB3.out.size))
      have s04 : w.heap.size ≤ w4.heap.size := HB4.out.size
      have HO0 := Lib.hid (OR.nil w4 w4.heap.size (Nat.le_refl _))
      have HW0 := Lib.hid (Below.alloc (Below.refl w4.heap.size w4) (Nat.le_refl _) (.cells #[] 29))
      clear hb4 CV HG4
      go_wp2
      go_loopw [5, 6, 7] (fun v x i wr => ∃ (k : Nat) (A5 : Option Addr) (c5 : Nat), k ≤ g.length ∧ i = .int .i64 k ∧ x = .int .i64 (mk k) ∧ v = .slice A5 (sameU (g.take k)).length c5 ∧ OR wr w4.heap.size A5 c5 (sameU (g.take k)) ∧ Below w4.heap.size w4 wr) (fun _ _ i _ => g.length - (intOf i).toNat)
      case atStart => exact ⟨0, _, _, Nat.zero_le _, rfl, by rw [HMZ.out], rfl, HO0.out, HW0.out⟩
      case round =>
        obtain ⟨k, A5, c5, hk, rfl, rfl, rfl, ho, hb⟩ := hrel
        have sr := hb.size
        clear HO0 HW0
        by_cases hlt : k < g.length
        · obtain ⟨b, o, rfl, _, _, q0, q1, q2⟩ := (HG5.out wr hb).at_ hlt
          have hbt := HBT.out k hlt
          have hmk := HMK.out k
          have hbl := HBL.out k
          rw [List.length_take] at hbl
          have hbl6 : (sameU (g.take k)).length ≤ 6 := by omega
          have HGX := Lib.hid (fun W (hbW : Below w4.heap.size w4 W) => (HG5.out W hbW) k hlt)
          have HO := Lib.hid ho
          have HB := Lib.hid hb
          have HT := Lib.hid hbt
          have HM1 := Lib.hid hmk
          have hgk : g[k].share = (Bs.gu g k).share := by rw [Bs.gu_at hlt]
          have HQ0 := Lib.hid (fun W (hbW : Below w4.heap.size w4 W) => show W.cell? ⟨b, o + k * 3, none⟩ = some (.int .i64 (Bs.gu g k).share) from by
            obtain ⟨b', o', e', _, _, t0, _, _⟩ := HGX.out W hbW
            cases e'
            rw [t0, hgk])
          clear ho hb hbt hbl q1 q2 HBT HBL C5 HMK HMZ HMS HSG HG5 HGX hgk hmk
          generalize (Bs.gu g k).share = us at *
          generalize sameU (g.take k) = P at *
          generalize mk k = t at *
          go_wp2_with (at_builtin; go_loud (refine push_users rfl _ _ rfl w4.heap.size A5 c5 P [⟨us, 60, 1⟩] rfl (HO.out.alloc _) wr.heap.size 1 rfl (new_cellsR wr ⟨us, 60, 1⟩) (by simp; omega) (by simp; omega) ?_; intro A7 c7 w7 ho7 hb7; have q7 := HQ0.out w7 ((HB.out.alloc sr _).trans hb7); have HB7 := Lib.hid hb7; have HO7 := Lib.hid ho7; clear hb7 ho7))
          go_wp2
          go_roundw
          case rel => exact ⟨k + 1, A7, c7, by omega, by go_num, by rw [HM1.out], by rw [HT.out, List.length_append]; rfl, by rw [HT.out]; exact HO7.out, (HB.out.alloc sr _).trans HB7.out⟩
          case measure => simp [intOf]; omega
        · obtain rfl : k = g.length := by omega
          rw [List.take_length] at ho ⊢
          have c6 := C5.out A5 c5 w4.heap.size wr ho.ru (Nat.le_refl _)
          have hbl := same_len g
          rw [hbl]
          have C6 := Lib.hid c6
          have HR5 := Lib.hid ho.ru
          have HB5 := Lib.hid (HB4.out.trans (hb.mono s04))
          have HBL1 := Lib.hid hbl
          clear ho hb c6 hbl C5 HG5 HB4 HBT HBL HMK HMZ
          go_wp2_with fail
          with_reducible refine (C6.out).mono ?_
          rintro e w6 ⟨rfl, hb6⟩
          obtain ⟨b, o, e6, _, _, q0, q1, q2⟩ := (HR5.out.below hb6 (Nat.le_refl _)).at_ (show m < (sameU g).length by rw [HBL1.out]; exact hm)
          subst e6
          rw [HSG.out] at q0
          have hms := HMS.out
          rw [hms] at q0
          have HB6 := Lib.hid (HB5.out.trans (hb6.mono HB5.out.size))
          have j0 : (0 : Int) ≤ (m : Int) := by omega
          have j1 : (m : Int) < (g.length : Int) := by omega
          clear hb6 C6 HB5 HR5 HSG HMS q1 q2 hms
          generalize mk g.length = t at *
          have e1 : (t == t) = true := by simp
          go_wp2
          go_ret
          exact ⟨by first | rfl | simp, HB6.out⟩
end Go.Proofs.Ytcoipkogfgcdeaa
