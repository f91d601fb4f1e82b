/-
  THE WALK OF laws.FnRunsTogether.
-/
import Derived.Test.YtnbgekbfccejdaaK17
import Derived.Test.YtnbgekbfccejdaaRI
import Derived.Test.YtnbgekbfccejdaaCp2
import Derived.Deep.RegionHeld3
import Derived.Test.YtnbgekbfccejdaaMath36
namespace Go.Proofs.Ytnbgekbfccejdaa
open Go.RowKit
set_option maxRecDepth 20000 in
set_option maxHeartbeats 25600000 in
theorem fnRunsTogether_walk (A : Option Addr) (c : Nat) (l : List Int) (w : World) (hb : RB w 0 w.heap.size A l) (hlc : l.length ≤ c ∧ c ≤ maxLen) :
    Calls Try.prog 3 #[.slice A l.length c] w fun e w' => e = .returned (.bool true) ∧ Below w.heap.size w w' := by
  have hl63 : l.length ≤ 9223372036854775807 := by have := hlc.2; unfold maxLen at this; omega
  by_cases hbig : 1048576 < l.length
  · go_enter Try.func3, Try.ntmps3
    go_wp2
    go_ret
    exact ⟨rfl, Below.refl _ _⟩
  · have C1 := Lib.hid (DrawRunsTogether_any A c l w hb hlc.1 hlc.2)
    clear hb
    go_enter Try.func3, Try.ntmps3
    go_wp2_with fail
    refine (C1.out).mono ?_
    rintro e w1 ⟨⟨A1, c1, g, A2, c2, m, A3, c3, r, rfl, hg, hg16, hgc, hcm, hm, hm100, hmc, hmm, hr, hr100, hrc, hrm⟩, hb1⟩
    have HG := Lib.hid hg
    have HM := Lib.hid hm
    have HR := Lib.hid hr
    have s1 := hb1.size
    have hl9 : g.length ≤ 9223372036854775807 := by omega
    have hm9 : m.length ≤ 9223372036854775807 := by omega
    have hr9 : r.length ≤ 9223372036854775807 := by omega
    have q2 := RunsTogether_any A1 c1 g A2 c2 m A3 c3 r w.heap.size w1.heap.size w.heap.size w1.heap.size w.heap.size w1.heap.size w1 HG.out (Nat.le_refl _) HM.out (Nat.le_refl _) HR.out (Nat.le_refl _) hl9 hm9 hr9
    have qs := fun W hg hm hr hs => RunsTogetherS_any A1 c1 g A2 c2 m A3 c3 r w.heap.size w1.heap.size w.heap.size w1.heap.size w.heap.size w1.heap.size W hg hs hm hs hr hs hl9 hm9 hr9
    obtain ⟨ok, hok⟩ : ∃ ok, ok = Bs.runOk g m r := ⟨_, rfl⟩
    rw [← hok] at q2 qs
    have HOK := Lib.hid hok
    clear hok
    have C2 := Lib.hid q2
    have CS := Lib.hid qs
    have HB1 := Lib.hid hb1
    have hne : (ok != ok) = false := by simp
    have heq : (ok == ok) = true := by simp
    clear C1 hg hm hr q2 qs hb1
    go_wp2_with fail
    refine (C2.out).mono ?_
    rintro e w2 ⟨rfl, hb2⟩
    have s2 := hb2.size
    have HG2 := Lib.hid (HG.out.below hb2 (Nat.le_refl _))
    have HM2 := Lib.hid (HM.out.below hb2 (Nat.le_refl _))
    have HR2 := Lib.hid (HR.out.below hb2 (Nat.le_refl _))
    have HB2 := Lib.hid (HB1.out.trans (hb2.mono s1))
    have C3 := Lib.hid (CS.out w2 HG2.out HM2.out HR2.out s2)
    clear hb2 C2 HG HM HR HB1
    go_wp2_with fail
    with_reducible refine (C3.out).mono ?_
    rintro e w3 ⟨rfl, hb3⟩
    have s3 := hb3.size
    have hs3 : w1.heap.size ≤ w3.heap.size := Nat.le_trans s2 s3
    have HG3 := Lib.hid (HG2.out.below hb3 s2)
    have HM3 := Lib.hid (HM2.out.below hb3 s2)
    have HR3 := Lib.hid (HR2.out.below hb3 s2)
    have HB3 := Lib.hid (HB2.out.trans (hb3.mono (Nat.le_trans s1 s2)))
    clear hb3 C3 HG2 HM2 HR2 HB2
    obtain ⟨W3, rfl⟩ : ∃ W3, W3 = w3 := ⟨_, rfl⟩
    cases ok
    · have C4 := Lib.hid (CS.out W3 HG3.out HM3.out HR3.out hs3)
      clear CS HOK
      go_wp2_with fail
      with_reducible refine (C4.out).mono ?_
      rintro e w4 ⟨rfl, hb4⟩
      have HB4 := Lib.hid (HB3.out.trans (hb4.mono (Nat.le_trans s1 hs3)))
      clear hb4 C4
      go_wp2
      go_ret
      exact ⟨rfl, HB4.out⟩
    · by_cases h0 : r.length = 0
      · have hq : ((r.length : Int) == 0) = true := by simp [h0]
        have C4 := Lib.hid (CS.out W3 HG3.out HM3.out HR3.out hs3)
        clear CS HOK h0
        go_wp2_with fail
        with_reducible refine (C4.out).mono ?_
        rintro e w4 ⟨rfl, hb4⟩
        have HB4 := Lib.hid (HB3.out.trans (hb4.mono (Nat.le_trans s1 hs3)))
        clear hb4 C4
        go_wp2
        go_ret
        exact ⟨rfl, HB4.out⟩
      · have hq : ((r.length : Int) == 0) = false := by rw [beq_eq_false_iff_ne]; omega
        obtain ⟨k, hk⟩ : ∃ k, k = l.length % r.length := ⟨_, rfl⟩
        have hkr : k < r.length := by rw [hk]; exact Nat.mod_lt _ (by omega)
        have e1 : Int.tmod (l.length : Int) (r.length : Int) = (k : Int) := by rw [hk, Int.ofNat_tmod]
        obtain ⟨hR1, hR2⟩ := Bs.run_less HOK.out.symm k hkr
        obtain ⟨b, o, rfl, hbl, hbh, _⟩ := HR3.out k hkr
        have hl1 : (r.take k).length = k := by rw [List.length_take]; omega
        have hl2 : (r.drop (k + 1)).length = r.length - (k + 1) := List.length_drop
        have HT := Lib.hid (HR3.out.take k)
        have HD := Lib.hid (HR3.out.drop (k + 1))
        have HO := Lib.hid (show RI W3 w.heap.size w1.heap.size (some ⟨b, o + k, none⟩) [r[k]] from by
          intro j hj
          obtain ⟨b', o', he, p1, p2, hc⟩ := HR3.out k hkr
          cases he
          have : j = 0 := by simpa using hj
          subst this
          exact ⟨b, o + k, rfl, p1, p2, hc⟩)
        have CR := Lib.hid (fun A7 c7 (q : List Int) lo' hi' W hg hs hm hr hh hq => RunsTogether_any A1 c1 g A2 c2 m A7 c7 q w.heap.size w1.heap.size w.heap.size w1.heap.size lo' hi' W hg hs hm hs hr hh hl9 hm9 hq)
        obtain ⟨TK, hTK⟩ : ∃ TK, TK = r.take k := ⟨_, rfl⟩
        obtain ⟨DR, hDR⟩ : ∃ DR, DR = r.drop (k + 1) := ⟨_, rfl⟩
        obtain ⟨x, hx⟩ : ∃ x, x = r[k] := ⟨_, rfl⟩
        rw [← hTK] at hl1 HT hR1
        rw [← hDR] at hl2 HD hR1
        rw [← hx] at HO hR2
        have HR1 := Lib.hid hR1
        have HR2' := Lib.hid hR2
        have HL1 := Lib.hid hl1
        have HL2 := Lib.hid hl2
        have HE := Lib.hid e1
        clear CS HOK h0 hTK hDR hx hR1 hR2 hl1 hl2 hk e1 hne heq
        have e1 := HE.out
        have f0 : (0 : Int) ≤ (k : Int) := by omega
        have f1 : (k : Int) ≤ (c3 : Int) := by omega
        have f2 : (k : Int) + 1 ≤ (r.length : Int) := by omega
        have f3 : (r.length : Int) ≤ (c3 : Int) := by omega
        have f4 : (k : Int) ≤ (k : Int) + 1 := by omega
        have f5 : (k : Int) + 1 ≤ (c3 : Int) := by omega
        have f6 : (0 : Int) ≤ (k : Int) + 1 := by omega
        have f7 : (k : Int) < (c3 : Int) := by omega
        have hw : IntKind.i64.wrap ((k : Int) + 1) = (k : Int) + 1 := IntWalk.i64_in _ ⟨by omega, by omega⟩
        have hck : ¬ c3 = k := by omega
        have C7f := Lib.hid (show ∀ (A6 : Option Addr) (c6 : Nat) (W : World), Below W3.heap.size W3 W → OI W W3.heap.size A6 c6 (TK ++ DR) → Calls Try.prog 16 #[.slice A1 g.length c1, .slice A2 m.length c2, .slice A6 (TK.length + DR.length) c6] W fun e w' => e = .returned (.bool true) ∧ Below W.heap.size W w' from by
          intro A6 c6 W hb ho
          have c7 := CR.out A6 c6 (TK ++ DR) W3.heap.size W.heap.size W (HG3.out.below hb hs3) (Nat.le_trans hs3 hb.size) (HM3.out.below hb hs3) ho.ri (Nat.le_refl _) (by have := HL1.out; have := HL2.out; rw [List.length_append]; omega)
          rw [HR1.out, List.length_append] at c7
          exact c7)
        have C8f := Lib.hid (show ∀ (W : World), Below W3.heap.size W3 W → Calls Try.prog 16 #[.slice A1 g.length c1, .slice A2 m.length c2, .slice (some ⟨b, o + k, none⟩) 1 (c3 - k)] W fun e w' => e = .returned (.bool true) ∧ Below W.heap.size W w' from by
          intro W hb
          have c7 := CR.out (some ⟨b, o + k, none⟩) (c3 - k) [x] w.heap.size w1.heap.size W (HG3.out.below hb hs3) (Nat.le_trans hs3 hb.size) (HM3.out.below hb hs3) (HO.out.below hb hs3) (Nat.le_trans hs3 hb.size) (by simp)
          rw [HR2'.out] at c7
          exact c7)
        by_cases hc3 : c3 = k + 1
        · have HDD := Lib.hid (show RI W3 w.heap.size w1.heap.size (some ⟨b, o, none⟩) DR from by intro j hj; have := HL2.out; exact absurd hj (by omega))
          have HL3 := Lib.hid (show DR.length = 0 from by have := HL2.out; omega)
          clear HD CR
          subst hc3
          have C8g := C8f.out
          rw [show k + 1 - k = 1 from by omega] at C8g
          replace C8f := Lib.hid C8g
          clear C8g
          have hal := Below.alloc (Below.refl W3.heap.size W3) (Nat.le_refl _) (.cells #[] 3)
          have HAL := Lib.hid hal
          clear hal
          go_wp2
          refine wp_region_any (by kernel_rfl) ?_
          change wpAny _ _ _ _ _ _ _ (World.drew _)
          refine wpAny_take (i := 0) (v := ?_) rfl (by kernel_rfl) (by kernel_rfl) (by kernel_rfl) (fun _ _ _ h => h) (Or.inl ⟨by rfl, ?_⟩) ?_
          rotate_left
          · intro w
            go_simp
            with_reducible rfl
          refine wpAny_take (i := 1) (v := ?_) rfl (by kernel_rfl) (by kernel_rfl) (by kernel_rfl) (fun _ _ _ h => h) (Or.inl ⟨by rfl, ?_⟩) ?_
          rotate_left
          · intro w
            go_simp
            with_reducible rfl
          refine wpAny_take (i := 3) (v := ?_) rfl (by kernel_rfl) (by kernel_rfl) (by kernel_rfl) (fun _ _ _ h => h) (Or.inl ⟨by rfl, ?_⟩) ?_
          rotate_left
          · intro w
            go_simp
            with_reducible rfl
          refine wpAny_take (i := 4) (v := ?_) rfl (by kernel_rfl) (by kernel_rfl) (by kernel_rfl) (fun _ _ _ h => h) (Or.inl ⟨by rfl, ?_⟩) ?_
          rotate_left
          · intro w
            go_simp
            with_reducible rfl
          refine wpAny_take (i := 5) (v := ?_) rfl (by kernel_rfl) (by kernel_rfl) (by kernel_rfl) (fun _ _ _ h => h) (Or.inl ⟨by rfl, ?_⟩) ?_
          rotate_left
          · intro w
            go_simp
            with_reducible rfl
          refine wpAny_take (i := 7) (v := ?_) rfl (by kernel_rfl) (by kernel_rfl) (by kernel_rfl) (fun _ _ _ h => h) (Or.inl ⟨by rfl, ?_⟩) ?_
          rotate_left
          · intro w
            go_simp
            with_reducible rfl
          refine wpAny_take (i := 8) (v := ?_) rfl (by kernel_rfl) (by kernel_rfl) (by kernel_rfl) (fun _ _ _ h => h) (Or.inl ⟨by rfl, ?_⟩) ?_
          rotate_left
          · intro w
            go_simp
            with_reducible rfl
          refine wpAny_take (i := 9) (v := ?_) rfl (by kernel_rfl) (by kernel_rfl) (by kernel_rfl) (fun _ _ _ h => h) (Or.inl ⟨by rfl, ?_⟩) ?_
          rotate_left
          · intro w
            go_simp
            with_reducible rfl
          refine wpAny_take (i := 10) (v := ?_) rfl (by kernel_rfl) (by kernel_rfl) (by kernel_rfl) (fun _ _ _ h => h) (Or.inl ⟨by rfl, ?_⟩) ?_
          rotate_left
          · intro w
            go_simp
            with_reducible rfl
          refine wpAny_ready (rs := [2]) (by kernel_rfl) (by simp) ?_
          refine AllReady.cons rfl (fun K hK => ?_) ?_
          rotate_left
          exact AllReady.nil
          go_simp
          refine hK _ _ ?_
          clear hK K
          refine wpAny_ready (rs := [6]) (by kernel_rfl) (by simp) ?_
          refine AllReady.cons rfl (fun K hK => ?_) ?_
          rotate_left
          exact AllReady.nil
          refine step_push_ints rfl _ _ rfl W3.heap.size (some ⟨W3.heap.size, 0, none⟩) 0 [] TK rfl (show OI _ W3.heap.size (some ⟨W3.heap.size, 0, none⟩) 0 [] from OI.new W3 W3.heap.size (Nat.le_refl _)) ⟨b, o, none⟩ (k + 1) (by rw [HL1.out]; rfl) w.heap.size w1.heap.size ((HT.out.below HAL.out hs3).drewN 1) (by have := HL1.out; simp; omega) (by simp [World.drew]) ?_
          intro A5 c5 w5 ho5 hb5
          rw [show ([] : List Int).length + TK.length = TK.length from Nat.zero_add _]
          have HO5 := Lib.hid (show OI w5 W3.heap.size A5 c5 TK from ho5)
          have HB5 := Lib.hid (show Below W3.heap.size W3 w5 from (HAL.out.drewN 1).trans hb5)
          clear ho5 hb5
          try go_simp
          refine hK _ _ ?_
          clear hK K
          refine wpAny_ready (rs := [11]) (by kernel_rfl) (by simp) ?_
          refine AllReady.cons rfl (fun K hK => ?_) ?_
          rotate_left
          exact AllReady.nil
          refine step_push_ints rfl _ _ rfl W3.heap.size A5 c5 TK DR rfl HO5.out _ (0) (by rw [HL3.out]; rfl) w.heap.size w1.heap.size (HDD.out.below HB5.out hs3) (by have := HL1.out; have := HL2.out; omega) HB5.out.size ?_
          intro A6 c6 w6 ho6 hb6
          have hb36 := HB5.out.trans hb6
          have HB6 := Lib.hid hb36
          have C7a := Lib.hid (C7f.out A6 c6 w6 hb36 ho6)
          clear ho6 hb6 hb36
          try go_simp
          refine hK _ _ ?_
          clear hK K
          refine wpAny_ready (rs := [12]) (by kernel_rfl) (by simp) ?_
          refine AllReady.cons rfl (fun K hK => ?_) ?_
          rotate_left
          exact AllReady.nil
          go_simp
          go_at_call 16
          with_reducible refine (C7a.out).mono ?_
          rintro e w7 ⟨rfl, hb7⟩
          have hb37 := HB6.out.trans (hb7.mono (show W3.heap.size ≤ w6.heap.size from HB6.out.size))
          have HB7 := Lib.hid hb37
          have C8a := Lib.hid (C8f.out w7 hb37)
          clear hb7 hb37
          try go_simp
          refine hK _ _ ?_
          clear hK K
          refine wpAny_take (i := 13) (v := ?_) rfl (by kernel_rfl) (by kernel_rfl) (by kernel_rfl) (fun _ _ _ h => h) (Or.inl ⟨by rfl, ?_⟩) ?_
          rotate_left
          · intro w
            go_simp
            with_reducible rfl
          refine wpAny_take (i := 14) (v := ?_) rfl (by kernel_rfl) (by kernel_rfl) (by kernel_rfl) (fun _ _ _ h => h) (Or.inl ⟨by rfl, ?_⟩) ?_
          rotate_left
          · intro w
            go_simp
            with_reducible rfl
          refine wpAny_take (i := 15) (v := ?_) rfl (by kernel_rfl) (by kernel_rfl) (by kernel_rfl) (fun _ _ _ h => h) (Or.inl ⟨by rfl, ?_⟩) ?_
          rotate_left
          · intro w
            go_simp
            with_reducible rfl
          refine wpAny_take (i := 16) (v := ?_) rfl (by kernel_rfl) (by kernel_rfl) (by kernel_rfl) (fun _ _ _ h => h) (Or.inl ⟨by rfl, ?_⟩) ?_
          rotate_left
          · intro w
            go_simp
            with_reducible rfl
          refine wpAny_take (i := 17) (v := ?_) rfl (by kernel_rfl) (by kernel_rfl) (by kernel_rfl) (fun _ _ _ h => h) (Or.inl ⟨by rfl, ?_⟩) ?_
          rotate_left
          · intro w
            go_simp
            with_reducible rfl
          refine wpAny_take (i := 18) (v := ?_) rfl (by kernel_rfl) (by kernel_rfl) (by kernel_rfl) (fun _ _ _ h => h) (Or.inl ⟨by rfl, ?_⟩) ?_
          rotate_left
          · intro w
            go_simp
            with_reducible rfl
          refine wpAny_take (i := 19) (v := ?_) rfl (by kernel_rfl) (by kernel_rfl) (by kernel_rfl) (fun _ _ _ h => h) (Or.inl ⟨by rfl, ?_⟩) ?_
          rotate_left
          · intro w
            go_simp
            with_reducible rfl
          refine wpAny_take (i := 20) (v := ?_) rfl (by kernel_rfl) (by kernel_rfl) (by kernel_rfl) (fun _ _ _ h => h) (Or.inl ⟨by rfl, ?_⟩) ?_
          rotate_left
          · intro w
            go_simp
            with_reducible rfl
          refine wpAny_ready (rs := [21]) (by kernel_rfl) (by simp) ?_
          refine AllReady.cons rfl (fun K hK => ?_) ?_
          rotate_left
          exact AllReady.nil
          go_simp
          go_at_call 16
          with_reducible refine (C8a.out).mono ?_
          rintro e w8 ⟨rfl, hb8⟩
          have HB8 := Lib.hid (HB7.out.trans ((hb8.mono (show W3.heap.size ≤ w7.heap.size from HB7.out.size))))
          clear hb8
          try go_simp
          refine hK _ _ ?_
          clear hK K
          refine wpAny_take (i := 22) (v := ?_) rfl (by kernel_rfl) (by kernel_rfl) (by kernel_rfl) (fun _ _ _ h => h) (Or.inl ⟨by rfl, ?_⟩) ?_
          rotate_left
          · intro w
            go_simp
            with_reducible rfl
          refine wpAny_ready (rs := [23]) (by kernel_rfl) (by simp) ?_
          refine AllReady.cons rfl (fun K hK => ?_) ?_
          rotate_left
          exact AllReady.nil
          try go_simp
          refine hK _ _ ?_
          clear hK K
          refine wpAny_done (by kernel_rfl) ?_ _
          go_wp2
          go_ret
          exact ⟨rfl, by first | exact HB3.out.trans (HB8.out.mono (Nat.le_trans s1 hs3)) | exact (HB3.out.trans (HB8.out.mono (Nat.le_trans s1 hs3))).drewN _⟩
        · have HDD := HD
          clear HD CR
          have hal := Below.alloc (Below.refl W3.heap.size W3) (Nat.le_refl _) (.cells #[] 3)
          have HAL := Lib.hid hal
          clear hal
          go_wp2
          refine wp_region_any (by kernel_rfl) ?_
          change wpAny _ _ _ _ _ _ _ (World.drew _)
          refine wpAny_take (i := 0) (v := ?_) rfl (by kernel_rfl) (by kernel_rfl) (by kernel_rfl) (fun _ _ _ h => h) (Or.inl ⟨by rfl, ?_⟩) ?_
          rotate_left
          · intro w
            go_simp
            with_reducible rfl
          refine wpAny_take (i := 1) (v := ?_) rfl (by kernel_rfl) (by kernel_rfl) (by kernel_rfl) (fun _ _ _ h => h) (Or.inl ⟨by rfl, ?_⟩) ?_
          rotate_left
          · intro w
            go_simp
            with_reducible rfl
          refine wpAny_take (i := 3) (v := ?_) rfl (by kernel_rfl) (by kernel_rfl) (by kernel_rfl) (fun _ _ _ h => h) (Or.inl ⟨by rfl, ?_⟩) ?_
          rotate_left
          · intro w
            go_simp
            with_reducible rfl
          refine wpAny_take (i := 4) (v := ?_) rfl (by kernel_rfl) (by kernel_rfl) (by kernel_rfl) (fun _ _ _ h => h) (Or.inl ⟨by rfl, ?_⟩) ?_
          rotate_left
          · intro w
            go_simp
            with_reducible rfl
          refine wpAny_take (i := 5) (v := ?_) rfl (by kernel_rfl) (by kernel_rfl) (by kernel_rfl) (fun _ _ _ h => h) (Or.inl ⟨by rfl, ?_⟩) ?_
          rotate_left
          · intro w
            go_simp
            with_reducible rfl
          refine wpAny_take (i := 7) (v := ?_) rfl (by kernel_rfl) (by kernel_rfl) (by kernel_rfl) (fun _ _ _ h => h) (Or.inl ⟨by rfl, ?_⟩) ?_
          rotate_left
          · intro w
            go_simp
            with_reducible rfl
          refine wpAny_take (i := 8) (v := ?_) rfl (by kernel_rfl) (by kernel_rfl) (by kernel_rfl) (fun _ _ _ h => h) (Or.inl ⟨by rfl, ?_⟩) ?_
          rotate_left
          · intro w
            go_simp
            with_reducible rfl
          refine wpAny_take (i := 9) (v := ?_) rfl (by kernel_rfl) (by kernel_rfl) (by kernel_rfl) (fun _ _ _ h => h) (Or.inl ⟨by rfl, ?_⟩) ?_
          rotate_left
          · intro w
            go_simp
            with_reducible rfl
          refine wpAny_take (i := 10) (v := ?_) rfl (by kernel_rfl) (by kernel_rfl) (by kernel_rfl) (fun _ _ _ h => h) (Or.inl ⟨by rfl, ?_⟩) ?_
          rotate_left
          · intro w
            go_simp
            with_reducible rfl
          refine wpAny_ready (rs := [2]) (by kernel_rfl) (by simp) ?_
          refine AllReady.cons rfl (fun K hK => ?_) ?_
          rotate_left
          exact AllReady.nil
          go_simp
          refine hK _ _ ?_
          clear hK K
          refine wpAny_ready (rs := [6]) (by kernel_rfl) (by simp) ?_
          refine AllReady.cons rfl (fun K hK => ?_) ?_
          rotate_left
          exact AllReady.nil
          refine step_push_ints rfl _ _ rfl W3.heap.size (some ⟨W3.heap.size, 0, none⟩) 0 [] TK rfl (show OI _ W3.heap.size (some ⟨W3.heap.size, 0, none⟩) 0 [] from OI.new W3 W3.heap.size (Nat.le_refl _)) ⟨b, o, none⟩ (c3) (by rw [HL1.out]; rfl) w.heap.size w1.heap.size ((HT.out.below HAL.out hs3).drewN 1) (by have := HL1.out; simp; omega) (by simp [World.drew]) ?_
          intro A5 c5 w5 ho5 hb5
          rw [show ([] : List Int).length + TK.length = TK.length from Nat.zero_add _]
          have HO5 := Lib.hid (show OI w5 W3.heap.size A5 c5 TK from ho5)
          have HB5 := Lib.hid (show Below W3.heap.size W3 w5 from (HAL.out.drewN 1).trans hb5)
          clear ho5 hb5
          try go_simp
          refine hK _ _ ?_
          clear hK K
          refine wpAny_ready (rs := [11]) (by kernel_rfl) (by simp) ?_
          refine AllReady.cons rfl (fun K hK => ?_) ?_
          rotate_left
          exact AllReady.nil
          refine step_push_ints rfl _ _ rfl W3.heap.size A5 c5 TK DR rfl HO5.out _ (c3 - (k + 1)) (by rw [HL2.out]; rfl) w.heap.size w1.heap.size (HDD.out.below HB5.out hs3) (by have := HL1.out; have := HL2.out; omega) HB5.out.size ?_
          intro A6 c6 w6 ho6 hb6
          have hb36 := HB5.out.trans hb6
          have HB6 := Lib.hid hb36
          have C7a := Lib.hid (C7f.out A6 c6 w6 hb36 ho6)
          clear ho6 hb6 hb36
          try go_simp
          refine hK _ _ ?_
          clear hK K
          refine wpAny_ready (rs := [12]) (by kernel_rfl) (by simp) ?_
          refine AllReady.cons rfl (fun K hK => ?_) ?_
          rotate_left
          exact AllReady.nil
          go_simp
          go_at_call 16
          with_reducible refine (C7a.out).mono ?_
          rintro e w7 ⟨rfl, hb7⟩
          have hb37 := HB6.out.trans (hb7.mono (show W3.heap.size ≤ w6.heap.size from HB6.out.size))
          have HB7 := Lib.hid hb37
          have C8a := Lib.hid (C8f.out w7 hb37)
          clear hb7 hb37
          try go_simp
          refine hK _ _ ?_
          clear hK K
          refine wpAny_take (i := 13) (v := ?_) rfl (by kernel_rfl) (by kernel_rfl) (by kernel_rfl) (fun _ _ _ h => h) (Or.inl ⟨by rfl, ?_⟩) ?_
          rotate_left
          · intro w
            go_simp
            with_reducible rfl
          refine wpAny_take (i := 14) (v := ?_) rfl (by kernel_rfl) (by kernel_rfl) (by kernel_rfl) (fun _ _ _ h => h) (Or.inl ⟨by rfl, ?_⟩) ?_
          rotate_left
          · intro w
            go_simp
            with_reducible rfl
          refine wpAny_take (i := 15) (v := ?_) rfl (by kernel_rfl) (by kernel_rfl) (by kernel_rfl) (fun _ _ _ h => h) (Or.inl ⟨by rfl, ?_⟩) ?_
          rotate_left
          · intro w
            go_simp
            with_reducible rfl
          refine wpAny_take (i := 16) (v := ?_) rfl (by kernel_rfl) (by kernel_rfl) (by kernel_rfl) (fun _ _ _ h => h) (Or.inl ⟨by rfl, ?_⟩) ?_
          rotate_left
          · intro w
            go_simp
            with_reducible rfl
          refine wpAny_take (i := 17) (v := ?_) rfl (by kernel_rfl) (by kernel_rfl) (by kernel_rfl) (fun _ _ _ h => h) (Or.inl ⟨by rfl, ?_⟩) ?_
          rotate_left
          · intro w
            go_simp
            with_reducible rfl
          refine wpAny_take (i := 18) (v := ?_) rfl (by kernel_rfl) (by kernel_rfl) (by kernel_rfl) (fun _ _ _ h => h) (Or.inl ⟨by rfl, ?_⟩) ?_
          rotate_left
          · intro w
            go_simp
            with_reducible rfl
          refine wpAny_take (i := 19) (v := ?_) rfl (by kernel_rfl) (by kernel_rfl) (by kernel_rfl) (fun _ _ _ h => h) (Or.inl ⟨by rfl, ?_⟩) ?_
          rotate_left
          · intro w
            go_simp
            with_reducible rfl
          refine wpAny_take (i := 20) (v := ?_) rfl (by kernel_rfl) (by kernel_rfl) (by kernel_rfl) (fun _ _ _ h => h) (Or.inl ⟨by rfl, ?_⟩) ?_
          rotate_left
          · intro w
            go_simp
            with_reducible rfl
          refine wpAny_ready (rs := [21]) (by kernel_rfl) (by simp) ?_
          refine AllReady.cons rfl (fun K hK => ?_) ?_
          rotate_left
          exact AllReady.nil
          go_simp
          go_at_call 16
          with_reducible refine (C8a.out).mono ?_
          rintro e w8 ⟨rfl, hb8⟩
          have HB8 := Lib.hid (HB7.out.trans ((hb8.mono (show W3.heap.size ≤ w7.heap.size from HB7.out.size))))
          clear hb8
          try go_simp
          refine hK _ _ ?_
          clear hK K
          refine wpAny_take (i := 22) (v := ?_) rfl (by kernel_rfl) (by kernel_rfl) (by kernel_rfl) (fun _ _ _ h => h) (Or.inl ⟨by rfl, ?_⟩) ?_
          rotate_left
          · intro w
            go_simp
            with_reducible rfl
          refine wpAny_ready (rs := [23]) (by kernel_rfl) (by simp) ?_
          refine AllReady.cons rfl (fun K hK => ?_) ?_
          rotate_left
          exact AllReady.nil
          try go_simp
          refine hK _ _ ?_
          clear hK K
          refine wpAny_done (by kernel_rfl) ?_ _
          go_wp2
          go_ret
          exact ⟨rfl, by first | exact HB3.out.trans (HB8.out.mono (Nat.le_trans s1 hs3)) | exact (HB3.out.trans (HB8.out.mono (Nat.le_trans s1 hs3))).drewN _⟩
end Go.Proofs.Ytnbgekbfccejdaa
