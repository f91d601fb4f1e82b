/-
  THE WALK OF laws.FnValidRoom.
-/
import Derived.Test.YtcddjgiclnnilaaX6
import Derived.Test.YtcddjgiclnnilaaRI
namespace Go.Proofs.Ytcddjgiclnnilaa
open Go.RowKit
set_option maxRecDepth 20000 in
set_option maxHeartbeats 6400000 in
theorem fnValidRoom_walk (A : Option Addr) (c : Nat) (l : List Int) (w : World) (hb : RB w 0 w.heap.size A l) (hlc : l.length ≤ c ∧ c ≤ maxLen) :
    Calls Try.prog 10 #[.slice A l.length c] w fun e w' => e = .returned (.bool true) ∧ Below w.heap.size w w' := by
  have hl63 : l.length ≤ 9223372036854775807 := by have := hlc.2; unfold maxLen at this; omega
  by_cases hbig : 1048576 < l.length
  · go_enter Try.func10, Try.ntmps10
    go_wp2
    go_ret
    exact ⟨rfl, Below.refl _ _⟩
  · have C1 := Lib.hid (DrawValidRoom_any A c l w hb hlc.1 hlc.2)
    clear hb
    go_enter Try.func10, Try.ntmps10
    go_wp2_with fail
    refine (C1.out).mono ?_
    rintro e w1 ⟨⟨A0, c0, d, rfl, hd, hd100, hdc, hdm⟩, hb1⟩
    have HD := Lib.hid hd
    have s1 := hb1.size
    have hd9 : d.length ≤ 9223372036854775807 := by omega
    have HRS : Hid (Bs.roomOk d = true → d.length = 3 ∧ ∀ i, i < d.length → Bs.roomOk (d.set i 8) = true ∧ Bs.roomOk (d.set i 3) = false) := Lib.hid (fun h => ⟨Bs.roomOk_len h, fun i hi => Bs.room_set h hi⟩)
    have c2 := ValidRoom_any A0 c0 d w.heap.size w1.heap.size w1 HD.out (Nat.le_refl _) hd9
    have cs := fun W hd => ValidRoomS_any A0 c0 d w.heap.size w1.heap.size W hd hd9
    generalize Bs.roomOk d = ok at *
    have C2 := Lib.hid c2
    have CS := Lib.hid cs
    have HB1 := Lib.hid hb1
    clear C1 hd c2 cs hb1
    go_wp2_with fail
    refine (C2.out).mono ?_
    rintro e w2 ⟨rfl, hb2⟩
    have s2 := hb2.size
    have HD2 := Lib.hid (HD.out.below hb2 (Nat.le_refl _))
    have HB2 := Lib.hid (HB1.out.trans (hb2.mono s1))
    have C3 := Lib.hid (CS.out w2 HD2.out)
    have hne : (ok != ok) = false := by simp
    have heq : (ok == ok) = true := by simp
    clear hb2 C2 HD HB1 CS
    go_wp2_with fail
    refine (C3.out).mono ?_
    rintro e w3 ⟨rfl, rfl⟩
    obtain ⟨W2, rfl⟩ : ∃ W2, W2 = w2 := ⟨_, rfl⟩
    cases ok
    · go_wp2_with fail
      refine (C3.out).mono ?_
      rintro e w3 ⟨rfl, rfl⟩
      go_wp2
      go_ret
      exact ⟨rfl, HB2.out⟩
    · obtain ⟨h3, hset⟩ := HRS.out rfl
      have HX := Lib.hid hset
      have H3 := Lib.hid h3
      have CV := Lib.hid (fun A c (q : List Int) lo hi W h hh hq => ValidRoom_any A c q lo hi W h hh hq)
      clear HRS h3 hset C3 hne heq
      go_wp2
      go_loopw [5, 6, 7] (fun i _ _ wr => ∃ k : Nat, i = .int .i64 (k : Int) ∧ Below W2.heap.size W2 wr) (fun i _ _ _ => d.length + 1 - (intOf i).toNat)
      case atStart => exact ⟨0, rfl, Below.refl _ _⟩
      case round =>
        obtain ⟨k, rfl, hbr⟩ := hrel
        have sr := hbr.size
        have HBR := Lib.hid hbr
        have HDr := Lib.hid (HD2.out.below hbr s2)
        clear hbr
        by_cases hi : k < d.length
        · obtain ⟨v1, v2⟩ := HX.out k hi
          have b0 : (0 : Int) ≤ (k : Int) := by omega
          have b1 : (k : Int) < (d.length : Int) := by omega
          have hp1 : ([] : List Int).length + d.length ≤ 1000000000 := by simp only [List.length_nil]; omega
          have hal := Below.alloc (Below.refl wr.heap.size wr) (Nat.le_refl _) (.cells #[] 3)
          have HA1 := Lib.hid (HDr.out.below hal (by omega))
          have HAL := Lib.hid hal
          have V1 := Lib.hid v1
          have V2 := Lib.hid v2
          clear hal v1 v2
          go_wp2_with (first | (at_builtin; (refine push_ints rfl _ _ rfl w5.heap.size (some ⟨w5.heap.size, 0, none⟩) 0 [] d rfl HO2.out A0 c0 rfl w.heap.size w1.heap.size HA2.out hp1 (by simp) ?_; intro A6 c6 w6 ho6 hb6; rw [List.nil_append] at ho6; obtain ⟨bd, hA6, hbB6, hbl6, q6, f6, hri6⟩ := ho6.set_ hi 3; subst hA6; have HR6 := Lib.hid hri6; have hb6' := (HB2x.out.trans hb6).setCell (p := ⟨bd, k, none⟩) hbB6 (.int .i64 3); have HB6 := Lib.hid hb6'; have s56 : w5.heap.size ≤ w6.heap.size := (by have := hb6.size; simp at this; omega); clear ho6 hb6 hri6 hb6')) | (at_builtin; (refine push_ints rfl _ _ rfl wr.heap.size (some ⟨wr.heap.size, 0, none⟩) 0 [] d rfl (OI.new _ _ (Nat.le_refl _)) A0 c0 rfl w.heap.size w1.heap.size HA1.out hp1 (by simp) ?_; intro A5 c5 w5 ho5 hb5; rw [List.nil_append] at ho5; obtain ⟨bb, hA5, hbB, hbl, q0, f0, hri⟩ := ho5.set_ hi 8; subst hA5; have HR5 := Lib.hid hri; have hb5' := (HAL.out.trans hb5).setCell (p := ⟨bb, k, none⟩) hbB (.int .i64 8); have HB5 := Lib.hid hb5'; have s5 : wr.heap.size ≤ w5.heap.size := (by have := hb5'.size; simp at this; omega); have ho2 := OI.new (w5.setCell ⟨bb, k, none⟩ (.int .i64 8)) w5.heap.size (by simp); rw [World.size_setCell] at ho2; have HO2 := Lib.hid ho2; have hal2 := Below.alloc (Below.refl (w5.setCell ⟨bb, k, none⟩ (.int .i64 8)).heap.size (w5.setCell ⟨bb, k, none⟩ (.int .i64 8))) (Nat.le_refl _) (.cells #[] 3); rw [World.size_setCell] at hal2; have HB2x := Lib.hid hal2; have HA2 := Lib.hid ((HDr.out.below hb5' (by omega)).below hal2 (by omega)); clear ho5 hb5 hri hb5' ho2 hal2)))
          have hbs := HB5.out.trans (HB6.out.mono s5)
          have HBS := Lib.hid hbs
          have c7 := CV.out (some ⟨bb, 0, none⟩) c5 (d.set k 8) wr.heap.size w5.heap.size _ (HR5.out.below HB6.out (Nat.le_refl _)) (by simp; omega) (by simp; omega)
          have c8 := fun W h hh => CV.out (some ⟨bd, 0, none⟩) c6 (d.set k 3) w5.heap.size w6.heap.size W h hh (by simp; omega)
          rw [V1.out, List.length_set] at c7
          rw [V2.out, List.length_set] at c8
          have C7 := Lib.hid c7
          have C8 := Lib.hid c8
          clear c7 c8 hbs HB5 HB6 HR5 HB2x HA2 HO2
          refine (C7.out).mono ?_
          rintro e w7 ⟨rfl, hb7⟩
          have s7 : w6.heap.size ≤ w7.heap.size := by have := hb7.size; simpa using this
          have C8 := Lib.hid (C8.out w7 (HR6.out.below hb7 (by simp)) s7)
          have HB7 := Lib.hid (HBS.out.trans (hb7.mono (by simp; omega)))
          clear hb7 C7
          go_wp2_with fail
          refine (C8.out).mono ?_
          rintro e w8 ⟨rfl, hb8⟩
          have HB8 := Lib.hid (HBR.out.trans ((HB7.out.trans (hb8.mono (by omega))).mono sr))
          clear hb8 C8
          go_wp2
          go_roundw
          case rel => exact ⟨k + 1, by go_num, HB8.out⟩
          case measure => simp [intOf]; omega
        · have heq3 : ((d.length : Int) == 3) = true := by rw [beq_iff_eq]; have := H3.out; omega
          go_wp2
          go_ret
          exact ⟨rfl, HB2.out.trans (HBR.out.mono (Nat.le_trans s1 s2))⟩
end Go.Proofs.Ytcddjgiclnnilaa
