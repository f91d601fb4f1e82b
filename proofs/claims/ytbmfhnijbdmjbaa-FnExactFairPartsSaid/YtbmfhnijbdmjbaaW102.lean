/-
  WALKS: the heap of users, of the program: a user goes down.
-/
import Derived.Test.YtbmfhnijbdmjbaaW101
namespace Go.Proofs.Ytbmfhnijbdmjbaa
open Go.RowKit
theorem swp_ok {f : Nat → Bs.H} {n p q : Nat} (h : ∀ j, j < n → Bs.hOk (f j)) (hp : p < n) (hq : q < n) : ∀ j, j < n → Bs.hOk (Bs.swp f p q j) := by
  intro j hj
  rw [Bs.swp_at]
  split
  · exact h p hp
  · split
    · exact h q hq
    · exact h j hj
set_option maxRecDepth 20000 in
set_option maxHeartbeats 6400000 in
theorem settled_any : ∀ (s : Nat) (f : Nat → Bs.H) (n p : Nat) (_hn : n ≤ 5) (_hp : p ≤ 8) (_hs : n ≤ p + s) (_hok : ∀ j, j < n → Bs.hOk (f j)) (w : World),
    Calls Try.prog 51 #[.agg (huA f n), .int .i64 (p : Int)] w fun e w' => e = .returned (.agg (huA (Bs.settle n s f p) n)) ∧ Below w.heap.size w w' := by
  intro s
  induction s with
  | zero =>
    intro f n p hn hp hs hok w
    have kb := (UB.new w f n).alloc (.cells (huA z5 0) 55)
    have kz := UB.new (w.alloc (.cells (huA f n) 55)) z5 0
    rw [show (w.alloc (.cells (huA f n) 55)).heap.size = w.heap.size + 1 from by simp] at kz
    have hbl : Below w.heap.size w ((w.alloc (.cells (huA f n) 55)).alloc (.cells (huA z5 0) 55)) := ((Below.refl _ _).alloc (Nat.le_refl _) _).alloc (by simp) _
    rw [z5A] at kb kz hbl
    have k20 := kb.n
    have HKB := Lib.hid kb
    have HKZ := Lib.hid kz
    have HBL := Lib.hid hbl
    have hsz := huA_size f n
    have HE := Lib.hid (show Bs.settle n 0 f p = f from rfl)
    have d1 : ¬ (2 * (p : Int) + 1 < (n : Int)) := by omega
    have d2 : decide (2 * (p : Int) + 1 < (n : Int)) = false := by simp; omega
    have d3 : ((p : Int) == (p : Int)) = true := by simp
    clear kb kz hbl hok
    go_enter Try.func51, Try.ntmps51
    go_wp2
    go_loop [5, 6] (fun fv bv => fv = .int .i64 (p : Int) ∧ bv = .int .i64 (2 * (p : Int) + 1)) (fun _ _ => 0)
    case atStart => exact ⟨rfl, by go_num⟩
    case round =>
      obtain ⟨rfl, rfl⟩ := hrel
      go_wp2_with (first
        | (refine hu_load rfl _ rfl w.heap.size f n rfl HKB.out ?_)
        | (refine hu_store rfl _ _ rfl (w.heap.size + 1) z5 f 0 n rfl rfl HKZ.out ?_; intro w5 h5 o5; have H5 := Lib.hid h5; have HB5 := Lib.hid (HBL.out.trans (o5.below (Nat.le_succ _))); clear h5 o5))
      exact bodyPost_ret (hu_ret rfl _ _ (w.heap.size + 1) f n rfl H5.out) rfl ⟨by rw [HE.out], HB5.out⟩
  | succ s ih =>
    intro f n p hn hp hs hok w
    have kb := (UB.new w f n).alloc (.cells (huA z5 0) 55)
    have kz := UB.new (w.alloc (.cells (huA f n) 55)) z5 0
    rw [show (w.alloc (.cells (huA f n) 55)).heap.size = w.heap.size + 1 from by simp] at kz
    have hbl : Below w.heap.size w ((w.alloc (.cells (huA f n) 55)).alloc (.cells (huA z5 0) 55)) := ((Below.refl _ _).alloc (Nat.le_refl _) _).alloc (by simp) _
    have hs2 : ((w.alloc (.cells (huA f n) 55)).alloc (.cells (huA z5 0) 55)).heap.size = w.heap.size + 1 + 1 := by simp
    rw [z5A] at kb kz hbl hs2
    have HKB := Lib.hid kb
    have HKZ := Lib.hid kz
    have HBL := Lib.hid hbl
    have HS2 := Lib.hid hs2
    have HOK := Lib.hid hok
    have hsz := huA_size f n
    have HE1 := Lib.hid (show Bs.firstP f n p = p → Bs.settle n (s + 1) f p = f from fun h => if_pos h)
    have HE2 := Lib.hid (show Bs.firstP f n p ≠ p → Bs.settle n (s + 1) f p = Bs.settle n s (Bs.swp f p (Bs.firstP f n p)) (Bs.firstP f n p) from fun h => if_neg h)
    have HF1 := Lib.hid (show Bs.first1 f n p = if 2 * p + 1 < n ∧ Bs.hkey (f (2 * p + 1)) < Bs.hkey (f p) then 2 * p + 1 else p from rfl)
    have HFP := Lib.hid (show Bs.firstP f n p = if 2 * p + 2 < n ∧ Bs.hkey (f (2 * p + 2)) < Bs.hkey (f (Bs.first1 f n p)) then 2 * p + 2 else Bs.first1 f n p from rfl)
    have HFC := Lib.hid (Bs.firstP_cases f n p)
    have CS := Lib.hid (fun (a b : Bs.H) W ha hb => show Calls Try.prog 58 #[.agg #[.int .i64 a.at_, .int .i64 a.u.share, .int .i64 a.u.used, .int .i64 a.u.waits], .agg #[.int .i64 b.at_, .int .i64 b.u.share, .int .i64 b.u.used, .int .i64 b.u.waits]] W fun e w' => e = .returned (.bool (decide (Bs.hkey a < Bs.hkey b))) ∧ Below W.heap.size W w' from servedBefore_any a b W ha hb)
    obtain ⟨R, hR⟩ : ∃ R, R = Bs.settle n (s + 1) f p := ⟨_, rfl⟩
    rw [← hR]
    have HR := Lib.hid hR
    clear kb kz hbl hs2 hok hR
    generalize Bs.firstP f n p = fp at *
    generalize Bs.first1 f n p = f1 at *
    go_enter Try.func51, Try.ntmps51
    go_wp2
    go_loopw [5, 6] (fun fv bv wr => ∃ (c b : Nat), fv = .int .i64 (c : Int) ∧ bv = .int .i64 (b : Int) ∧ UB wr w.heap.size f n ∧ UB wr (w.heap.size + 1) z5 0 ∧ Below w.heap.size w wr ∧ ((b = 2 * p + 1 ∧ c = p) ∨ (b = 2 * p + 2 ∧ c = f1) ∨ (b = 2 * p + 3 ∧ c = fp))) (fun _ bv _ => 2 * p + 3 - (intOf bv).toNat)
    case atStart => exact ⟨p, 2 * p + 1, rfl, by go_num, HKB.out, HKZ.out, HBL.out, .inl ⟨rfl, rfl⟩⟩
    case round =>
      obtain ⟨c, b, rfl, rfl, hu, hz, hb, hcase⟩ := hrel
      have sr := hb.size
      have k20 := hu.n
      by_cases hcond : b ≤ 2 * p + 2 ∧ b < n
      · obtain ⟨hb2, hbn⟩ := hcond
        have hcn : c < n := by
          rcases hcase with ⟨rfl, rfl⟩ | ⟨rfl, rfl⟩ | ⟨rfl, rfl⟩
          · omega
          · rw [HF1.out]; split <;> omega
          · omega
        have C1 := Lib.hid (fun W => CS.out (f b) (f c) W (HOK.out b hbn) (HOK.out c hcn))
        have hb5 : b < 5 := by omega
        have hc5 : c < 5 := by omega
        have b0 := hu.c0 hb5
        have b1 := hu.c1 hb5
        have b2 := hu.c2 hb5
        have b3 := hu.c3 hb5
        have c0 := hu.c0 hc5
        have c1 := hu.c1 hc5
        have c2 := hu.c2 hc5
        have c3 := hu.c3 hc5
        have kw : w.heap.size < wr.heap.size := hu.lt
        have HU := Lib.hid hu
        have HZ := Lib.hid hz
        have HB := Lib.hid hb
        have HNX := Lib.hid (show (Bs.hkey (f b) < Bs.hkey (f c) → (b + 1 = 2 * p + 2 ∧ b = f1) ∨ (b + 1 = 2 * p + 3 ∧ b = fp)) ∧ (¬ Bs.hkey (f b) < Bs.hkey (f c) → (b + 1 = 2 * p + 2 ∧ c = f1) ∨ (b + 1 = 2 * p + 3 ∧ c = fp)) from by
          rcases hcase with ⟨rfl, rfl⟩ | ⟨rfl, rfl⟩ | ⟨rfl, rfl⟩
          · exact ⟨fun h => .inl ⟨rfl, by rw [HF1.out, if_pos ⟨hbn, h⟩]⟩, fun h => .inl ⟨rfl, by rw [HF1.out, if_neg (fun h2 => h h2.2)]⟩⟩
          · exact ⟨fun h => .inr ⟨rfl, by rw [HFP.out, if_pos ⟨hbn, h⟩]⟩, fun h => .inr ⟨rfl, by rw [HFP.out, if_neg (fun h2 => h h2.2)]⟩⟩
          · omega)
        have j0 : (0 : Int) ≤ (b : Int) := by omega
        have j1 : (b : Int) < 5 := by omega
        have j2 : (0 : Int) ≤ (c : Int) := by omega
        have j3 : (c : Int) < 5 := by omega
        have j4 : (b : Int) < (n : Int) := by omega
        have j5 : (b : Int) ≤ 2 * (p : Int) + 2 := by omega
        have j6 : decide ((b : Int) ≤ 2 * (p : Int) + 2) = true := by simp; omega
        clear hcase hu hz hb CS HFC HE1 HE2 HF1 HFP ih
        obtain ⟨v, hv⟩ : ∃ v, v = decide (Bs.hkey (f b) < Bs.hkey (f c)) := ⟨_, rfl⟩
        rw [← hv] at C1
        have HV := Lib.hid hv
        clear hv
        go_wp2_with fail
        go_region_held3 (fun w' => w'.cell? ⟨w.heap.size, b * 4, none⟩ = some (.int .i64 (f b).at_) ∧ w'.cell? ⟨w.heap.size, b * 4 + 1, none⟩ = some (.int .i64 (f b).u.share) ∧ w'.cell? ⟨w.heap.size, b * 4 + 2, none⟩ = some (.int .i64 (f b).u.used) ∧ w'.cell? ⟨w.heap.size, b * 4 + 3, none⟩ = some (.int .i64 (f b).u.waits) ∧ w'.cell? ⟨w.heap.size, c * 4, none⟩ = some (.int .i64 (f c).at_) ∧ w'.cell? ⟨w.heap.size, c * 4 + 1, none⟩ = some (.int .i64 (f c).u.share) ∧ w'.cell? ⟨w.heap.size, c * 4 + 2, none⟩ = some (.int .i64 (f c).u.used) ∧ w'.cell? ⟨w.heap.size, c * 4 + 3, none⟩ = some (.int .i64 (f c).u.waits))
          (first | go_keep | (go_split_ands; refine ⟨?_, ?_, ?_, ?_, ?_, ?_, ?_, ?_⟩; (exact (hb5'.cell (p := ⟨w.heap.size, b * 4, none⟩) kw).trans b0); (exact (hb5'.cell (p := ⟨w.heap.size, b * 4 + 1, none⟩) kw).trans b1); (exact (hb5'.cell (p := ⟨w.heap.size, b * 4 + 2, none⟩) kw).trans b2); (exact (hb5'.cell (p := ⟨w.heap.size, b * 4 + 3, none⟩) kw).trans b3); (exact (hb5'.cell (p := ⟨w.heap.size, c * 4, none⟩) kw).trans c0); (exact (hb5'.cell (p := ⟨w.heap.size, c * 4 + 1, none⟩) kw).trans c1); (exact (hb5'.cell (p := ⟨w.heap.size, c * 4 + 2, none⟩) kw).trans c2); (exact (hb5'.cell (p := ⟨w.heap.size, c * 4 + 3, none⟩) kw).trans c3)))
          (first | (go_at_call 58; (with_reducible refine (C1.out _).mono ?_); rintro e w5 ⟨rfl, hb5'⟩))
        have hX := (((Below.refl _ wr).drewN 1).trans hb5')
        have HU5 := Lib.hid (HU.out.below hX HU.out.lt)
        have HZ5 := Lib.hid (HZ.out.below hX HZ.out.lt)
        have HB5 := Lib.hid (HB.out.trans (hX.mono sr))
        clear hX hb5' b0 b1 b2 b3 c0 c1 c2 c3 C1
        cases v
        · have hn2 := HNX.out.2 (by have := HV.out; simpa using this.symm)
          have HN2 := Lib.hid hn2
          clear hn2
          go_wp2
          go_roundw
          case rel => exact ⟨c, b + 1, rfl, by go_num, HU5.out, HZ5.out, HB5.out, .inr HN2.out⟩
          case measure => simp [intOf]; omega
        · have hn2 := HNX.out.1 (by have := HV.out; simpa using this.symm)
          have HN2 := Lib.hid hn2
          clear hn2
          go_wp2
          go_roundw
          case rel => exact ⟨b, b + 1, rfl, by go_num, HU5.out, HZ5.out, HB5.out, .inr HN2.out⟩
          case measure => simp [intOf]; omega
      · have hcf : c = fp := by
          rcases hcase with ⟨rfl, rfl⟩ | ⟨rfl, rfl⟩ | ⟨rfl, rfl⟩
          · have e1 : f1 = c := by rw [HF1.out, if_neg (by omega)]
            rw [HFP.out, if_neg (by omega), e1]
          · rw [HFP.out, if_neg (by omega)]
          · rfl
        subst hcf
        have hb3 : b ≤ 2 * p + 3 := by omega
        have HU := Lib.hid hu
        have HZ := Lib.hid hz
        have HB := Lib.hid hb
        have hsz1 : w.heap.size < wr.heap.size := hu.lt
        clear hu hz hb CS HF1 HFP
        by_cases hcp : c = p
        · have HE := Lib.hid (HE1.out hcp)
          have d3 : ((c : Int) == (p : Int)) = true := by simp; omega
          clear HE1 HE2 HFC ih
          by_cases hb2 : b ≤ 2 * p + 2
          · have d4 : (b : Int) ≤ 2 * (p : Int) + 2 := by omega
            have d5 : decide ((b : Int) ≤ 2 * (p : Int) + 2) = true := by simp; omega
            have d6 : ¬ (b : Int) < (n : Int) := by omega
            have d7 : decide ((b : Int) < (n : Int)) = false := by simp; omega
            clear hcase hcond hcp
            go_wp2_with (first
              | (refine hu_load rfl _ rfl w.heap.size f n rfl HU.out ?_)
              | (refine hu_store rfl _ _ rfl (w.heap.size + 1) z5 f 0 n rfl rfl HZ.out ?_; intro w5 h5 o5; have H5 := Lib.hid h5; have HB5 := Lib.hid (HB.out.trans (o5.below (Nat.le_succ _))); clear h5 o5))
            exact bodyPost_ret (hu_ret rfl _ _ (w.heap.size + 1) f n rfl H5.out) rfl ⟨by rw [HR.out, HE.out], HB5.out⟩
          · have d4 : ¬ (b : Int) ≤ 2 * (p : Int) + 2 := by omega
            have d5 : decide ((b : Int) ≤ 2 * (p : Int) + 2) = false := by simp; omega
            clear hcase hcond hcp
            go_wp2_with (first
              | (refine hu_load rfl _ rfl w.heap.size f n rfl HU.out ?_)
              | (refine hu_store rfl _ _ rfl (w.heap.size + 1) z5 f 0 n rfl rfl HZ.out ?_; intro w5 h5 o5; have H5 := Lib.hid h5; have HB5 := Lib.hid (HB.out.trans (o5.below (Nat.le_succ _))); clear h5 o5))
            exact bodyPost_ret (hu_ret rfl _ _ (w.heap.size + 1) f n rfl H5.out) rfl ⟨by rw [HR.out, HE.out], HB5.out⟩
        · have HE := Lib.hid (HE2.out hcp)
          have hcn : p < c ∧ c < n := by
            rcases HFC.out with ⟨h, _⟩ | ⟨_, h1, h2, _⟩
            · exact absurd h hcp
            · exact ⟨h1, h2⟩
          have d3 : ((c : Int) == (p : Int)) = false := by rw [beq_eq_false_iff_ne]; omega
          have C2 := Lib.hid (fun W => swapped_any f n p c (by omega) (by omega) W)
          have C3 := Lib.hid (fun W => ih (Bs.swp f p c) n c hn (by omega) (by omega) (swp_ok HOK.out (by omega) (by omega)) W)
          clear HE1 HE2 HFC ih HOK
          by_cases hb2 : b ≤ 2 * p + 2
          · have d4 : (b : Int) ≤ 2 * (p : Int) + 2 := by omega
            have d5 : decide ((b : Int) ≤ 2 * (p : Int) + 2) = true := by simp; omega
            have d6 : ¬ (b : Int) < (n : Int) := by omega
            have d7 : decide ((b : Int) < (n : Int)) = false := by simp; omega
            clear hcase hcond hcp
            go_wp2_with (first | (refine hu_load rfl _ rfl w.heap.size f n rfl HU.out ?_))
            with_reducible refine (C2.out _).mono ?_
            rintro e w6 ⟨rfl, hb6⟩
            go_wp2_with fail
            with_reducible refine (C3.out _).mono ?_
            rintro e w7 ⟨rfl, hb7⟩
            have hx := hb6.trans (hb7.mono hb6.size)
            have HZ7 := Lib.hid (HZ.out.below hx HZ.out.lt)
            have HB7 := Lib.hid (HB.out.trans (hx.mono sr))
            clear hb6 hb7 hx C2 C3
            generalize Bs.settle n s (Bs.swp f p c) c = F at *
            have hszF := huA_size F n
            go_wp2_with (first
              | (refine hu_store rfl _ _ rfl (w.heap.size + 1) z5 F 0 n rfl rfl HZ7.out ?_; intro w8 h8 o8; have H8 := Lib.hid h8; have HB8 := Lib.hid (HB7.out.trans (o8.below (Nat.le_succ _))); clear h8 o8))
            exact bodyPost_ret (hu_ret rfl _ _ (w.heap.size + 1) F n rfl H8.out) rfl ⟨by rw [HR.out, HE.out], HB8.out⟩
          · have d4 : ¬ (b : Int) ≤ 2 * (p : Int) + 2 := by omega
            have d5 : decide ((b : Int) ≤ 2 * (p : Int) + 2) = false := by simp; omega
            clear hcase hcond hcp
            go_wp2_with (first | (refine hu_load rfl _ rfl w.heap.size f n rfl HU.out ?_))
            with_reducible refine (C2.out _).mono ?_
            rintro e w6 ⟨rfl, hb6⟩
            go_wp2_with fail
            with_reducible refine (C3.out _).mono ?_
            rintro e w7 ⟨rfl, hb7⟩
            have hx := hb6.trans (hb7.mono hb6.size)
            have HZ7 := Lib.hid (HZ.out.below hx HZ.out.lt)
            have HB7 := Lib.hid (HB.out.trans (hx.mono sr))
            clear hb6 hb7 hx C2 C3
            generalize Bs.settle n s (Bs.swp f p c) c = F at *
            have hszF := huA_size F n
            go_wp2_with (first
              | (refine hu_store rfl _ _ rfl (w.heap.size + 1) z5 F 0 n rfl rfl HZ7.out ?_; intro w8 h8 o8; have H8 := Lib.hid h8; have HB8 := Lib.hid (HB7.out.trans (o8.below (Nat.le_succ _))); clear h8 o8))
            exact bodyPost_ret (hu_ret rfl _ _ (w.heap.size + 1) F n rfl H8.out) rfl ⟨by rw [HR.out, HE.out], HB8.out⟩
end Go.Proofs.Ytbmfhnijbdmjbaa
