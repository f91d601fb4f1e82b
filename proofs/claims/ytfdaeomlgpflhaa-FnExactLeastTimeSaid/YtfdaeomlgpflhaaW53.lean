/-
  WALKS: valid beginnings, ends, what runs, of the program.
-/
import Derived.Test.YtfdaeomlgpflhaaW52
namespace Go.Proofs.Ytfdaeomlgpflhaa
open Go.RowKit
theorem bg_same {f f' : Nat → Int} {w : World} {a b : Nat} (h : BG w a f b) (e : bgA f b = bgA f' b) : BG w a f' b := by unfold BG at h ⊢; rw [← e]; exact h
theorem giZ_none {l : List Int} {k : Nat} (h : l.length ≤ k) : Bs.giZ l k = 0 := by unfold Bs.giZ; rw [List.getElem?_eq_none (by omega)]
/-- beginnings of the first k tasks -/
def bgTo (S : List Int) (k : Nat) : Nat → Int := fun i => if i < k then Bs.giZ S i else 0
theorem bgTo_zero (S : List Int) : bgA (bgTo S 0) (Bs.full 0) = bgA z8 0 := rfl
theorem bgTo_succ (S : List Int) (k : Nat) : Bs.upd (bgTo S k) k (Bs.giZ S k) = bgTo S (k + 1) := by
  funext i
  unfold Bs.upd bgTo
  by_cases h : i = k
  · subst h; simp
  · rw [if_neg h]
    by_cases h2 : i < k
    · rw [if_pos h2, if_pos (by omega)]
    · rw [if_neg h2, if_neg (by omega)]
theorem bgTo_all (S : List Int) : bgTo S S.length = Bs.giZ S := by
  funext i
  unfold bgTo
  split
  · rfl
  · rw [giZ_none (by omega)]
set_option maxHeartbeats 800000 in
theorem beginningsOf_any (A : Option Addr) (c : Nat) (S : List Int) (lo hi : Nat) (w : World) (h : RI w lo hi A S) (hh : hi ≤ w.heap.size) (hl : S.length ≤ 8) :
    Calls Try.prog 43 #[.slice A S.length c] w fun e w' => e = .returned (.agg (bgA (Bs.giZ S) (Bs.full S.length))) ∧ Below w.heap.size w w' := by
  have b2 := (BG.new w z8 0).alloc (.cells (bgA z8 0) 54)
  have b3 := BG.new (w.alloc (.cells (bgA z8 0) 54)) z8 0
  rw [show (w.alloc (.cells (bgA z8 0) 54)).heap.size = w.heap.size + 1 from by simp] at b3
  have hbl : Below w.heap.size w ((w.alloc (.cells (bgA z8 0) 54)).alloc (.cells (bgA z8 0) 54)) := ((Below.refl _ _).alloc (Nat.le_refl _) _).alloc (by simp) _
  have HB2 := Lib.hid b2
  have HB3 := Lib.hid b3
  have HBL := Lib.hid hbl
  have HE := Lib.hid (bgTo_all S)
  have HR := Lib.hid h
  rw [z8A] at HB2 HB3 HBL
  clear b2 b3 hbl h
  go_enter Try.func43, Try.ntmps43
  go_wp2
  go_loopw [9] (fun i wr => ∃ (k : Nat), k ≤ S.length ∧ i = .int .i64 k ∧ BG wr w.heap.size z8 0 ∧ BG wr (w.heap.size + 1) (bgTo S k) (Bs.full k) ∧ Below w.heap.size w wr) (fun i _ => S.length - (intOf i).toNat)
  case atStart => exact ⟨0, Nat.zero_le _, rfl, HB2.out, HB3.out, HBL.out⟩
  case round =>
    obtain ⟨k, hk, rfl, h2, h3, hb⟩ := hrel
    clear HB2 HB3 HBL
    by_cases hlt : k < S.length
    · obtain ⟨b, o, rfl, _, _, hc⟩ := (HR.out.below hb hh).at_ hlt
      have hf8 : Bs.full k < 256 := Bs.full_lt (by omega)
      have c1 := fun W => bgWith_any (bgTo S k) (Bs.full k) k S[k] W hf8 (by omega)
      rw [← Bs.giZ_at hlt, bgTo_succ, Bs.full_succ] at c1
      rw [← Bs.giZ_at hlt] at hc
      have C1 := Lib.hid c1
      have H2 := Lib.hid h2
      have H3 := Lib.hid h3
      have HB := Lib.hid hb
      have sb := h3.lt
      have sr := hb.size
      clear c1 h2 h3 hb
      go_wp2_with (first | (refine bg_load rfl _ rfl (w.heap.size + 1) (bgTo S k) (Bs.full k) rfl H3.out ?_))
      with_reducible refine (C1.out _).mono ?_
      rintro e w5 ⟨rfl, hb5⟩
      have H25 := Lib.hid (H2.out.below hb5 H2.out.lt)
      have H35 := Lib.hid (H3.out.below hb5 H3.out.lt)
      have HB5 := Lib.hid (HB.out.trans (hb5.mono HB.out.size))
      clear hb5 C1
      go_wp2_with (first | (refine bg_store rfl _ _ rfl (w.heap.size + 1) (bgTo S k) (bgTo S (k + 1)) (Bs.full k) (Bs.full (k + 1)) rfl rfl H35.out ?_; intro w9 h9 o9))
      have H9 := Lib.hid h9
      have H29 := Lib.hid (o9.bg H25.out (by omega))
      have HB9 := Lib.hid (HB5.out.trans (o9.below (Nat.le_succ _)))
      clear h9 o9
      go_roundw
      case rel => exact ⟨k + 1, by omega, by go_num, H29.out, H9.out, HB9.out⟩
      case measure => simp [intOf]; omega
    · obtain rfl : k = S.length := by omega
      rw [HE.out] at h3
      have H2 := Lib.hid h2
      have H3 := Lib.hid h3
      have HB := Lib.hid hb
      clear h2 h3 hb
      go_wp2_with (first
        | (refine bg_load rfl _ rfl (w.heap.size + 1) (Bs.giZ S) (Bs.full S.length) rfl H3.out ?_)
        | (refine bg_store rfl _ _ rfl w.heap.size z8 (Bs.giZ S) 0 (Bs.full S.length) rfl rfl H2.out ?_; intro w9 h9 o9))
      exact bodyPost_ret (bg_ret rfl _ _ w.heap.size (Bs.giZ S) (Bs.full S.length) rfl h9) rfl ⟨rfl, HB.out.trans (o9.below (Nat.le_refl _))⟩
theorem validClocks_any (A : Option Addr) (c : Nat) (g : List Bs.T) (A1 : Option Addr) (c1 : Nat) (S : List Int) (lo hi : Nat) (w : World) (h : RI w lo hi A1 S) (_hl : g.length ≤ 9223372036854775807) (hs : S.length ≤ 9223372036854775807) :
    Calls Try.prog 42 #[.slice A g.length c, .slice A1 S.length c1] w fun e w' => e = .returned (.bool (Bs.clkV g S)) ∧ w = w' := by
  have HE := Lib.hid (show Bs.clkV g S = (decide (S.length = g.length) && Bs.allInB S 0 200) from rfl)
  by_cases hlen : S.length = g.length
  · have HEE := Lib.hid (show Bs.clkV g S = Bs.allInB S 0 200 from by rw [HE.out]; simp [hlen])
    have HF := Lib.hid (fun k (hk : k < S.length) (hx : decide (0 ≤ S[k] ∧ S[k] ≤ 200) = false) => show Bs.allInB S 0 200 = false from Bs.all_false_at hk hx)
    have hq : ((S.length : Int) != (g.length : Int)) = false := by simp [hlen]
    have hq2 : (S.length != g.length) = false := by simp [hlen]
    clear hlen
    go_enter Try.func42, Try.ntmps42
    go_wp2
    go_loop [14] (fun i => ∃ k : Nat, k ≤ S.length ∧ i = .int .i64 k ∧ ∀ j (hj : j < S.length), j < k → 0 ≤ S[j] ∧ S[j] ≤ 200) (fun i => S.length - (intOf i).toNat)
    case atStart => exact ⟨0, Nat.zero_le _, rfl, by intro j _ h; omega⟩
    case round =>
      obtain ⟨k, hk, rfl, hall⟩ := hrel
      have HA := Lib.hid hall
      clear hall
      by_cases hlt : k < S.length
      · obtain ⟨b, o, rfl, _, _, hc⟩ := h.at_ hlt
        have HK := Lib.hid (HF.out k hlt)
        have HS := Lib.hid (fun (h1 : 0 ≤ S[k]) (h2 : S[k] ≤ 200) => show ∀ j (hj : j < S.length), j < k + 1 → 0 ≤ S[j] ∧ S[j] ≤ 200 from by
          intro j hj hjk
          by_cases e : j = k
          · subst e; exact ⟨h1, h2⟩
          · exact HA.out j hj (by omega))
        generalize S[k] = x at *
        by_cases h1 : x < 0
        · have HN := Lib.hid (HK.out (by simp; omega))
          go_wp2
          go_ret
          exact ⟨ret_bool (by rw [HEE.out, HN.out]), rfl⟩
        · by_cases h2 : x > 200
          · have HN := Lib.hid (HK.out (by simp; omega))
            go_wp2
            go_ret
            exact ⟨ret_bool (by rw [HEE.out, HN.out]), rfl⟩
          · have HN := Lib.hid (HS.out (by omega) (by omega))
            go_wp2
            go_round
            case rel => exact ⟨k + 1, by omega, by go_num, HN.out⟩
            case measure => simp [intOf]; omega
      · have HT := Lib.hid (show Bs.allInB S 0 200 = true from Bs.allInB_of (fun x hx => by
          obtain ⟨j, hj, rfl⟩ := List.mem_iff_getElem.1 hx
          exact HA.out j hj (by omega)))
        go_wp2
        go_ret
        exact ⟨ret_bool (by rw [HEE.out, HT.out]), rfl⟩
  · have HEE := Lib.hid (show Bs.clkV g S = false from by rw [HE.out]; simp [hlen])
    have hq : ((S.length : Int) != (g.length : Int)) = true := by simp; omega
    have hq2 : (S.length != g.length) = true := by simp [hlen]
    go_enter Try.func42, Try.ntmps42
    go_wp2
    go_ret
    exact ⟨ret_bool HEE.out.symm, rfl⟩
theorem canPlan_any (A : Option Addr) (c : Nat) (g : List Bs.T) (A1 : Option Addr) (c1 : Nat) (m : List Int) (wk : Int) (lo hi l1 h1 : Nat) (w : World) (h : RG w lo hi A g) (hh : hi ≤ w.heap.size) (hm : RI w l1 h1 A1 m) (hh1 : h1 ≤ w.heap.size) (hl : g.length ≤ 9223372036854775807) (hml : m.length ≤ 9223372036854775807) :
    Calls Try.prog 41 #[.slice A g.length c, .slice A1 m.length c1, .int .i64 wk] w fun e w' => e = .returned (.bool (Bs.canV g m wk)) ∧ Below w.heap.size w w' := by
  have q1 := ValidGraph_any A c g lo hi w h hh hl
  have q2 := fun W (hb : Below w.heap.size w W) => ValidRoom_same A1 c1 m l1 h1 W (hm.below hb hh1) hml
  have q3 := fun W => validWorkers_any wk W
  have HE := Lib.hid (show Bs.canV g m wk = (Bs.valid g && Bs.roomOk m && decide (1 ≤ wk ∧ wk ≤ 4)) from rfl)
  clear h hm
  generalize Bs.valid g = v1 at *
  generalize Bs.roomOk m = v2 at *
  generalize decide (1 ≤ wk ∧ wk ≤ 4) = v3 at *
  have C1 := Lib.hid q1
  have C2 := Lib.hid q2
  have C3 := Lib.hid q3
  clear q1 q2 q3
  cases v1
  · go_enter Try.func41, Try.ntmps41
    go_wp2_with fail
    with_reducible refine (C1.out).mono ?_
    rintro e w1 ⟨rfl, hb⟩
    have HB := Lib.hid hb
    clear hb
    go_wp2
    go_ret
    exact ⟨ret_bool (by rw [HE.out]; rfl), HB.out⟩
  · cases v2
    · go_enter Try.func41, Try.ntmps41
      go_wp2_with fail
      with_reducible refine (C1.out).mono ?_
      rintro e w1 ⟨rfl, hb⟩
      have HB := Lib.hid hb
      clear hb
      go_wp2_with fail
      with_reducible refine (C2.out _ HB.out).mono ?_
      rintro e w2 ⟨rfl, rfl⟩
      go_wp2
      go_ret
      exact ⟨ret_bool (by rw [HE.out]; rfl), HB.out⟩
    · go_enter Try.func41, Try.ntmps41
      go_wp2_with fail
      with_reducible refine (C1.out).mono ?_
      rintro e w1 ⟨rfl, hb⟩
      have HB := Lib.hid hb
      clear hb
      go_wp2_with fail
      with_reducible refine (C2.out _ HB.out).mono ?_
      rintro e w2 ⟨rfl, rfl⟩
      go_wp2_with fail
      with_reducible refine (C3.out _).mono ?_
      rintro e w2 ⟨rfl, rfl⟩
      go_wp2
      go_ret
      exact ⟨ret_bool (by rw [HE.out]; simp), HB.out⟩
end Go.Proofs.Ytfdaeomlgpflhaa
