/-
  WALKS: the log of beginnings, of the program.
-/
import Derived.Test.YtihgakbopkaemaaMath99
import Derived.Test.YtihgakbopkaemaaK14
import Derived.Test.YtihgakbopkaemaaW118
namespace Go.Proofs.Ytihgakbopkaemaa
open Go.RowKit
theorem RetE.nil {w w1 : World} {L : List Bs.E} (hb : Below w.heap.size w w1) (h : L = []) : RetE w L (.returned (.slice none 0 0)) w1 := by
  subst h
  exact ⟨⟨none, 0, rfl, OE.none_ _ _⟩, hb⟩
set_option maxHeartbeats 1600000 in
theorem LogOf_any (A : Option Addr) (c : Nat) (g : List Bs.T) (A1 : Option Addr) (c1 : Nat) (m : List Int) (A2 : Option Addr) (c2 : Nat) (S : List Int) (wk : Int) (lo hi l1 h1 l2 h2 : Nat) (w : World) (h : RG w lo hi A g) (hh : hi ≤ w.heap.size) (hm : RI w l1 h1 A1 m) (hh1 : h1 ≤ w.heap.size) (hs : RI w l2 h2 A2 S) (hh2 : h2 ≤ w.heap.size) (hl : g.length ≤ 9223372036854775807) (hml : m.length ≤ 9223372036854775807) (hsl : S.length ≤ 9223372036854775807) :
    Calls Try.prog 11 #[.slice A g.length c, .slice A1 m.length c1, .int .i64 wk, .slice A2 S.length c2] w (RetE w (Bs.logL g m wk S)) := by
  have q1 := ValidStarts_any A c g A1 c1 m A2 c2 S wk lo hi l1 h1 l2 h2 w h hh hm hh1 hs hh2 hl hml hsl
  cases hv : Bs.stV g m wk S
  · rw [hv] at q1
    have C1 := Lib.hid q1
    have HV := Lib.hid (Bs.logL_no hv)
    clear q1 hv h hm hs
    go_enter Try.func11, Try.ntmps11
    go_wp2_with fail
    with_reducible refine (C1.out).mono ?_
    rintro e w1 ⟨rfl, hb⟩
    have HB := Lib.hid hb
    clear hb
    go_wp2
    go_ret
    exact RetE.nil HB.out HV.out
  rw [hv] at q1
  have C1 := Lib.hid q1
  obtain ⟨n, hend, hn, hlog⟩ := Bs.logL_end hv
  obtain ⟨hcan, hk, _⟩ := Bs.stV_iff.1 hv
  have hF := valid_fine (Bs.canV_iff.1 hcan).1
  have h8 := Bs.fine_len hF
  have hlen := Bs.clk_len hk
  have hfb := fun i => Bs.clk_at hk i
  have q3 := fun W (hb : Below w.heap.size w W) => beginningsOf_any A2 c2 S l2 h2 W (hs.below hb hh2) (Nat.le_trans hh2 hb.size) (by omega)
  rw [show Bs.full S.length = Bs.full g.length from by rw [hlen]] at q3
  have C3 := Lib.hid q3
  have q4 := fun W (hb : Below w.heap.size w W) => EndTime_any A c g A1 c1 m A2 c2 S wk lo hi l1 h1 l2 h2 W (h.below hb hh) (Nat.le_trans hh hb.size) (hm.below hb hh1) (Nat.le_trans hh1 hb.size) (hs.below hb hh2) (Nat.le_trans hh2 hb.size) hl hml hsl
  rw [hend] at q4
  have C4 := Lib.hid q4
  have C5 := Lib.hid (fun (t : Nat) W (hb : Below w.heap.size w W) => eventsAt_any A c g S (Bs.full g.length) (t : Int) lo hi W (h.below hb hh) (Nat.le_trans hh hb.size) hF hfb)
  have HK := Lib.hid (fun (t : Nat) => show Bs.lgK g S (t + 1) = Bs.lgK g S t ++ (Bs.ovE g S (t : Int) g.length ++ Bs.bgE S (t : Int) g.length) from rfl)
  have HKL := Lib.hid (fun (t : Nat) (ht : t ≤ 221) => Bs.lgK_len8 (g := g) S h8 ht)
  have HPL := Lib.hid (fun (t : Nat) => show (Bs.ovE g S (t : Int) g.length ++ Bs.bgE S (t : Int) g.length).length ≤ 16 from by
    have a := Bs.ovE_len g S (t : Int) g.length
    have b := Bs.bgE_len S (t : Int) g.length
    rw [List.length_append]
    omega)
  have HLOG := Lib.hid hlog
  clear q1 q3 q4 hF hfb h hm hs hv hk hl hml hsl hcan hend hlog hlen
  go_enter Try.func11, Try.ntmps11
  go_wp2_with fail
  with_reducible refine (C1.out).mono ?_
  rintro e w1 ⟨rfl, hb⟩
  have HB := Lib.hid hb
  clear hb
  go_wp2_with fail
  with_reducible refine (C3.out _ HB.out).mono ?_
  rintro e w3 ⟨rfl, hb3⟩
  have HB3 := Lib.hid (HB.out.trans (hb3.mono HB.out.size))
  have hz3 := BG.new w3 z8 0
  have ha3 := HB3.out.alloc HB3.out.size (.cells (bgA z8 0) 57)
  rw [z8A] at hz3 ha3
  have HZ3 := Lib.hid hz3
  have HAZ3 := Lib.hid ha3
  have s3 := HB3.out.size
  clear hb3 C1 C3 hz3 ha3
  go_wp2_with (first | (refine bg_store rfl _ _ rfl w3.heap.size z8 (Bs.giZ S) 0 (Bs.full g.length) rfl rfl HZ3.out ?_; intro w4 h4 o4))
  have HN4 := Lib.hid h4
  have HA4 := Lib.hid (HAZ3.out.trans (o4.below s3))
  have C6 := Lib.hid (C4.out w4 HA4.out)
  clear h4 o4 C4
  with_reducible refine (C6.out).mono ?_
  rintro e w5 ⟨rfl, hb5⟩
  have hlt5 : w3.heap.size < w5.heap.size := Nat.lt_of_lt_of_le HN4.out.lt hb5.size
  have HN5 := Lib.hid ((HN4.out.below hb5 HN4.out.lt).alloc (.cells #[] 33))
  have hA5 := HA4.out.trans (hb5.mono HA4.out.size)
  have s5 := hA5.size
  have HA5 := Lib.hid (hA5.alloc s5 (.cells #[] 33))
  have HO5 := Lib.hid (OE.nil w5 w.heap.size s5)
  have hL0 : Bs.lgK g S 0 = [] := rfl
  clear hb5 hA5 C6 HN4 HA4
  go_wp2
  go_loopw [11, 12] (fun v i wr => ∃ (t b1 c' : Nat) (r : List Bs.E), t ≤ n + 1 ∧ i = .int .i64 (t : Int) ∧ v = .slice (some ⟨b1, 0, none⟩) r.length c' ∧ r = Bs.lgK g S t ∧ OE wr w.heap.size (some ⟨b1, 0, none⟩) c' r ∧ w3.heap.size < b1 ∧ BG wr w3.heap.size (Bs.giZ S) (Bs.full g.length) ∧ Below w.heap.size w wr) (fun _ i _ => n + 2 - (intOf i).toNat)
  case atStart => exact ⟨0, _, _, [], Nat.zero_le _, rfl, rfl, rfl, HO5.out, hlt5, HN5.out, HA5.out⟩
  case round =>
    obtain ⟨t, b1, c', r, ht, rfl, rfl, hr, hO, hb1, hB, hb⟩ := hrel
    clear HN5 HA5 HO5 hL0
    by_cases hlt : t ≤ n
    · have hrl := HKL.out t (by omega)
      rw [← hr] at hrl
      have hpl := HPL.out t
      have HKt := Lib.hid (HK.out t)
      rw [← hr] at HKt
      have C7 := Lib.hid (C5.out t wr hb)
      have HO := Lib.hid hO
      have HBG := Lib.hid hB
      have HB := Lib.hid hb
      have sr := hb.size
      have d1 : decide ((t : Int) ≤ (n : Int)) = true := decide_eq_true (by omega)
      have d1b : decide (t ≤ n) = true := decide_eq_true (by omega)
      clear hr hO hB hb C5 HK HKL HPL
      generalize Bs.ovE g S (t : Int) g.length ++ Bs.bgE S (t : Int) g.length = P at *
      go_wp2_with (first | (refine bg_load rfl _ rfl w3.heap.size (Bs.giZ S) (Bs.full g.length) rfl HBG.out ?_))
      with_reducible refine (C7.out).mono ?_
      rintro e w6 ⟨⟨b6, c6, rfl, ho6⟩, hb6⟩
      have s6 := hb6.size
      have hwb := HBG.out.lt
      have HO6 := Lib.hid (HO.out.below hb6 (Nat.le_refl _))
      have HC6 := Lib.hid (ho6.cellsB)
      have HBG6 := Lib.hid (HBG.out.below hb6 hwb)
      have HB6 := Lib.hid (HB.out.trans (hb6.mono sr))
      clear ho6 hb6 C7 HO HBG HB
      go_wp2_with (first
        | (at_builtin; go_loud (refine push_evsB rfl _ _ rfl w.heap.size b1 c' r P rfl HO6.out b6 c6 rfl HC6.out (by omega) (by omega) ?_; intro b9 c9 w9 ho9 hb9 hg9 hp9; have HO9 := Lib.hid ho9; have HB9 := Lib.hid (HB6.out.trans hb9); have HBG9 := Lib.hid (show BG w9 w3.heap.size (Bs.giZ S) (Bs.full g.length) from (hg9.block w3.heap.size HBG6.out.lt (by simp; omega)).trans HBG6.out); have HP9 := Lib.hid (show w3.heap.size < b9 from by rcases hp9 with e | e <;> omega); clear ho9 hb9 hg9 hp9)))
      go_roundw
      case rel => exact ⟨t + 1, b9, c9, r ++ P, by omega, by go_num, by rw [List.length_append], by rw [HKt.out], HO9.out, HP9.out, HBG9.out, HB9.out⟩
      case measure => simp [intOf]; omega
    · obtain rfl : t = n + 1 := by omega
      have HR := Lib.hid (HLOG.out.trans hr.symm)
      have HO := Lib.hid hO
      have HB := Lib.hid hb
      have d1 : decide (((n + 1 : Nat) : Int) ≤ (n : Int)) = false := decide_eq_false (by omega)
      have d1b : decide ((n : Int) + 1 ≤ (n : Int)) = false := decide_eq_false (by omega)
      have d1c : decide (n + 1 ≤ n) = false := decide_eq_false (by omega)
      clear hr hO hB hb
      go_wp2
      go_ret
      rw [HR.out]
      exact ⟨⟨_, _, rfl, HO.out⟩, HB.out⟩
end Go.Proofs.Ytihgakbopkaemaa
