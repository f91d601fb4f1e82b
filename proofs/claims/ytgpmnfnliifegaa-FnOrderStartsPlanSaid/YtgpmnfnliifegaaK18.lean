/-
  MERGED TEXTS: W60 W61 W62.
-/
import Derived.Test.YtgpmnfnliifegaaK7
import Derived.Test.YtgpmnfnliifegaaK20
import Derived.Test.YtgpmnfnliifegaaK14
import Derived.Test.YtgpmnfnliifegaaW56
namespace Go.Proofs.Ytgpmnfnliifegaa
open Go.RowKit
theorem canFollow_any (A : Option Addr) (c : Nat) (g : List Bs.T) (l : List Int) (v : Nat) (lo hi : Nat) (w : World) (h : RG w lo hi A g) (hF : Bs.fine g = true) (hl : ∀ x ∈ l, 0 ≤ x ∧ x < 8) (hv : v < g.length) :
    Calls Try.prog 115 #[.slice A g.length c, .int .u64 (Bs.bits l : Nat), .int .i64 (v : Int)] w fun e w' => e = .returned (.bool (Bs.okNext g l v)) ∧ w = w' := by
  have hgl := Bs.fine_len hF
  have hd8 := Bs.bits_lt l hl
  have hn8 := Bs.need_eight hF hv
  have ht : (Bs.bits l).testBit v = l.contains (v : Int) := Bs.bits_test l (fun x hx => (hl x hx).1) v
  have hbs : (bits .andNot .u64 ((Bs.bits g[v].needs : Nat) : Int) ((Bs.bits l : Nat) : Int) == 0) = (g[v].needs.all fun x => l.contains x) := by
    have h1 := Bs.bits_lt _ hn8
    rw [u64_andNot_nat _ _ (by omega) (by omega), Bool.eq_iff_iff, ← Bs.bits_sub _ l hn8 hl]
    simp only [beq_iff_eq]
    omega
  have hok := Bs.okNext_eq (g := g) (out := l) hv
  obtain ⟨b, o, N, cN, rfl, h1, h2, q0, q1, q2, q3, hlN, hcN, hN⟩ := h v hv
  have c1 := fun w' => hasTask_any (Bs.bits l) v w' hd8 (by omega)
  have c2 := setOf_any N cN g[v].needs lo hi w hN (by omega) hn8
  rw [ht] at c1
  have i0 : (0 : Int) ≤ (v : Int) := by omega
  have i1 : (v : Int) < (g.length : Int) := by omega
  generalize Bs.okNext g l v = ok at *
  generalize l.contains (v : Int) = b1 at *
  generalize (g[v].needs.all fun x => l.contains x) = b2 at *
  generalize Bs.bits g[v].needs = s at *
  generalize Bs.bits l = d at *
  have C1 := Lib.hid c1
  have C2 := Lib.hid c2
  have HO := Lib.hid hok
  clear c1 c2 hok hN ht
  cases b1
  · go_enter Try.func115, Try.ntmps115
    go_wp2_with fail
    with_reducible refine (C1.out _).mono ?_
    rintro e w2 ⟨rfl, rfl⟩
    go_wp2_with fail
    with_reducible refine (C2.out).mono ?_
    rintro e w2 ⟨rfl, rfl⟩
    go_wp2
    go_ret
    exact ⟨ret_bool (by rw [HO.out]; first | rfl | exact hbs | simp [hbs]), rfl⟩
  · go_enter Try.func115, Try.ntmps115
    go_wp2_with fail
    with_reducible refine (C1.out _).mono ?_
    rintro e w2 ⟨rfl, rfl⟩
    go_wp2
    go_ret
    exact ⟨ret_bool (by rw [HO.out]; rfl), rfl⟩
end Go.Proofs.Ytgpmnfnliifegaa
namespace Go.Proofs.Ytgpmnfnliifegaa
open Go.RowKit
def NxB (g : List Bs.T) (f : Nat → Int) (b : Nat) (time : Int) (k : Nat) (nx : Int) : Prop := (nx = time ∧ ∀ i, i < k → b.testBit i = true → f i + Bs.timeOf g i ≤ time) ∨ (time < nx ∧ nx ≤ 200000 ∧ ∀ i, i < k → b.testBit i = true → time < f i + Bs.timeOf g i → nx ≤ f i + Bs.timeOf g i)
set_option maxHeartbeats 1600000 in
theorem nextOver_any (f : Nat → Int) (b : Nat) (A : Option Addr) (c : Nat) (g : List Bs.T) (time : Int) (lo hi : Nat) (w : World) (h : RG w lo hi A g) (hh : hi ≤ w.heap.size) (hF : Bs.fine g = true) (hb8 : b < 256) (hf : ∀ i, i < 8 → 0 ≤ f i ∧ f i ≤ 100000) (_ht : time ≤ 1000) :
    Calls Try.prog 116 #[.agg (bgA f b), .slice A g.length c, .int .i64 time] w fun e w' => (∃ nx, e = .returned (.int .i64 nx) ∧ NxB g f b time g.length nx) ∧ Below w.heap.size w w' := by
  have hgl := Bs.fine_len hF
  have hb0 := BG.new w f b
  have hal : Below w.heap.size w (w.alloc (.cells (bgA f b) 54)) := (Below.refl _ _).alloc (Nat.le_refl _) _
  have hsz := bgA_size f b
  have HB0 := Lib.hid hb0
  have HL0 := Lib.hid hal
  have HTB := Lib.hid (fun i => Bs.time_b hF i)
  have Hf := Lib.hid hf
  have C2 := Lib.hid (fun (v : Nat) (hv : v < g.length) W (hbW : Below w.heap.size w W) => over_any f b A c g v lo hi W (h.below hbW hh) (Nat.le_trans hh hbW.size) hF hv hf)
  clear hb0 hal h hf hF
  go_enter Try.func116, Try.ntmps116
  go_wp2
  go_loopw [7, 12] (fun s i wr => ∃ (k : Nat) (nx : Int), k ≤ g.length ∧ s = .int .i64 nx ∧ i = .int .i64 k ∧ NxB g f b time k nx ∧ BG wr w.heap.size f b ∧ Below w.heap.size w wr) (fun _ i _ => g.length - (intOf i).toNat)
  case atStart => exact ⟨0, time, Nat.zero_le _, rfl, rfl, .inl ⟨rfl, by intro i hi; omega⟩, HB0.out, HL0.out⟩
  case round =>
    obtain ⟨k, nx, hk, rfl, rfl, hN, hB, hb⟩ := hrel
    clear HB0 HL0
    by_cases hlt : k < g.length
    · have hk8 : k < 8 := by omega
      have k8 := hB.b
      have c1 := fun W => hasTask_any b k W hb8 hk8
      have C3 := Lib.hid (C2.out k hlt)
      have hfk := Hf.out k hk8
      have htk := HTB.out k
      have HN := Lib.hid hN
      have HB := Lib.hid hB
      have HBb := Lib.hid hb
      have sB := hB.lt
      clear hN hB hb C2
      cases hq : b.testBit k
      · rw [hq] at c1
        have C1 := Lib.hid c1
        have HS := Lib.hid (show NxB g f b time (k + 1) nx from by
          rcases HN.out with ⟨h1, h2⟩ | ⟨h1, h2, h3⟩
          · refine .inl ⟨h1, fun i hi hb => ?_⟩
            by_cases e : i = k
            · subst e; rw [hq] at hb; cases hb
            · exact h2 i (by omega) hb
          · refine .inr ⟨h1, h2, fun i hi hb => ?_⟩
            by_cases e : i = k
            · subst e; rw [hq] at hb; cases hb
            · exact h3 i (by omega) hb)
        clear c1 hq
        go_wp2_with fail
        with_reducible refine (C1.out _).mono ?_
        rintro e w2 ⟨rfl, rfl⟩
        go_wp2
        go_roundw
        case rel => exact ⟨k + 1, nx, by omega, rfl, by go_num, HS.out, HB.out, HBb.out⟩
        case measure => simp [intOf]; omega
      · rw [hq] at c1
        have C1 := Lib.hid c1
        obtain ⟨E, hE⟩ : ∃ E, E = f k + Bs.timeOf g k := ⟨_, rfl⟩
        rw [← hE] at C3
        have HEE := Lib.hid hE
        have hEb : 0 ≤ E ∧ E ≤ 200000 := by omega
        have C4 := Lib.hid (C3.out wr HBb.out)
        have HQ := Lib.hid hq
        clear c1 hE hq
        by_cases hle : E ≤ time
        · have d1 : decide (E ≤ time) = true := by simp [hle]
          have HS := Lib.hid (show NxB g f b time (k + 1) nx from by
            rcases HN.out with ⟨h1, h2⟩ | ⟨h1, h2, h3⟩
            · refine .inl ⟨h1, fun i hi hb => ?_⟩
              by_cases e : i = k
              · subst e; rw [← HEE.out]; exact hle
              · exact h2 i (by omega) hb
            · refine .inr ⟨h1, h2, fun i hi hb => ?_⟩
              by_cases e : i = k
              · subst e; rw [← HEE.out]; omega
              · exact h3 i (by omega) hb)
          go_wp2_with fail
          with_reducible refine (C1.out _).mono ?_
          rintro e w2 ⟨rfl, rfl⟩
          go_wp2_with (first | (refine bgw_load (by rfl) _ rfl w.heap.size f b rfl HB.out ?_))
          with_reducible refine (C4.out).mono ?_
          rintro e w2 ⟨rfl, hb2⟩
          have HB2 := Lib.hid (HB.out.below hb2 sB)
          have HBb2 := Lib.hid (HBb.out.trans (hb2.mono HBb.out.size))
          clear hb2
          go_wp2
          go_roundw
          case rel => exact ⟨k + 1, nx, by omega, rfl, by go_num, HS.out, HB2.out, HBb2.out⟩
          case measure => simp [intOf]; omega
        · have d1 : decide (E ≤ time) = false := by simp; omega
          by_cases hnt : nx = time
          · have hq1 : (nx == time) = true := by simp [hnt]
            have HS := Lib.hid (show NxB g f b time (k + 1) E from by
              rcases HN.out with ⟨h1, h2⟩ | ⟨h1, h2, h3⟩
              · refine .inr ⟨by omega, hEb.2, fun i hi hb hlt2 => ?_⟩
                by_cases e : i = k
                · subst e; rw [← HEE.out]; exact Int.le_refl _
                · have := h2 i (by omega) hb; omega
              · omega)
            clear hnt
            go_wp2_with fail
            with_reducible refine (C1.out _).mono ?_
            rintro e w2 ⟨rfl, rfl⟩
            go_wp2_with (first | (refine bgw_load (by rfl) _ rfl w.heap.size f b rfl HB.out ?_))
            with_reducible refine (C4.out).mono ?_
            rintro e w2 ⟨rfl, hb2⟩
            have HB2 := Lib.hid (HB.out.below hb2 sB)
            have HBb2 := Lib.hid (HBb.out.trans (hb2.mono HBb.out.size))
            have C5 := Lib.hid (C3.out w2 HBb2.out)
            clear hb2 C4
            go_wp2_with (first | (refine bg_load rfl _ rfl w.heap.size f b rfl HB2.out ?_))
            with_reducible refine (C5.out).mono ?_
            rintro e w3 ⟨rfl, hb3⟩
            have HB3 := Lib.hid (HB2.out.below hb3 HB2.out.lt)
            have HBb3 := Lib.hid (HBb2.out.trans (hb3.mono HBb2.out.size))
            clear hb3 C5
            go_wp2
            go_roundw
            case rel => exact ⟨k + 1, E, by omega, rfl, by go_num, HS.out, HB3.out, HBb3.out⟩
            case measure => simp [intOf]; omega
          · have hq1 : (nx == time) = false := by simp [hnt]
            by_cases hgt : nx > E
            · have d2 : decide (nx > E) = true := by simp; omega
              have d3 : decide (E < nx) = true := by simp; omega
              have HS := Lib.hid (show NxB g f b time (k + 1) E from by
                rcases HN.out with ⟨h1, h2⟩ | ⟨h1, h2, h3⟩
                · exact absurd h1 hnt
                · refine .inr ⟨by omega, hEb.2, fun i hi hb hlt2 => ?_⟩
                  by_cases e : i = k
                  · subst e; rw [← HEE.out]; exact Int.le_refl _
                  · have := h3 i (by omega) hb hlt2; omega)
              clear hnt hgt
              go_wp2_with fail
              with_reducible refine (C1.out _).mono ?_
              rintro e w2 ⟨rfl, rfl⟩
              go_wp2_with (first | (refine bgw_load (by rfl) _ rfl w.heap.size f b rfl HB.out ?_))
              with_reducible refine (C4.out).mono ?_
              rintro e w2 ⟨rfl, hb2⟩
              have HB2 := Lib.hid (HB.out.below hb2 sB)
              have HBb2 := Lib.hid (HBb.out.trans (hb2.mono HBb.out.size))
              have C5 := Lib.hid (C3.out w2 HBb2.out)
              clear hb2 C4
              go_wp2_with (first | (refine bgw_load (by rfl) _ rfl w.heap.size f b rfl HB2.out ?_))
              with_reducible refine (C5.out).mono ?_
              rintro e w3 ⟨rfl, hb3⟩
              have HB3 := Lib.hid (HB2.out.below hb3 HB2.out.lt)
              have HBb3 := Lib.hid (HBb2.out.trans (hb3.mono HBb2.out.size))
              have C6 := Lib.hid (C3.out w3 HBb3.out)
              clear hb3 C5
              go_wp2_with (first | (refine bg_load rfl _ rfl w.heap.size f b rfl HB3.out ?_))
              with_reducible refine (C6.out).mono ?_
              rintro e w4 ⟨rfl, hb4⟩
              have HB4 := Lib.hid (HB3.out.below hb4 HB3.out.lt)
              have HBb4 := Lib.hid (HBb3.out.trans (hb4.mono HBb3.out.size))
              clear hb4 C6
              go_wp2
              go_roundw
              case rel => exact ⟨k + 1, E, by omega, rfl, by go_num, HS.out, HB4.out, HBb4.out⟩
              case measure => simp [intOf]; omega
            · have d2 : decide (nx > E) = false := by simp; omega
              have d3 : decide (E < nx) = false := by simp; omega
              have HS := Lib.hid (show NxB g f b time (k + 1) nx from by
                rcases HN.out with ⟨h1, h2⟩ | ⟨h1, h2, h3⟩
                · exact absurd h1 hnt
                · refine .inr ⟨h1, h2, fun i hi hb hlt2 => ?_⟩
                  by_cases e : i = k
                  · subst e; rw [← HEE.out]; omega
                  · exact h3 i (by omega) hb hlt2)
              clear hnt hgt
              go_wp2_with fail
              with_reducible refine (C1.out _).mono ?_
              rintro e w2 ⟨rfl, rfl⟩
              go_wp2_with (first | (refine bgw_load (by rfl) _ rfl w.heap.size f b rfl HB.out ?_))
              with_reducible refine (C4.out).mono ?_
              rintro e w2 ⟨rfl, hb2⟩
              have HB2 := Lib.hid (HB.out.below hb2 sB)
              have HBb2 := Lib.hid (HBb.out.trans (hb2.mono HBb.out.size))
              have C5 := Lib.hid (C3.out w2 HBb2.out)
              clear hb2 C4
              go_wp2_with (first | (refine bgw_load (by rfl) _ rfl w.heap.size f b rfl HB2.out ?_))
              with_reducible refine (C5.out).mono ?_
              rintro e w3 ⟨rfl, hb3⟩
              have HB3 := Lib.hid (HB2.out.below hb3 HB2.out.lt)
              have HBb3 := Lib.hid (HBb2.out.trans (hb3.mono HBb2.out.size))
              clear hb3 C5
              go_wp2
              go_roundw
              case rel => exact ⟨k + 1, nx, by omega, rfl, by go_num, HS.out, HB3.out, HBb3.out⟩
              case measure => simp [intOf]; omega
    · obtain rfl : k = g.length := by omega
      have HN := Lib.hid hN
      clear hN
      go_wp2
      go_ret
      exact ⟨⟨nx, rfl, HN.out⟩, hb⟩
set_option maxHeartbeats 1600000 in
theorem withLeast_any (S l : List Int) (f : Nat → Int) (A : Option Addr) (c : Nat) (g : List Bs.T) (A1 : Option Addr) (c1 : Nat) (m : List Int) (wk : Int) (a : Nat) (lo hi l1 h1 : Nat) (w : World) (h : RG w lo hi A g) (hh : hi ≤ w.heap.size) (hm : RI w l1 h1 A1 m) (hh1 : h1 ≤ w.heap.size) (hF : Bs.fine g = true) (hroom : Bs.roomOk m = true) (hw : 1 ≤ wk) (hP : Bs.Pla g m wk S l) (hfS : ∀ i : Nat, (i : Int) ∈ l → f i = Bs.giZ S i) (hf : ∀ i, i < 8 → 0 ≤ f i ∧ f i ≤ 100000) (ha : a < g.length) (hna : (a : Int) ∉ l) (hn : ∀ y ∈ Bs.need g a, y ∈ l) :
    Calls Try.prog 80 #[.agg (bgA f (Bs.bits l)), .slice A g.length c, .slice A1 m.length c1, .int .i64 wk, .int .i64 (a : Int)] w fun e w' => e = .returned (.agg (bgA (Bs.upd f a (Bs.seekT g m wk S a)) (Bs.bits l ||| 1 <<< a))) ∧ Below w.heap.size w w' := by
  have hgl := Bs.fine_len hF
  have ha8 : a < 8 := by omega
  obtain ⟨hL, hR0, hR1, ht0, ht1⟩ := hP.lst hF hroom hw ha hn
  have hsm := hP.sm hF
  have hm3 := Bs.roomOk_len hroom
  have hl8 : ∀ x ∈ l, 0 ≤ x ∧ x < 8 := fun x hx => by have := hP.rg x hx; omega
  have hb8 := Bs.bits_lt l hl8
  have hb8' : Bs.bits l ||| 1 <<< a < 256 := by
    have := Nat.or_lt_two_pow (n := 8) (x := Bs.bits l) (y := 1 <<< a) (by omega) (by rw [Nat.one_shiftLeft]; exact Nat.pow_lt_pow_right (by omega) ha8)
    omega
  have hnov : Bs.needsOv g f a = Bs.needsOv g (Bs.giZ S) a := by
    unfold Bs.needsOv
    apply Bs.maxL_congr
    intro y hy
    have hyr := Bs.need_lt hF ha hy
    unfold Bs.ovF
    rw [hfS y.toNat (by rw [show ((y.toNat : Nat) : Int) = y from by omega]; exact hn y hy)]
  have q1 := fun W (hb : Below w.heap.size w W) => needsOver_any f (Bs.bits l) A c g a lo hi W (h.below hb hh) (Nat.le_trans hh hb.size) hF ha hf
  rw [hnov] at q1
  have hupd : ∀ t : Int, 0 ≤ t → t ≤ 160 → ∀ i, i < 8 → 0 ≤ Bs.upd f a t i ∧ Bs.upd f a t i ≤ 100000 := fun t h1 h2 i hi => by
    unfold Bs.upd
    split
    · omega
    · exact hf i hi
  have q2 := fun (t : Int) W => bgWith_any f (Bs.bits l) a t W hb8 ha8
  have q3 := fun (t : Int) (h1t : 0 ≤ t) (h2t : t ≤ 160) W (hb : Below w.heap.size w W) => bgFit_any (Bs.upd f a t) (Bs.bits l ||| 1 <<< a) A c g A1 c1 m wk lo hi l1 h1 W (h.below hb hh) (Nat.le_trans hh hb.size) (hm.below hb hh1) (Nat.le_trans hh1 hb.size) hF hm3 hb8' (hupd t h1t h2t)
  have q4 := fun (t : Int) (h2t : t ≤ 160) W (hb : Below w.heap.size w W) => nextOver_any f (Bs.bits l) A c g t lo hi W (h.below hb hh) (Nat.le_trans hh hb.size) hF hb8 hf (by omega)
  have HTEST := Lib.hid (fun (t : Int) (h1t : 0 ≤ t) (h2t : t ≤ 160) => hP.test hF hfS ha hna h1t h2t)
  have HJ := Lib.hid (fun (t nx : Int) (h2t : t ≤ 160) hno (hx : NxB g f (Bs.bits l) t g.length nx) => hP.jump hF hroom hw ha h2t hno (show Bs.Nx g S l t nx from by
    have hmem : ∀ i : Nat, (i : Int) ∈ l → i < g.length ∧ (Bs.bits l).testBit i = true := fun i hi => by
      have := hP.rg _ hi
      exact ⟨by omega, by rw [Bs.bits_test l (fun x hx => (hl8 x hx).1)]; simpa using hi⟩
    rcases hx with ⟨h1, h2⟩ | ⟨h1, _, h3⟩
    · exact .inl ⟨h1, fun i hi => by have := hmem i hi; rw [← hfS i hi]; exact h2 i this.1 this.2⟩
    · exact .inr ⟨h1, fun i hi hlt => by have := hmem i hi; rw [← hfS i hi] at hlt ⊢; exact h3 i this.1 this.2 hlt⟩))
  have HGE := Lib.hid hL.ge
  have HFIT := Lib.hid hL.fit
  have HNO := Lib.hid hL.no
  have b1 := (BG.new w f (Bs.bits l)).alloc (.cells (bgA z8 0) 54)
  have b2 := BG.new (w.alloc (.cells (bgA f (Bs.bits l)) 54)) z8 0
  rw [show (w.alloc (.cells (bgA f (Bs.bits l)) 54)).heap.size = w.heap.size + 1 from by simp] at b2
  have hbl : Below w.heap.size w ((w.alloc (.cells (bgA f (Bs.bits l)) 54)).alloc (.cells (bgA z8 0) 54)) := ((Below.refl _ _).alloc (Nat.le_refl _) _).alloc (by simp) _
  have hsz := bgA_size f (Bs.bits l)
  rw [z8A] at b1 b2 hbl
  have HB1 := Lib.hid b1
  have HB2 := Lib.hid b2
  have HBL := Lib.hid hbl
  have hR160 : Bs.seekT g m wk S a ≤ 160 := by omega
  obtain ⟨R, hR⟩ : ∃ R, R = Bs.seekT g m wk S a := ⟨_, rfl⟩
  rw [← hR] at hR0 hR1 hR160 HGE HFIT HNO ⊢
  have htR := HGE.out
  generalize Bs.needsOv g (Bs.giZ S) a = t0 at *
  have C1 := Lib.hid q1
  have C2 := Lib.hid q2
  have C3 := Lib.hid q3
  have C4 := Lib.hid q4
  have hne12 : w.heap.size ≠ w.heap.size + 1 := by omega
  clear q1 q2 q3 q4 hL h hm hF hroom hm3 hP hfS hf hn hl8 hnov hupd b1 b2 hbl hR hna HGE
  go_enter Try.func80, Try.ntmps80
  go_wp2_with (first | (refine bg_load rfl _ rfl w.heap.size f (Bs.bits l) rfl HB1.out ?_))
  with_reducible refine (C1.out _ HBL.out).mono ?_
  rintro e w1 ⟨rfl, hb⟩
  have H1 := Lib.hid (HB1.out.below hb HB1.out.lt)
  have H2 := Lib.hid (HB2.out.below hb HB2.out.lt)
  have H3 := Lib.hid (HBL.out.trans (hb.mono HBL.out.size))
  clear hb C1 HB1 HB2 HBL
  go_wp2
  go_loopw [11] (fun i wr => ∃ (t : Int), i = .int .i64 t ∧ t0 ≤ t ∧ t ≤ R ∧ BG wr w.heap.size f (Bs.bits l) ∧ BG wr (w.heap.size + 1) z8 0 ∧ Below w.heap.size w wr) (fun i _ => (R - intOf i).toNat)
  case atStart => exact ⟨t0, rfl, Int.le_refl _, htR, H1.out, H2.out, H3.out⟩
  case round =>
    clear H1 H2 H3
    obtain ⟨t, rfl, h1t, h2t, hB1, hB2, hb⟩ := hrel
    have HB1 := Lib.hid hB1
    have HB2 := Lib.hid hB2
    have HBb := Lib.hid hb
    have sr := hb.size
    clear hB1 hB2 hb
    have C5 := Lib.hid (C2.out t wr)
    go_wp2_with (first | (refine bg_load rfl _ rfl w.heap.size f (Bs.bits l) rfl HB1.out ?_))
    with_reducible refine (C5.out).mono ?_
    rintro e w2 ⟨rfl, hb2⟩
    have H12 := Lib.hid (HB1.out.below hb2 HB1.out.lt)
    have H22 := Lib.hid (HB2.out.below hb2 HB2.out.lt)
    have HBb2 := Lib.hid (HBb.out.trans (hb2.mono sr))
    have c6 := C3.out t (by omega) (by omega) w2 HBb2.out
    rw [HTEST.out t (by omega) (by omega)] at c6
    clear hb2 C5 HB1 HB2 HBb
    cases hv : Bs.fitW g m wk S a t
    · rw [hv] at c6
      have C6 := Lib.hid c6
      have HV := Lib.hid hv
      clear c6 hv
      go_wp2_with fail
      with_reducible refine (C6.out).mono ?_
      rintro e w3 ⟨rfl, hb3⟩
      have H13 := Lib.hid (H12.out.below hb3 H12.out.lt)
      have H23 := Lib.hid (H22.out.below hb3 H22.out.lt)
      have HBb3 := Lib.hid (HBb2.out.trans (hb3.mono HBb2.out.size))
      have C7 := Lib.hid (C4.out t (by omega) w3 HBb3.out)
      clear hb3 C6 H12 H22 HBb2
      go_wp2_with (first | (refine bg_load rfl _ rfl w.heap.size f (Bs.bits l) rfl H13.out ?_))
      with_reducible refine (C7.out).mono ?_
      rintro e w4 ⟨⟨nx, rfl, hnx⟩, hb4⟩
      obtain ⟨hlt, hnf⟩ := HJ.out t nx (by omega) HV.out hnx
      have hnR : nx ≤ R := by
        rcases Int.lt_or_le R nx with e | e
        · exfalso
          have := hnf R h2t e hR160
          rw [HFIT.out] at this
          cases this
        · exact e
      have H14 := Lib.hid (H13.out.below hb4 H13.out.lt)
      have H24 := Lib.hid (H23.out.below hb4 H23.out.lt)
      have HBb4 := Lib.hid (HBb3.out.trans (hb4.mono HBb3.out.size))
      clear hb4 C7 hnx hnf H13 H23 HBb3
      go_wp2
      go_roundw
      case rel => exact ⟨nx, rfl, by omega, hnR, H14.out, H24.out, HBb4.out⟩
      case measure => simp [intOf]; omega
    · have htRe : t = R := by
        rcases Int.lt_or_le t R with e | e
        · exfalso
          have := HNO.out t h1t e
          rw [hv] at this
          cases this
        · omega
      rw [hv] at c6
      have C6 := Lib.hid c6
      clear c6 hv HTEST HJ HNO HFIT C3 C4
      subst htRe
      go_wp2_with fail
      with_reducible refine (C6.out).mono ?_
      rintro e w3 ⟨rfl, hb3⟩
      have H13 := Lib.hid (H12.out.below hb3 H12.out.lt)
      have H23 := Lib.hid (H22.out.below hb3 H22.out.lt)
      have HBb3 := Lib.hid (HBb2.out.trans (hb3.mono HBb2.out.size))
      have C7 := Lib.hid (C2.out t w3)
      clear hb3 C6 H12 H22 HBb2
      go_wp2_with (first | (refine bg_load rfl _ rfl w.heap.size f (Bs.bits l) rfl H13.out ?_))
      with_reducible refine (C7.out).mono ?_
      rintro e w4 ⟨rfl, hb4⟩
      have H24 := Lib.hid (H23.out.below hb4 H23.out.lt)
      have HBb4 := Lib.hid (HBb3.out.trans (hb4.mono HBb3.out.size))
      clear hb4 C7 H13 H23 HBb3
      go_wp2_with (first | (refine bg_store rfl _ _ rfl (w.heap.size + 1) z8 (Bs.upd f a t) 0 (Bs.bits l ||| 1 <<< a) rfl rfl H24.out ?_; intro w9 h9 o9))
      exact bodyPost_ret (bg_ret rfl _ _ (w.heap.size + 1) (Bs.upd f a t) (Bs.bits l ||| 1 <<< a) rfl h9) rfl ⟨rfl, HBb4.out.trans (o9.below (Nat.le_succ _))⟩
end Go.Proofs.Ytgpmnfnliifegaa
namespace Go.Proofs.Ytgpmnfnliifegaa
open Go.RowKit
theorem canSearch_any (A : Option Addr) (c : Nat) (g : List Bs.T) (A1 : Option Addr) (c1 : Nat) (m : List Int) (wk : Int) (lo hi l1 h1 : Nat) (w : World) (h : RG w lo hi A g) (hh : hi ≤ w.heap.size) (hm : RI w l1 h1 A1 m) (hh1 : h1 ≤ w.heap.size) (hl : g.length ≤ 9223372036854775807) (hml : m.length ≤ 9223372036854775807) :
    Calls Try.prog 68 #[.slice A g.length c, .slice A1 m.length c1, .int .i64 wk] w fun e w' => e = .returned (.bool (Bs.seaV g m wk)) ∧ Below w.heap.size w w' := by
  have q1 := canPlan_any A c g A1 c1 m wk lo hi l1 h1 w h hh hm hh1 hl hml
  have HE := Lib.hid (show Bs.seaV g m wk = (Bs.canV g m wk && decide (g.length ≤ 5)) from rfl)
  clear h hm
  generalize Bs.canV g m wk = v1 at *
  have C1 := Lib.hid q1
  clear q1
  by_cases h5 : g.length ≤ 5
  · have d1 : decide ((g.length : Int) ≤ 5) = true := by simp; omega
    have d2 : decide (g.length ≤ 5) = true := by simp [h5]
    go_enter Try.func68, Try.ntmps68
    go_wp2_with fail
    with_reducible refine (C1.out).mono ?_
    rintro e w1 ⟨rfl, hb⟩
    have HB := Lib.hid hb
    clear hb
    go_wp2
    go_ret
    exact ⟨ret_bool (by rw [HE.out, d2, Bool.and_true]), HB.out⟩
  · have d1 : decide ((g.length : Int) ≤ 5) = false := by simp; omega
    have d2 : decide (g.length ≤ 5) = false := by simp [h5]
    go_enter Try.func68, Try.ntmps68
    go_wp2
    go_ret
    exact ⟨ret_bool (by rw [HE.out, d2, Bool.and_false]), Below.refl _ _⟩
set_option maxHeartbeats 800000 in
theorem isOrder_any (A : Option Addr) (c : Nat) (g : List Bs.T) (A1 : Option Addr) (c1 : Nat) (l : List Int) (lo hi l1 h1 : Nat) (w : World) (h : RG w lo hi A g) (hm : RI w l1 h1 A1 l) (hF : Bs.fine g = true) :
    Calls Try.prog 79 #[.slice A g.length c, .slice A1 l.length c1] w fun e w' => e = .returned (.bool (Bs.isOrd g l)) ∧ w = w' := by
  have hgl := Bs.fine_len hF
  by_cases hlen : l.length = g.length
  · have hq : ((l.length : Int) != (g.length : Int)) = false := by simp [hlen]
    have C1 := Lib.hid (fun (x : Int) => isTask_any A g.length c x w (by omega))
    have C2 := Lib.hid (fun (L : List Int) (v : Nat) (hL : ∀ x ∈ L, 0 ≤ x ∧ x < 8) (hv : v < g.length) => canFollow_any A c g L v lo hi w h hF hL hv)
    have HM := Lib.hid hm
    have hl8 : l.length ≤ 8 := by omega
    have HNO := Lib.hid (fun k (hk : k < l.length) (ht : Bs.tOk g l k = false) => Bs.isOrd_no (g := g) hk ht)
    have HYES := Lib.hid (fun ht => Bs.isOrd_yes (g := g) (l := l) hlen ht)
    have HIN := Lib.hid (fun k (hk : k ≤ l.length) ht => Bs.tOk_in (g := g) (l := l) hgl hk ht)
    have HLL := Lib.hid hlen
    clear h hm hF hlen
    go_enter Try.func79, Try.ntmps79
    go_wp2
    go_loop [5, 15] (fun s i => ∃ (k : Nat), k ≤ l.length ∧ s = .int .u64 ((Bs.bits (l.take k) : Nat) : Int) ∧ i = .int .i64 k ∧ ∀ j, j < k → Bs.tOk g l j = true) (fun _ i => l.length - (intOf i).toNat)
    case atStart => exact ⟨0, Nat.zero_le _, rfl, rfl, fun j hj => by omega⟩
    case round =>
      obtain ⟨k, hk, rfl, rfl, hT⟩ := hrel
      by_cases hlt : k < l.length
      · obtain ⟨b, o, rfl, _, _, hc⟩ := HM.out.at_ hlt
        have hin := HIN.out k hk hT
        have hd8 := Bs.bits_lt _ hin
        have hsn := Bs.bits_snoc (l.take k) l[k]
        rw [← List.take_succ_eq_append_getElem hlt] at hsn
        have htk : Bs.tOk g l k = (decide (0 ≤ l[k] ∧ l[k] ≤ (g.length : Int) - 1) && Bs.okNext g (l.take k) l[k].toNat) := by unfold Bs.tOk; rw [Bs.giZ_at hlt]
        have q1 := C1.out l[k]
        have q2 := fun v hv => C2.out (l.take k) v hin hv
        have HT := Lib.hid hT
        have HT2 := Lib.hid (fun (he : Bs.tOk g l k = true) => show ∀ j, j < k + 1 → Bs.tOk g l j = true from fun j hj => by
          by_cases e : j = k
          · subst e; exact he
          · exact hT j (by omega))
        have HN := Lib.hid (HNO.out k hlt)
        obtain ⟨x, hx⟩ : ∃ x, x = l[k] := ⟨_, rfl⟩
        rw [← hx] at hc hsn htk q1
        clear hx hin hT
        by_cases hr : 0 ≤ x ∧ x < (g.length : Int)
        · have d1 : decide (0 ≤ x ∧ x < (g.length : Int)) = true := by simp [hr]
          have d2 : decide (0 ≤ x ∧ x ≤ (g.length : Int) - 1) = true := by simp; omega
          rw [d1] at q1
          rw [d2, Bool.true_and] at htk
          obtain ⟨v, rfl⟩ : ∃ v : Nat, x = (v : Int) := ⟨x.toNat, by omega⟩
          rw [Int.toNat_natCast] at hsn htk
          have hv : v < g.length := by omega
          have q3 := q2 v hv
          have hor := or_pow (Bs.bits (l.take k)) v hd8 (by omega)
          generalize Bs.bits (l.take k) = d at *
          generalize Bs.okNext g (l.take k) v = ok at *
          have Q1 := Lib.hid q1
          have Q3 := Lib.hid q3
          have HTK := Lib.hid htk
          have HOR := Lib.hid hor
          have HSN := Lib.hid hsn
          clear q1 q2 q3 htk hor hsn d1 d2
          cases ok
          · go_wp2_with fail
            with_reducible refine (Q1.out).mono ?_
            rintro e w2 ⟨rfl, rfl⟩
            go_wp2_with fail
            with_reducible refine (Q3.out).mono ?_
            rintro e w2 ⟨rfl, rfl⟩
            go_wp2
            go_ret
            exact ⟨ret_bool (HN.out HTK.out).symm, rfl⟩
          · go_wp2_with fail
            with_reducible refine (Q1.out).mono ?_
            rintro e w2 ⟨rfl, rfl⟩
            go_wp2_with fail
            with_reducible refine (Q3.out).mono ?_
            rintro e w2 ⟨rfl, rfl⟩
            go_wp2
            go_round
            case rel => exact ⟨k + 1, by omega, by rw [HSN.out, ← HOR.out], by go_num, HT2.out HTK.out⟩
            case measure => simp [intOf]; omega
        · have d1 : decide (0 ≤ x ∧ x < (g.length : Int)) = false := by simp only [decide_eq_false_iff_not]; exact hr
          have d2 : decide (0 ≤ x ∧ x ≤ (g.length : Int) - 1) = false := by simp only [decide_eq_false_iff_not]; omega
          rw [d1] at q1
          rw [d2, Bool.false_and] at htk
          have Q1 := Lib.hid q1
          have HTK := Lib.hid htk
          clear q1 q2 htk hsn d1 d2 hr
          go_wp2_with fail
          with_reducible refine (Q1.out).mono ?_
          rintro e w2 ⟨rfl, rfl⟩
          go_wp2
          go_ret
          exact ⟨ret_bool (HN.out HTK.out).symm, rfl⟩
      · obtain rfl : k = l.length := by omega
        have HT := Lib.hid hT
        clear hT
        go_wp2
        go_ret
        exact ⟨ret_bool (HYES.out HT.out).symm, rfl⟩
  · have hq : ((l.length : Int) != (g.length : Int)) = true := by simp; omega
    have HE := Lib.hid (Bs.isOrd_len (g := g) hlen)
    clear h hm hF hlen
    go_enter Try.func79, Try.ntmps79
    go_wp2
    go_ret
    exact ⟨ret_bool HE.out.symm, rfl⟩
set_option maxHeartbeats 800000 in
theorem bgList_any (f : Nat → Int) (b : Nat) (A : Option Addr) (c : Nat) (g : List Bs.T) (w : World) (hg : g.length ≤ 8) :
    Calls Try.prog 43 #[.agg (bgA f b), .slice A g.length c] w (RetI w ((List.range g.length).map f)) := by
  have b1 := BG.new w f b
  have hbl : Below w.heap.size w (w.alloc (.cells (bgA f b) 54)) := (Below.refl _ _).alloc (Nat.le_refl _) _
  have hmk := make_ints g.length (by omega) (w.alloc (.cells (bgA f b) 54))
  have hsz : (w.alloc (.cells (bgA f b) 54)).heap.size = w.heap.size + 1 := by simp
  have a1 : Arr ((w.alloc (.cells (bgA f b) 54)).alloc (.cells (intsA (List.replicate g.length 0)) 3)) (w.heap.size + 1) (Bs.listK f g.length 0) := by
    rw [← hsz, Bs.listK_zero]
    exact Blk.new _ 3 _
  rw [hsz] at hmk
  have HB1 := Lib.hid (b1.alloc (.cells (intsA (List.replicate g.length 0)) 3))
  have HA1 := Lib.hid a1
  have HBL := Lib.hid (hbl.alloc (by omega) (.cells (intsA (List.replicate g.length 0)) 3))
  have hbs := bgA_size f b
  clear b1 hbl a1
  generalize (.cells (intsA (List.replicate g.length 0)) 3 : Obj) = ob at *
  go_enter Try.func43, Try.ntmps43
  go_wp2
  go_loopw [12] (fun i wr => ∃ (k : Nat), k ≤ g.length ∧ i = .int .i64 k ∧ BG wr w.heap.size f b ∧ Arr wr (w.heap.size + 1) (Bs.listK f g.length k) ∧ Below w.heap.size w wr) (fun i _ => g.length - (intOf i).toNat)
  case atStart => exact ⟨0, Nat.zero_le _, rfl, HB1.out, HA1.out, HBL.out⟩
  case round =>
    clear HB1 HA1 HBL hmk
    obtain ⟨k, hk, rfl, hB, hA, hb⟩ := hrel
    by_cases hlt : k < g.length
    · have hll := Bs.listK_len (f := f) (n := g.length) (k := k) (by omega)
      have kv := hB.at_ (i := k) (by omega)
      have kc := hA.cell (i := k) (by omega)
      have kf := hA.frozen k
      have hs := hA.set_ k (f k)
      rw [Bs.listK_succ hlt] at hs
      have HS := Lib.hid hs
      have HB := Lib.hid hB
      have HBb := Lib.hid hb
      have i0 : (0 : Int) ≤ (k : Int) := by omega
      have i1 : (k : Int) < (g.length : Int) := by omega
      have i2 : (k : Int) < 8 := by omega
      clear hs hA hB hb hll
      go_wp2
      go_roundw
      case rel => exact ⟨k + 1, by omega, by go_num, HB.out.far (by simp) _, HS.out, HBb.out.setCell (by simp) _⟩
      case measure => simp [intOf]; omega
    · obtain rfl : k = g.length := by omega
      have hO := hA.oi (B := w.heap.size) (by omega) (by rw [Bs.listK_len (Nat.le_refl _)]; omega)
      rw [Bs.listK_len (Nat.le_refl _), Bs.listK_all] at hO
      have hll : ((List.range g.length).map f).length = g.length := by simp
      have HO := Lib.hid hO
      have HB := Lib.hid hb
      clear hA hO hB hb
      go_wp2
      go_ret
      refine ⟨⟨_, _, ?_, HO.out⟩, HB.out⟩
      rw [hll]
      rfl
set_option maxHeartbeats 1600000 in
theorem OrderStarts_any (A : Option Addr) (c : Nat) (g : List Bs.T) (A1 : Option Addr) (c1 : Nat) (m : List Int) (A2 : Option Addr) (c2 : Nat) (l : List Int) (wk : Int) (lo hi l1 h1 l2 h2 : Nat) (w : World) (h : RG w lo hi A g) (hh : hi ≤ w.heap.size) (hm : RI w l1 h1 A1 m) (hh1 : h1 ≤ w.heap.size) (hs : RI w l2 h2 A2 l) (hh2 : h2 ≤ w.heap.size) (hl : g.length ≤ 9223372036854775807) (hml : m.length ≤ 9223372036854775807) (_hsl : l.length ≤ 9223372036854775807) :
    Calls Try.prog 33 #[.slice A g.length c, .slice A1 m.length c1, .int .i64 wk, .slice A2 l.length c2] w (RetI w (Bs.osL g m wk l)) := by
  have q1 := canSearch_any A c g A1 c1 m wk lo hi l1 h1 w h hh hm hh1 hl hml
  cases hv : Bs.seaV g m wk
  · rw [hv] at q1
    have C1 := Lib.hid q1
    have HV := Lib.hid (Bs.osL_no1 (l := l) hv)
    clear q1 hv h hm hs
    go_enter Try.func33, Try.ntmps33
    go_wp2_with fail
    with_reducible refine (C1.out).mono ?_
    rintro e w1 ⟨rfl, hb⟩
    have HB := Lib.hid hb
    clear hb
    go_wp2
    go_ret
    exact RetI.nil HB.out HV.out
  have hcv : Bs.canV g m wk = true := by unfold Bs.seaV at hv; rw [Bool.and_eq_true] at hv; exact hv.1
  obtain ⟨hval, hroom, hw1, hw4⟩ := Bs.canV_iff.1 hcv
  have hF := valid_fine hval
  have h8 := Bs.fine_len hF
  have q2 := fun W (hb : Below w.heap.size w W) => isOrder_any A c g A2 c2 l lo hi l2 h2 W (h.below hb hh) (hs.below hb hh2) hF
  rw [hv] at q1
  have C1 := Lib.hid q1
  cases ho : Bs.isOrd g l
  · rw [ho] at q2
    have C2 := Lib.hid q2
    have HV := Lib.hid (Bs.osL_no2 (m := m) (wk := wk) ho)
    clear q1 q2 hv h hm hs hcv hval hroom hF ho
    go_enter Try.func33, Try.ntmps33
    go_wp2_with fail
    with_reducible refine (C1.out).mono ?_
    rintro e w1 ⟨rfl, hb⟩
    have HB := Lib.hid hb
    have C3 := Lib.hid (C2.out w1 hb)
    clear hb C2
    go_wp2_with fail
    with_reducible refine (C3.out).mono ?_
    rintro e w2 ⟨rfl, rfl⟩
    go_wp2
    go_ret
    exact RetI.nil HB.out HV.out
  rw [ho] at q2
  have C2 := Lib.hid q2
  have HV := Lib.hid (Bs.osL_yes (m := m) (wk := wk) hv ho)
  obtain ⟨hlen, hat⟩ := Bs.isOrd_at ho
  have hl8 : l.length ≤ 8 := by omega
  have HP := Lib.hid (fun k (hk : k ≤ l.length) => Bs.Pla.all (m := m) (wk := wk) hF hroom hw1 ho k hk)
  have hP := HP.out
  have C4 := Lib.hid (fun (k : Nat) (hk : k < l.length) (f : Nat → Int) (hfS : ∀ i : Nat, (i : Int) ∈ l.take k → f i = Bs.giZ (Bs.osK g m wk l k) i) (hf : ∀ i, i < 8 → 0 ≤ f i ∧ f i ≤ 100000) W (hb : Below w.heap.size w W) => show Calls Try.prog 80 #[.agg (bgA f (Bs.bits (l.take k))), .slice A g.length c, .slice A1 m.length c1, .int .i64 wk, .int .i64 l[k]] W fun e w' => ∃ f', e = .returned (.agg (bgA f' (Bs.bits (l.take (k + 1))))) ∧ Below W.heap.size W w' ∧ (∀ i : Nat, (i : Int) ∈ l.take (k + 1) → f' i = Bs.giZ (Bs.osK g m wk l (k + 1)) i) ∧ (∀ i, i < 8 → 0 ≤ f' i ∧ f' i ≤ 100000) from by
    obtain ⟨hx, hok⟩ := hat k hk
    have hpk := hP k (by omega)
    have hnot := Bs.ok_not hok
    have hneed : ∀ y ∈ Bs.need g l[k].toNat, y ∈ l.take k := by
      intro y hy
      unfold Bs.okNext at hok
      rw [Bool.and_eq_true, List.all_eq_true] at hok
      simpa using hok.2 y hy
    have hos := Bs.osK_succ (g := g) (m := m) (wk := wk) hk
    have htk := List.take_succ_eq_append_getElem hk
    have hcs : ((l[k].toNat : Nat) : Int) = l[k] := by omega
    have hstep : Bs.osStep g m wk (Bs.osK g m wk l k) l[k] = (Bs.osK g m wk l k).set l[k].toNat (Bs.seekT g m wk (Bs.osK g m wk l k) l[k].toNat) := rfl
    rw [hstep] at hos
    rw [hcs] at hnot
    have hnm : l[k] ∉ l.take k := by simpa using hnot
    obtain ⟨hL, hR0, hR1, _, _⟩ := hpk.lst hF hroom hw1 (a := l[k].toNat) (by omega) hneed
    have hsm := hpk.sm hF
    have hsl := hpk.len
    have q := withLeast_any (Bs.osK g m wk l k) (l.take k) f A c g A1 c1 m wk l[k].toNat lo hi l1 h1 W (h.below hb hh) (Nat.le_trans hh hb.size) (hm.below hb hh1) (Nat.le_trans hh1 hb.size) hF hroom hw1 hpk hfS hf (by omega) (by rw [hcs]; exact hnm) hneed
    have hbs := Bs.bits_snoc (l.take k) l[k]
    rw [← htk] at hbs
    rw [hcs, ← hbs] at q
    refine q.mono ?_
    rintro e w' ⟨rfl, hb'⟩
    refine ⟨_, rfl, hb', fun i hi => ?_, fun i hi => ?_⟩
    · rw [hos, Bs.giZ_set]
      unfold Bs.upd
      by_cases e : i = l[k].toNat
      · rw [if_pos e, if_pos ⟨e, by rw [hsl]; omega⟩]
      · rw [if_neg e, if_neg (fun h' => e h'.1)]
        refine hfS i ?_
        rw [htk, List.mem_append, List.mem_singleton] at hi
        exact hi.resolve_right (by omega)
    · unfold Bs.upd
      split
      · omega
      · exact hf i hi)
  have C5 := Lib.hid (fun f b W => bgList_any f b A c g W h8)
  have HE := Lib.hid (fun (f : Nat → Int) (hfS : ∀ i : Nat, (i : Int) ∈ l.take l.length → f i = Bs.giZ (Bs.osK g m wk l l.length) i) => show (List.range g.length).map f = Bs.osL g m wk l from by
    have hp := hP l.length (Nat.le_refl _)
    rw [List.take_length] at hp hfS
    rw [HV.out, ← hp.len]
    exact Bs.list_eq (fun i hi => hfS i (Bs.full_mem hp.nd hp.rg hlen (by rw [← hp.len]; exact hi))))
  have HS := Lib.hid hs
  clear q1 q2 hv h hm hs hcv hval hroom hF ho hP HP hat HV hlen
  go_enter Try.func33, Try.ntmps33
  go_wp2_with fail
  with_reducible refine (C1.out).mono ?_
  rintro e w1 ⟨rfl, hb⟩
  have HB := Lib.hid hb
  have C3 := Lib.hid (C2.out w1 hb)
  have s1 := hb.size
  have b1 := BG.new w1 z8 0
  rw [z8A] at b1
  have HB1 := Lib.hid b1
  have HBL := Lib.hid (hb.alloc s1 (.cells #[.int .i64 0, .int .i64 0, .int .i64 0, .int .i64 0, .int .i64 0, .int .i64 0, .int .i64 0, .int .i64 0, .int .u64 0] 54))
  clear hb C2 C1 b1
  go_wp2_with fail
  with_reducible refine (C3.out).mono ?_
  rintro e w2 ⟨rfl, rfl⟩
  clear C3
  go_wp2_with (first | (refine bg_store rfl _ _ rfl w1.heap.size z8 z8 0 0 rfl rfl HB1.out ?_; intro w9 h9 o9))
  go_loopw [26] (fun i wr => ∃ (k : Nat) (f : Nat → Int), k ≤ l.length ∧ i = .int .i64 k ∧ BG wr w1.heap.size f (Bs.bits (l.take k)) ∧ (∀ i : Nat, (i : Int) ∈ l.take k → f i = Bs.giZ (Bs.osK g m wk l k) i) ∧ (∀ i, i < 8 → 0 ≤ f i ∧ f i ≤ 100000) ∧ Below w.heap.size w wr) (fun i _ => l.length - (intOf i).toNat)
  case atStart => exact ⟨0, z8, Nat.zero_le _, rfl, h9, fun i hi => by simp at hi, fun i _ => by unfold z8; omega, HBL.out.trans (o9.below s1)⟩
  case round =>
    clear HB HB1 HBL h9 o9
    obtain ⟨k, f, hk, rfl, hB, hfS, hf, hb⟩ := hrel
    have sb := hB.lt
    have sr := hb.size
    by_cases hlt : k < l.length
    · obtain ⟨b, o, rfl, _, _, hc⟩ := (HS.out.below hb hh2).at_ hlt
      have C6 := Lib.hid (C4.out k hlt f hfS hf wr hb)
      have HB := Lib.hid hB
      have HBb := Lib.hid hb
      clear C4 hfS hf hB hb
      go_wp2_with (first | (refine bg_load rfl _ rfl w1.heap.size f (Bs.bits (l.take k)) rfl HB.out ?_))
      with_reducible refine (C6.out).mono ?_
      rintro e w3 ⟨f', rfl, hb3, hf1, hf2⟩
      have HB3 := Lib.hid (HB.out.below hb3 sb)
      have HBb3 := Lib.hid (HBb.out.trans (hb3.mono sr))
      have HF1 := Lib.hid hf1
      have HF2 := Lib.hid hf2
      clear hb3 hf1 hf2 C6
      go_wp2_with (first | (refine bg_store rfl _ _ rfl w1.heap.size f f' (Bs.bits (l.take k)) (Bs.bits (l.take (k + 1))) rfl rfl HB3.out ?_; intro w9 h9 o9))
      go_roundw
      case rel => exact ⟨k + 1, f', by omega, by go_num, h9, HF1.out, HF2.out, HBb3.out.trans (o9.below s1)⟩
      case measure => simp [intOf]; omega
    · obtain rfl : k = l.length := by omega
      have he := HE.out f hfS
      have c5 := C5.out f (Bs.bits (l.take l.length)) wr
      rw [he, List.take_length] at c5
      rw [List.take_length] at hB
      have C6 := Lib.hid c5
      have HB := Lib.hid hB
      have HBb := Lib.hid hb
      clear c5 he hB hb hfS hf C4 HE
      go_wp2_with (first | (refine bg_load rfl _ rfl w1.heap.size f (Bs.bits l) rfl HB.out ?_))
      with_reducible refine (C6.out).mono ?_
      intro e w3 hr
      have hr2 := RetI.after HBb.out hr rfl
      obtain ⟨⟨A3, c3, rfl, ho3⟩, hb3⟩ := hr2
      go_wp2
      go_ret
      exact ⟨⟨A3, c3, rfl, ho3⟩, hb3⟩
end Go.Proofs.Ytgpmnfnliifegaa
