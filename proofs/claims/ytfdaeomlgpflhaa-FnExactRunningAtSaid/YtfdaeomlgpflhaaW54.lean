/-
  WALKS: valid beginnings, of the program.
-/
import Derived.Test.YtfdaeomlgpflhaaW53
namespace Go.Proofs.Ytfdaeomlgpflhaa
open Go.RowKit
theorem needAll_no {g : List Bs.T} {m S : List Int} {wk : Int} {k : Nat} (hk : k < g.length) (h : Bs.needOkB g S k = false) : Bs.stV g m wk S = false := by
  unfold Bs.stV
  rw [Bs.stK_split, List.all_eq_false.2 ⟨k, by simp [hk], by simp [h]⟩]
  simp
theorem needAll_yes {g : List Bs.T} {m S : List Int} {wk : Int} (h1 : Bs.canV g m wk = true) (h2 : Bs.clkV g S = true) (h : ∀ k, k < g.length → Bs.needOkB g S k = true) : Bs.stV g m wk S = Bs.fitB g m wk (Bs.giZ S) (Bs.full g.length) := by
  rw [Bs.stV_yes h1 h2, Bs.stK_split, List.all_eq_true.2 (fun x hx => h x (by simpa using hx))]
  rfl
theorem giZ_b {g : List Bs.T} {S : List Int} (h : Bs.clkV g S = true) : ∀ i, i < 8 → 0 ≤ Bs.giZ S i ∧ Bs.giZ S i ≤ 100000 := fun i _ => by
  have := Bs.clk_at h i
  omega
set_option maxHeartbeats 1600000 in
theorem ValidStarts_any (A : Option Addr) (c : Nat) (g : List Bs.T) (A1 : Option Addr) (c1 : Nat) (m : List Int) (A2 : Option Addr) (c2 : Nat) (S : List Int) (wk : Int) (lo hi l1 h1 l2 h2 : Nat) (w : World) (h : RG w lo hi A g) (hh : hi ≤ w.heap.size) (hm : RI w l1 h1 A1 m) (hh1 : h1 ≤ w.heap.size) (hs : RI w l2 h2 A2 S) (hh2 : h2 ≤ w.heap.size) (hl : g.length ≤ 9223372036854775807) (hml : m.length ≤ 9223372036854775807) (hsl : S.length ≤ 9223372036854775807) :
    Calls Try.prog 16 #[.slice A g.length c, .slice A1 m.length c1, .int .i64 wk, .slice A2 S.length c2] w fun e w' => e = .returned (.bool (Bs.stV g m wk S)) ∧ Below w.heap.size w w' := by
  have q1 := canPlan_any A c g A1 c1 m wk lo hi l1 h1 w h hh hm hh1 hl hml
  cases hv : Bs.canV g m wk
  · rw [hv] at q1
    have C1 := Lib.hid q1
    have HV := Lib.hid (Bs.stV_no1 (S := S) hv)
    clear q1 hv h hm hs
    go_enter Try.func16, Try.ntmps16
    go_wp2_with fail
    with_reducible refine (C1.out).mono ?_
    rintro e w1 ⟨rfl, hb⟩
    have HB := Lib.hid hb
    clear hb
    go_wp2
    go_ret
    exact ⟨ret_bool HV.out.symm, HB.out⟩
  rw [hv] at q1
  have C1 := Lib.hid q1
  have q2 := fun W (hb : Below w.heap.size w W) => validClocks_any A c g A2 c2 S l2 h2 W (hs.below hb hh2) hl hsl
  cases hk : Bs.clkV g S
  · rw [hk] at q2
    have C2 := Lib.hid q2
    have HV := Lib.hid (Bs.stV_no2 (m := m) (wk := wk) hk)
    clear q1 q2 hv hk h hm hs
    go_enter Try.func16, Try.ntmps16
    go_wp2_with fail
    with_reducible refine (C1.out).mono ?_
    rintro e w1 ⟨rfl, hb⟩
    have HB := Lib.hid hb
    clear hb
    go_wp2_with fail
    with_reducible refine (C2.out _ HB.out).mono ?_
    rintro e w2 ⟨rfl, rfl⟩
    go_wp2
    go_ret
    exact ⟨ret_bool HV.out.symm, HB.out⟩
  rw [hk] at q2
  have C2 := Lib.hid q2
  obtain ⟨hval, hroom, _⟩ := Bs.canV_iff.1 hv
  have hF := valid_fine hval
  have h8 := Bs.fine_len hF
  have hm3 := Bs.roomOk_len hroom
  have hlen := Bs.clk_len hk
  have hfb := giZ_b hk
  have q3 := fun W (hb : Below w.heap.size w W) => beginningsOf_any A2 c2 S l2 h2 W (hs.below hb hh2) (Nat.le_trans hh2 hb.size) (by omega)
  rw [show Bs.full S.length = Bs.full g.length from by rw [hlen]] at q3
  have C3 := Lib.hid q3
  have q4 := fun (v : Nat) (hv : v < g.length) W (hb : Below w.heap.size w W) => needsOver_any (Bs.giZ S) (Bs.full g.length) A c g v lo hi W (h.below hb hh) (Nat.le_trans hh hb.size) hF hv hfb
  unfold bgA at q4
  have C4 := Lib.hid q4
  have C5 := Lib.hid (fun W (hb : Below w.heap.size w W) => bgFit_any (Bs.giZ S) (Bs.full g.length) A c g A1 c1 m wk lo hi l1 h1 W (h.below hb hh) (Nat.le_trans hh hb.size) (hm.below hb hh1) (Nat.le_trans hh1 hb.size) hF hm3 (Bs.full_lt h8) hfb)
  have HNO := Lib.hid (fun k hk h => needAll_no (g := g) (m := m) (S := S) (wk := wk) (k := k) hk h)
  have HYES := Lib.hid (fun h => needAll_yes (g := g) (m := m) (S := S) (wk := wk) hv hk h)
  have HNE := Lib.hid (fun k => Bs.needsOv_le (g := g) (S := S) (i := k) (Bs.clk_at hk k).1)
  have HI := Lib.hid hs
  clear q1 q2 q3 q4 hval hF hroom hm3 hfb h hm hs hv hk hl hml hsl
  have HLEN := Lib.hid hlen
  clear hlen
  go_enter Try.func16, Try.ntmps16
  go_wp2_with fail
  with_reducible refine (C1.out).mono ?_
  rintro e w1 ⟨rfl, hb⟩
  have HB := Lib.hid hb
  clear hb
  go_wp2_with fail
  with_reducible refine (C2.out _ HB.out).mono ?_
  rintro e w2 ⟨rfl, rfl⟩
  go_wp2_with fail
  with_reducible refine (C3.out _ HB.out).mono ?_
  rintro e w3 ⟨rfl, hb3⟩
  have HB3 := Lib.hid (HB.out.trans (hb3.mono HB.out.size))
  have hz3 := BG.new w3 z8 0
  have ha3 := HB3.out.alloc HB3.out.size (.cells (bgA z8 0) 54)
  rw [z8A] at hz3 ha3
  have HZ3 := Lib.hid hz3
  have HAZ3 := Lib.hid ha3
  have s3 := HB3.out.size
  clear hb3 C1 C2 C3 hz3 ha3
  go_wp2_with (first | (refine bg_store rfl _ _ rfl w3.heap.size z8 (Bs.giZ S) 0 (Bs.full g.length) rfl rfl HZ3.out ?_; intro w4 h4 o4))
  have HN3 := Lib.hid h4
  have HA3 := Lib.hid (HAZ3.out.trans (o4.below s3))
  clear h4 o4
  go_loopw [26] (fun i wr => ∃ (k : Nat), k ≤ g.length ∧ i = .int .i64 k ∧ (∀ j, j < k → Bs.needOkB g S j = true) ∧ BG wr w3.heap.size (Bs.giZ S) (Bs.full g.length) ∧ Below w.heap.size w wr) (fun i _ => g.length - (intOf i).toNat)
  case atStart => exact ⟨0, Nat.zero_le _, rfl, by intro j hj; omega, HN3.out, HA3.out⟩
  case round =>
    obtain ⟨k, hk, rfl, hall, hB, hb⟩ := hrel
    clear HN3 HA3
    have HALL := Lib.hid hall
    clear hall
    by_cases hlt : k < g.length
    · obtain ⟨b, o, rfl, _, hbh, hc⟩ := (HI.out.below hb hh2).at_ (show k < S.length by have := HLEN.out; omega)
      have hks : (k : Int) < (S.length : Int) := by have := HLEN.out; omega
      have hgz := Bs.giZ_at (show k < S.length by omega)
      rw [← hgz] at hc
      have hne := HNE.out k
      have HNOk := Lib.hid (HNO.out k hlt)
      have c0 := hB.at_ (i := 0) (by omega)
      have c1 := hB.at_ (i := 1) (by omega)
      have c2 := hB.at_ (i := 2) (by omega)
      have c3 := hB.at_ (i := 3) (by omega)
      have c4 := hB.at_ (i := 4) (by omega)
      have c5 := hB.at_ (i := 5) (by omega)
      have c6 := hB.at_ (i := 6) (by omega)
      have c7 := hB.at_ (i := 7) (by omega)
      have c8 := hB.b
      have HX0 := Lib.hid (show Below w.heap.size w wr.drew from hb.drewN 1)
      have C6 := Lib.hid (C4.out k hlt _ HX0.out)
      have HB0 := Lib.hid hB
      have HBb := Lib.hid hb
      have sr := hb.size
      have i0 : (0 : Int) ≤ (k : Int) := by omega
      have i1 : (k : Int) < (g.length : Int) := by omega
      have hbw : b < wr.heap.size := by omega
      clear hB hb hgz C4 HNE HNO
      generalize Bs.needsOv g (Bs.giZ S) k = nv at *
      obtain ⟨sk, hsk⟩ : ∃ sk, sk = Bs.giZ S k := ⟨_, rfl⟩
      rw [← hsk] at hc hne
      have HNK := Lib.hid hne
      clear hne hsk
      go_wp2_with fail
      go_region_law (go_simp; (go_at_call 44; (with_reducible refine (C6.out).mono ?_); rintro e w5 ⟨rfl, hb5⟩; have hc5 : w5.cell? ⟨b, o + k, none⟩ = some (.int .i64 sk) := (hb5.cell (p := ⟨b, o + k, none⟩) hbw).trans hc; have HBb5 := Lib.hid (HX0.out.trans (hb5.mono HX0.out.size)); have HB5 := Lib.hid ((HB0.out.drewN 1).below hb5 HB0.out.lt); clear hb5))
      all_goals
        clear c0 c1 c2 c3 c4 c5 c6 c7 c8 hc hc5 C6
        by_cases hn : sk < nv
        · have HNN := Lib.hid (HNOk.out (by rw [HNK.out]; simp; omega))
          have hn2 : decide (sk < nv) = true := by simp [hn]
          go_wp2
          go_ret
          exact ⟨ret_bool HNN.out.symm, HBb5.out⟩
        · have HNN := Lib.hid (show ∀ j, j < k + 1 → Bs.needOkB g S j = true from by
            intro j hj
            by_cases e : j = k
            · subst e; rw [HNK.out]; simp; omega
            · exact HALL.out j (by omega))
          have hn2 : decide (sk < nv) = false := by simp; omega
          go_wp2
          go_roundw
          case rel => exact ⟨k + 1, by omega, by go_num, HNN.out, HB5.out, HBb5.out⟩
          case measure => simp [intOf]; omega
    · obtain rfl : k = g.length := by omega
      have HQ := Lib.hid (HYES.out HALL.out)
      have HB0 := Lib.hid hB
      have HBb := Lib.hid hb
      have C6 := Lib.hid (C5.out _ hb)
      clear hB hb HYES HNO HNE C4 C5
      go_wp2_with (first | (refine bg_load rfl _ rfl w3.heap.size (Bs.giZ S) (Bs.full g.length) rfl HB0.out ?_))
      with_reducible refine (C6.out).mono ?_
      rintro e w5 ⟨rfl, hb5⟩
      have HBb5 := Lib.hid (HBb.out.trans (hb5.mono HBb.out.size))
      clear hb5
      go_wp2
      go_ret
      exact ⟨ret_bool HQ.out.symm, HBb5.out⟩
end Go.Proofs.Ytfdaeomlgpflhaa
