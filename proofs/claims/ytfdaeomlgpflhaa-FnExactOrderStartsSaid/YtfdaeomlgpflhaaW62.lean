/-
  WALKS: beginnings by an order, of the program.
-/
import Derived.Test.YtfdaeomlgpflhaaW61
import Derived.Test.YtfdaeomlgpflhaaW56
import Derived.Test.YtfdaeomlgpflhaaMath50
namespace Go.Proofs.Ytfdaeomlgpflhaa
open Go.RowKit
theorem canSearch_any (A : Option Addr) (c : Nat) (g : List Bs.T) (A1 : Option Addr) (c1 : Nat) (m : List Int) (wk : Int) (lo hi l1 h1 : Nat) (w : World) (h : RG w lo hi A g) (hh : hi ≤ w.heap.size) (hm : RI w l1 h1 A1 m) (hh1 : h1 ≤ w.heap.size) (hl : g.length ≤ 9223372036854775807) (hml : m.length ≤ 9223372036854775807) :
    Calls Try.prog 68 #[.slice A g.length c, .slice A1 m.length c1, .int .i64 wk] w fun e w' => e = .returned (.bool (Bs.seaV g m wk)) ∧ Below w.heap.size w w' := by
  have q1 := canPlan_any A c g A1 c1 m wk lo hi l1 h1 w h hh hm hh1 hl hml
  have HE := Lib.hid (show Bs.seaV g m wk = (Bs.canV g m wk && decide (g.length ≤ 5)) from rfl)
  clear h hm
  generalize Bs.canV g m wk = v1 at *
  have C1 := Lib.hid q1
  clear q1
  by_cases h5 : g.length ≤ 5
  · have d1 : decide ((g.length : Int) ≤ 5) = true := by simp; omega
    have d2 : decide (g.length ≤ 5) = true := by simp [h5]
    go_enter Try.func68, Try.ntmps68
    go_wp2_with fail
    with_reducible refine (C1.out).mono ?_
    rintro e w1 ⟨rfl, hb⟩
    have HB := Lib.hid hb
    clear hb
    go_wp2
    go_ret
    exact ⟨ret_bool (by rw [HE.out, d2, Bool.and_true]), HB.out⟩
  · have d1 : decide ((g.length : Int) ≤ 5) = false := by simp; omega
    have d2 : decide (g.length ≤ 5) = false := by simp [h5]
    go_enter Try.func68, Try.ntmps68
    go_wp2
    go_ret
    exact ⟨ret_bool (by rw [HE.out, d2, Bool.and_false]), Below.refl _ _⟩
set_option maxHeartbeats 800000 in
theorem isOrder_any (A : Option Addr) (c : Nat) (g : List Bs.T) (A1 : Option Addr) (c1 : Nat) (l : List Int) (lo hi l1 h1 : Nat) (w : World) (h : RG w lo hi A g) (hm : RI w l1 h1 A1 l) (hF : Bs.fine g = true) :
    Calls Try.prog 69 #[.slice A g.length c, .slice A1 l.length c1] w fun e w' => e = .returned (.bool (Bs.isOrd g l)) ∧ w = w' := by
  have hgl := Bs.fine_len hF
  by_cases hlen : l.length = g.length
  · have hq : ((l.length : Int) != (g.length : Int)) = false := by simp [hlen]
    have C1 := Lib.hid (fun (x : Int) => isTask_any A g.length c x w (by omega))
    have C2 := Lib.hid (fun (L : List Int) (v : Nat) (hL : ∀ x ∈ L, 0 ≤ x ∧ x < 8) (hv : v < g.length) => canFollow_any A c g L v lo hi w h hF hL hv)
    have HM := Lib.hid hm
    have hl8 : l.length ≤ 8 := by omega
    have HNO := Lib.hid (fun k (hk : k < l.length) (ht : Bs.tOk g l k = false) => Bs.isOrd_no (g := g) hk ht)
    have HYES := Lib.hid (fun ht => Bs.isOrd_yes (g := g) (l := l) hlen ht)
    have HIN := Lib.hid (fun k (hk : k ≤ l.length) ht => Bs.tOk_in (g := g) (l := l) hgl hk ht)
    have HLL := Lib.hid hlen
    clear h hm hF hlen
    go_enter Try.func69, Try.ntmps69
    go_wp2
    go_loop [5, 15] (fun s i => ∃ (k : Nat), k ≤ l.length ∧ s = .int .u64 ((Bs.bits (l.take k) : Nat) : Int) ∧ i = .int .i64 k ∧ ∀ j, j < k → Bs.tOk g l j = true) (fun _ i => l.length - (intOf i).toNat)
    case atStart => exact ⟨0, Nat.zero_le _, rfl, rfl, fun j hj => by omega⟩
    case round =>
      obtain ⟨k, hk, rfl, rfl, hT⟩ := hrel
      by_cases hlt : k < l.length
      · obtain ⟨b, o, rfl, _, _, hc⟩ := HM.out.at_ hlt
        have hin := HIN.out k hk hT
        have hd8 := Bs.bits_lt _ hin
        have hsn := Bs.bits_snoc (l.take k) l[k]
        rw [← List.take_succ_eq_append_getElem hlt] at hsn
        have htk : Bs.tOk g l k = (decide (0 ≤ l[k] ∧ l[k] ≤ (g.length : Int) - 1) && Bs.okNext g (l.take k) l[k].toNat) := by unfold Bs.tOk; rw [Bs.giZ_at hlt]
        have q1 := C1.out l[k]
        have q2 := fun v hv => C2.out (l.take k) v hin hv
        have HT := Lib.hid hT
        have HT2 := Lib.hid (fun (he : Bs.tOk g l k = true) => show ∀ j, j < k + 1 → Bs.tOk g l j = true from fun j hj => by
          by_cases e : j = k
          · subst e; exact he
          · exact hT j (by omega))
        have HN := Lib.hid (HNO.out k hlt)
        obtain ⟨x, hx⟩ : ∃ x, x = l[k] := ⟨_, rfl⟩
        rw [← hx] at hc hsn htk q1
        clear hx hin hT
        by_cases hr : 0 ≤ x ∧ x < (g.length : Int)
        · have d1 : decide (0 ≤ x ∧ x < (g.length : Int)) = true := by simp [hr]
          have d2 : decide (0 ≤ x ∧ x ≤ (g.length : Int) - 1) = true := by simp; omega
          rw [d1] at q1
          rw [d2, Bool.true_and] at htk
          obtain ⟨v, rfl⟩ : ∃ v : Nat, x = (v : Int) := ⟨x.toNat, by omega⟩
          rw [Int.toNat_natCast] at hsn htk
          have hv : v < g.length := by omega
          have q3 := q2 v hv
          have hor := or_pow (Bs.bits (l.take k)) v hd8 (by omega)
          generalize Bs.bits (l.take k) = d at *
          generalize Bs.okNext g (l.take k) v = ok at *
          have Q1 := Lib.hid q1
          have Q3 := Lib.hid q3
          have HTK := Lib.hid htk
          have HOR := Lib.hid hor
          have HSN := Lib.hid hsn
          clear q1 q2 q3 htk hor hsn d1 d2
          cases ok
          · go_wp2_with fail
            with_reducible refine (Q1.out).mono ?_
            rintro e w2 ⟨rfl, rfl⟩
            go_wp2_with fail
            with_reducible refine (Q3.out).mono ?_
            rintro e w2 ⟨rfl, rfl⟩
            go_wp2
            go_ret
            exact ⟨ret_bool (HN.out HTK.out).symm, rfl⟩
          · go_wp2_with fail
            with_reducible refine (Q1.out).mono ?_
            rintro e w2 ⟨rfl, rfl⟩
            go_wp2_with fail
            with_reducible refine (Q3.out).mono ?_
            rintro e w2 ⟨rfl, rfl⟩
            go_wp2
            go_round
            case rel => exact ⟨k + 1, by omega, by rw [HSN.out, ← HOR.out], by go_num, HT2.out HTK.out⟩
            case measure => simp [intOf]; omega
        · have d1 : decide (0 ≤ x ∧ x < (g.length : Int)) = false := by simp only [decide_eq_false_iff_not]; exact hr
          have d2 : decide (0 ≤ x ∧ x ≤ (g.length : Int) - 1) = false := by simp only [decide_eq_false_iff_not]; omega
          rw [d1] at q1
          rw [d2, Bool.false_and] at htk
          have Q1 := Lib.hid q1
          have HTK := Lib.hid htk
          clear q1 q2 htk hsn d1 d2 hr
          go_wp2_with fail
          with_reducible refine (Q1.out).mono ?_
          rintro e w2 ⟨rfl, rfl⟩
          go_wp2
          go_ret
          exact ⟨ret_bool (HN.out HTK.out).symm, rfl⟩
      · obtain rfl : k = l.length := by omega
        have HT := Lib.hid hT
        clear hT
        go_wp2
        go_ret
        exact ⟨ret_bool (HYES.out HT.out).symm, rfl⟩
  · have hq : ((l.length : Int) != (g.length : Int)) = true := by simp; omega
    have HE := Lib.hid (Bs.isOrd_len (g := g) hlen)
    clear h hm hF hlen
    go_enter Try.func69, Try.ntmps69
    go_wp2
    go_ret
    exact ⟨ret_bool HE.out.symm, rfl⟩
set_option maxHeartbeats 800000 in
theorem bgList_any (f : Nat → Int) (b : Nat) (A : Option Addr) (c : Nat) (g : List Bs.T) (w : World) (hg : g.length ≤ 8) :
    Calls Try.prog 54 #[.agg (bgA f b), .slice A g.length c] w (RetI w ((List.range g.length).map f)) := by
  have b1 := BG.new w f b
  have hbl : Below w.heap.size w (w.alloc (.cells (bgA f b) 54)) := (Below.refl _ _).alloc (Nat.le_refl _) _
  have hmk := make_ints g.length (by omega) (w.alloc (.cells (bgA f b) 54))
  have hsz : (w.alloc (.cells (bgA f b) 54)).heap.size = w.heap.size + 1 := by simp
  have a1 : Arr ((w.alloc (.cells (bgA f b) 54)).alloc (.cells (intsA (List.replicate g.length 0)) 3)) (w.heap.size + 1) (Bs.listK f g.length 0) := by
    rw [← hsz, Bs.listK_zero]
    exact Blk.new _ 3 _
  rw [hsz] at hmk
  have HB1 := Lib.hid (b1.alloc (.cells (intsA (List.replicate g.length 0)) 3))
  have HA1 := Lib.hid a1
  have HBL := Lib.hid (hbl.alloc (by omega) (.cells (intsA (List.replicate g.length 0)) 3))
  have hbs := bgA_size f b
  clear b1 hbl a1
  generalize (.cells (intsA (List.replicate g.length 0)) 3 : Obj) = ob at *
  go_enter Try.func54, Try.ntmps54
  go_wp2
  go_loopw [12] (fun i wr => ∃ (k : Nat), k ≤ g.length ∧ i = .int .i64 k ∧ BG wr w.heap.size f b ∧ Arr wr (w.heap.size + 1) (Bs.listK f g.length k) ∧ Below w.heap.size w wr) (fun i _ => g.length - (intOf i).toNat)
  case atStart => exact ⟨0, Nat.zero_le _, rfl, HB1.out, HA1.out, HBL.out⟩
  case round =>
    clear HB1 HA1 HBL hmk
    obtain ⟨k, hk, rfl, hB, hA, hb⟩ := hrel
    by_cases hlt : k < g.length
    · have hll := Bs.listK_len (f := f) (n := g.length) (k := k) (by omega)
      have kv := hB.at_ (i := k) (by omega)
      have kc := hA.cell (i := k) (by omega)
      have kf := hA.frozen k
      have hs := hA.set_ k (f k)
      rw [Bs.listK_succ hlt] at hs
      have HS := Lib.hid hs
      have HB := Lib.hid hB
      have HBb := Lib.hid hb
      have i0 : (0 : Int) ≤ (k : Int) := by omega
      have i1 : (k : Int) < (g.length : Int) := by omega
      have i2 : (k : Int) < 8 := by omega
      clear hs hA hB hb hll
      go_wp2
      go_roundw
      case rel => exact ⟨k + 1, by omega, by go_num, HB.out.far (by simp) _, HS.out, HBb.out.setCell (by simp) _⟩
      case measure => simp [intOf]; omega
    · obtain rfl : k = g.length := by omega
      have hO := hA.oi (B := w.heap.size) (by omega) (by rw [Bs.listK_len (Nat.le_refl _)]; omega)
      rw [Bs.listK_len (Nat.le_refl _), Bs.listK_all] at hO
      have hll : ((List.range g.length).map f).length = g.length := by simp
      have HO := Lib.hid hO
      have HB := Lib.hid hb
      clear hA hO hB hb
      go_wp2
      go_ret
      refine ⟨⟨_, _, ?_, HO.out⟩, HB.out⟩
      rw [hll]
      rfl
set_option maxHeartbeats 1600000 in
theorem OrderStarts_any (A : Option Addr) (c : Nat) (g : List Bs.T) (A1 : Option Addr) (c1 : Nat) (m : List Int) (A2 : Option Addr) (c2 : Nat) (l : List Int) (wk : Int) (lo hi l1 h1 l2 h2 : Nat) (w : World) (h : RG w lo hi A g) (hh : hi ≤ w.heap.size) (hm : RI w l1 h1 A1 m) (hh1 : h1 ≤ w.heap.size) (hs : RI w l2 h2 A2 l) (hh2 : h2 ≤ w.heap.size) (hl : g.length ≤ 9223372036854775807) (hml : m.length ≤ 9223372036854775807) (_hsl : l.length ≤ 9223372036854775807) :
    Calls Try.prog 31 #[.slice A g.length c, .slice A1 m.length c1, .int .i64 wk, .slice A2 l.length c2] w (RetI w (Bs.osL g m wk l)) := by
  have q1 := canSearch_any A c g A1 c1 m wk lo hi l1 h1 w h hh hm hh1 hl hml
  cases hv : Bs.seaV g m wk
  · rw [hv] at q1
    have C1 := Lib.hid q1
    have HV := Lib.hid (Bs.osL_no1 (l := l) hv)
    clear q1 hv h hm hs
    go_enter Try.func31, Try.ntmps31
    go_wp2_with fail
    with_reducible refine (C1.out).mono ?_
    rintro e w1 ⟨rfl, hb⟩
    have HB := Lib.hid hb
    clear hb
    go_wp2
    go_ret
    exact RetI.nil HB.out HV.out
  have hcv : Bs.canV g m wk = true := by unfold Bs.seaV at hv; rw [Bool.and_eq_true] at hv; exact hv.1
  obtain ⟨hval, hroom, hw1, hw4⟩ := Bs.canV_iff.1 hcv
  have hF := valid_fine hval
  have h8 := Bs.fine_len hF
  have q2 := fun W (hb : Below w.heap.size w W) => isOrder_any A c g A2 c2 l lo hi l2 h2 W (h.below hb hh) (hs.below hb hh2) hF
  rw [hv] at q1
  have C1 := Lib.hid q1
  cases ho : Bs.isOrd g l
  · rw [ho] at q2
    have C2 := Lib.hid q2
    have HV := Lib.hid (Bs.osL_no2 (m := m) (wk := wk) ho)
    clear q1 q2 hv h hm hs hcv hval hroom hF ho
    go_enter Try.func31, Try.ntmps31
    go_wp2_with fail
    with_reducible refine (C1.out).mono ?_
    rintro e w1 ⟨rfl, hb⟩
    have HB := Lib.hid hb
    have C3 := Lib.hid (C2.out w1 hb)
    clear hb C2
    go_wp2_with fail
    with_reducible refine (C3.out).mono ?_
    rintro e w2 ⟨rfl, rfl⟩
    go_wp2
    go_ret
    exact RetI.nil HB.out HV.out
  rw [ho] at q2
  have C2 := Lib.hid q2
  have HV := Lib.hid (Bs.osL_yes (m := m) (wk := wk) hv ho)
  obtain ⟨hlen, hat⟩ := Bs.isOrd_at ho
  have hl8 : l.length ≤ 8 := by omega
  have HP := Lib.hid (fun k (hk : k ≤ l.length) => Bs.Pla.all (m := m) (wk := wk) hF hroom hw1 ho k hk)
  have hP := HP.out
  have C4 := Lib.hid (fun (k : Nat) (hk : k < l.length) (f : Nat → Int) (hfS : ∀ i : Nat, (i : Int) ∈ l.take k → f i = Bs.giZ (Bs.osK g m wk l k) i) (hf : ∀ i, i < 8 → 0 ≤ f i ∧ f i ≤ 100000) W (hb : Below w.heap.size w W) => show Calls Try.prog 70 #[.agg (bgA f (Bs.bits (l.take k))), .slice A g.length c, .slice A1 m.length c1, .int .i64 wk, .int .i64 l[k]] W fun e w' => ∃ f', e = .returned (.agg (bgA f' (Bs.bits (l.take (k + 1))))) ∧ Below W.heap.size W w' ∧ (∀ i : Nat, (i : Int) ∈ l.take (k + 1) → f' i = Bs.giZ (Bs.osK g m wk l (k + 1)) i) ∧ (∀ i, i < 8 → 0 ≤ f' i ∧ f' i ≤ 100000) from by
    obtain ⟨hx, hok⟩ := hat k hk
    have hpk := hP k (by omega)
    have hnot := Bs.ok_not hok
    have hneed : ∀ y ∈ Bs.need g l[k].toNat, y ∈ l.take k := by
      intro y hy
      unfold Bs.okNext at hok
      rw [Bool.and_eq_true, List.all_eq_true] at hok
      simpa using hok.2 y hy
    have hos := Bs.osK_succ (g := g) (m := m) (wk := wk) hk
    have htk := List.take_succ_eq_append_getElem hk
    have hcs : ((l[k].toNat : Nat) : Int) = l[k] := by omega
    have hstep : Bs.osStep g m wk (Bs.osK g m wk l k) l[k] = (Bs.osK g m wk l k).set l[k].toNat (Bs.seekT g m wk (Bs.osK g m wk l k) l[k].toNat) := rfl
    rw [hstep] at hos
    rw [hcs] at hnot
    have hnm : l[k] ∉ l.take k := by simpa using hnot
    obtain ⟨hL, hR0, hR1, _, _⟩ := hpk.lst hF hroom hw1 (a := l[k].toNat) (by omega) hneed
    have hsm := hpk.sm hF
    have hsl := hpk.len
    have q := withLeast_any (Bs.osK g m wk l k) (l.take k) f A c g A1 c1 m wk l[k].toNat lo hi l1 h1 W (h.below hb hh) (Nat.le_trans hh hb.size) (hm.below hb hh1) (Nat.le_trans hh1 hb.size) hF hroom hw1 hpk hfS hf (by omega) (by rw [hcs]; exact hnm) hneed
    have hbs := Bs.bits_snoc (l.take k) l[k]
    rw [← htk] at hbs
    rw [hcs, ← hbs] at q
    refine q.mono ?_
    rintro e w' ⟨rfl, hb'⟩
    refine ⟨_, rfl, hb', fun i hi => ?_, fun i hi => ?_⟩
    · rw [hos, Bs.giZ_set]
      unfold Bs.upd
      by_cases e : i = l[k].toNat
      · rw [if_pos e, if_pos ⟨e, by rw [hsl]; omega⟩]
      · rw [if_neg e, if_neg (fun h' => e h'.1)]
        refine hfS i ?_
        rw [htk, List.mem_append, List.mem_singleton] at hi
        exact hi.resolve_right (by omega)
    · unfold Bs.upd
      split
      · omega
      · exact hf i hi)
  have C5 := Lib.hid (fun f b W => bgList_any f b A c g W h8)
  have HE := Lib.hid (fun (f : Nat → Int) (hfS : ∀ i : Nat, (i : Int) ∈ l.take l.length → f i = Bs.giZ (Bs.osK g m wk l l.length) i) => show (List.range g.length).map f = Bs.osL g m wk l from by
    have hp := hP l.length (Nat.le_refl _)
    rw [List.take_length] at hp hfS
    rw [HV.out, ← hp.len]
    exact Bs.list_eq (fun i hi => hfS i (Bs.full_mem hp.nd hp.rg hlen (by rw [← hp.len]; exact hi))))
  have HS := Lib.hid hs
  clear q1 q2 hv h hm hs hcv hval hroom hF ho hP HP hat HV hlen
  go_enter Try.func31, Try.ntmps31
  go_wp2_with fail
  with_reducible refine (C1.out).mono ?_
  rintro e w1 ⟨rfl, hb⟩
  have HB := Lib.hid hb
  have C3 := Lib.hid (C2.out w1 hb)
  have s1 := hb.size
  have b1 := BG.new w1 z8 0
  rw [z8A] at b1
  have HB1 := Lib.hid b1
  have HBL := Lib.hid (hb.alloc s1 (.cells #[.int .i64 0, .int .i64 0, .int .i64 0, .int .i64 0, .int .i64 0, .int .i64 0, .int .i64 0, .int .i64 0, .int .u64 0] 54))
  clear hb C2 C1 b1
  go_wp2_with fail
  with_reducible refine (C3.out).mono ?_
  rintro e w2 ⟨rfl, rfl⟩
  clear C3
  go_wp2_with (first | (refine bg_store rfl _ _ rfl w1.heap.size z8 z8 0 0 rfl rfl HB1.out ?_; intro w9 h9 o9))
  go_loopw [26] (fun i wr => ∃ (k : Nat) (f : Nat → Int), k ≤ l.length ∧ i = .int .i64 k ∧ BG wr w1.heap.size f (Bs.bits (l.take k)) ∧ (∀ i : Nat, (i : Int) ∈ l.take k → f i = Bs.giZ (Bs.osK g m wk l k) i) ∧ (∀ i, i < 8 → 0 ≤ f i ∧ f i ≤ 100000) ∧ Below w.heap.size w wr) (fun i _ => l.length - (intOf i).toNat)
  case atStart => exact ⟨0, z8, Nat.zero_le _, rfl, h9, fun i hi => by simp at hi, fun i _ => by unfold z8; omega, HBL.out.trans (o9.below s1)⟩
  case round =>
    clear HB HB1 HBL h9 o9
    obtain ⟨k, f, hk, rfl, hB, hfS, hf, hb⟩ := hrel
    have sb := hB.lt
    have sr := hb.size
    by_cases hlt : k < l.length
    · obtain ⟨b, o, rfl, _, _, hc⟩ := (HS.out.below hb hh2).at_ hlt
      have C6 := Lib.hid (C4.out k hlt f hfS hf wr hb)
      have HB := Lib.hid hB
      have HBb := Lib.hid hb
      clear C4 hfS hf hB hb
      go_wp2_with (first | (refine bg_load rfl _ rfl w1.heap.size f (Bs.bits (l.take k)) rfl HB.out ?_))
      with_reducible refine (C6.out).mono ?_
      rintro e w3 ⟨f', rfl, hb3, hf1, hf2⟩
      have HB3 := Lib.hid (HB.out.below hb3 sb)
      have HBb3 := Lib.hid (HBb.out.trans (hb3.mono sr))
      have HF1 := Lib.hid hf1
      have HF2 := Lib.hid hf2
      clear hb3 hf1 hf2 C6
      go_wp2_with (first | (refine bg_store rfl _ _ rfl w1.heap.size f f' (Bs.bits (l.take k)) (Bs.bits (l.take (k + 1))) rfl rfl HB3.out ?_; intro w9 h9 o9))
      go_roundw
      case rel => exact ⟨k + 1, f', by omega, by go_num, h9, HF1.out, HF2.out, HBb3.out.trans (o9.below s1)⟩
      case measure => simp [intOf]; omega
    · obtain rfl : k = l.length := by omega
      have he := HE.out f hfS
      have c5 := C5.out f (Bs.bits (l.take l.length)) wr
      rw [he, List.take_length] at c5
      rw [List.take_length] at hB
      have C6 := Lib.hid c5
      have HB := Lib.hid hB
      have HBb := Lib.hid hb
      clear c5 he hB hb hfS hf C4 HE
      go_wp2_with (first | (refine bg_load rfl _ rfl w1.heap.size f (Bs.bits l) rfl HB.out ?_))
      with_reducible refine (C6.out).mono ?_
      intro e w3 hr
      have hr2 := RetI.after HBb.out hr rfl
      obtain ⟨⟨A3, c3, rfl, ho3⟩, hb3⟩ := hr2
      go_wp2
      go_ret
      exact ⟨⟨A3, c3, rfl, ho3⟩, hb3⟩
end Go.Proofs.Ytfdaeomlgpflhaa
