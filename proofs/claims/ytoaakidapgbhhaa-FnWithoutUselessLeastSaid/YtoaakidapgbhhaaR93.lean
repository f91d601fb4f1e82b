/-
  WALKS: useless needs of the model.
-/
import Derived.Test.YtoaakidapgbhhaaMath133
import Derived.Test.YtoaakidapgbhhaaK5
import Derived.Test.YtoaakidapgbhhaaMem12
import Derived.Test.YtoaakidapgbhhaaW131
namespace Go.Proofs.Ytoaakidapgbhhaa
open Go.RowKit
set_option maxHeartbeats 1600000 in
theorem isUselessS_any (A : Option Addr) (c : Nat) (g : List Bs.T) (a : Nat) (x : Int) (lo hi : Nat) (w : World) (h : RG w lo hi A g) (hh : hi ≤ w.heap.size) (hv : Bs.valid g = true) (ha : a < g.length) :
    Calls Try.prog 50 #[.slice A g.length c, .int .i64 (a : Int), .int .i64 x] w fun e w' => e = .returned (.bool (Bs.uslB g a x)) ∧ Below w.heap.size w w' := by
  have hF := valid_fine hv
  have h8 := Bs.fine_len hF
  have HAN := Lib.hid (fun (z : Nat) (hz : z < g.length) W (hb : Below w.heap.size w W) => allNeedsS_any A c g z lo hi W (h.below hb hh) (Nat.le_trans hh hb.size) hF (valid_full hv) hz)
  obtain ⟨b, o, N, cN, rfl, h1, h2, _, q1, _, _, hlN, hcN, hN⟩ := h a ha
  have HN := Lib.hid (Bs.need_eq ha)
  have HNE := Lib.hid (fun p (hp : p < g[a].needs.length) => show 0 ≤ g[a].needs[p] ∧ g[a].needs[p] < g.length from Bs.fine_need hF (i := a) (by rw [HN.out]; exact List.getElem_mem hp))
  have HLN := Lib.hid (fun z => show (Bs.needs2 g z).length ≤ 8 from Nat.le_trans (Bs.needs2_len g z) h8)
  have HU := Lib.hid (show Bs.uslB g a x = g[a].needs.any fun y => (Bs.needs2 g y.toNat).contains x from by unfold Bs.uslB; rw [HN.out])
  have HQ := Lib.hid q1
  have HNN := Lib.hid hN
  have hbw : b < w.heap.size := by omega
  have j0 : (0 : Int) ≤ (a : Int) := by omega
  have j1 : (a : Int) < (g.length : Int) := by omega
  have HB0 := Lib.hid (Below.refl w.heap.size w)
  clear hF hv h q1 hN
  go_enter Try.func50, Try.ntmps50
  go_wp2
  go_loopw [7] (fun i wr => ∃ p : Nat, p ≤ g[a].needs.length ∧ i = .int .i64 p ∧ (g[a].needs.take p).any (fun y => (Bs.needs2 g y.toNat).contains x) = false ∧ Below w.heap.size w wr) (fun i _ => g[a].needs.length - (intOf i).toNat)
  case atStart => exact ⟨0, Nat.zero_le _, rfl, rfl, HB0.out⟩
  case round =>
    clear HB0
    obtain ⟨p, hp, rfl, hno, hb⟩ := hrel
    have sr := hb.size
    have q1 := (hb.cell (p := ⟨b, o + a * 4 + 1, none⟩) (by show b < _; omega)).trans HQ.out
    by_cases hlt : p < g[a].needs.length
    · obtain ⟨b3, o3, rfl, _, _, hc3⟩ := (HNN.out.below hb hh).at_ hlt
      have hne := HNE.out p hlt
      have HTK := Lib.hid (show (g[a].needs.take (p + 1)).any (fun y => (Bs.needs2 g y.toNat).contains x) = (Bs.needs2 g g[a].needs[p].toNat).contains x from by
        rw [List.take_succ_eq_append_getElem hlt, List.any_append, hno]; simp)
      obtain ⟨z, hz⟩ : ∃ z : Nat, g[a].needs[p] = (z : Int) := ⟨g[a].needs[p].toNat, by omega⟩
      have HYES := Lib.hid (fun (hy : (Bs.needs2 g z).contains x = true) => show Bs.uslB g a x = true from by
        rw [HU.out, List.any_eq_true]
        exact ⟨g[a].needs[p], List.getElem_mem hlt, by rw [hz, Int.toNat_natCast]; exact hy⟩)
      rw [hz] at hc3 hne
      have htk := HTK.out
      rw [hz, Int.toNat_natCast] at htk
      have HTK := Lib.hid htk
      have C1 := Lib.hid (HAN.out z (by omega) wr hb)
      have hl8 := HLN.out z
      have HB := Lib.hid hb
      have i0 : (0 : Int) ≤ (p : Int) := by omega
      have i1 : (p : Int) < (g[a].needs.length : Int) := by omega
      clear hz hne htk hno hb HAN HNE HLN
      generalize Bs.needs2 g z = L at *
      go_wp2_with fail
      with_reducible refine (C1.out).mono ?_
      rintro e w1 ⟨⟨A1, c1, rfl, ho1⟩, hb1⟩
      have C2 := Lib.hid (isIn_any A1 c1 L x _ _ w1 ho1.ri (by omega))
      have HB1 := Lib.hid (HB.out.trans (hb1.mono sr))
      clear ho1 hb1 C1 HB
      go_wp2_with fail
      with_reducible refine (C2.out).mono ?_
      rintro e w2 ⟨rfl, rfl⟩
      cases hc : L.contains x
      · rw [hc] at HTK
        go_wp2
        go_roundw
        case rel => exact ⟨p + 1, by omega, by go_num, HTK.out, HB1.out⟩
        case measure => simp [intOf]; omega
      · have HY := Lib.hid (HYES.out hc)
        go_wp2
        go_ret
        exact ⟨ret_bool HY.out.symm, HB1.out⟩
    · obtain rfl : p = g[a].needs.length := by omega
      rw [List.take_length] at hno
      have HR := Lib.hid (HU.out.trans hno)
      have HB := Lib.hid hb
      clear hno hb
      go_wp2
      go_ret
      exact ⟨ret_bool HR.out.symm, HB.out⟩
set_option maxHeartbeats 3200000 in
theorem UselessNeedsS_any (A : Option Addr) (c : Nat) (g : List Bs.T) (lo hi : Nat) (w : World) (h : RG w lo hi A g) (hh : hi ≤ w.heap.size) (hl : g.length ≤ 9223372036854775807) :
    Calls Try.prog 26 #[.slice A g.length c] w (RetOS w (Bs.pairL g)) := by
  have hb0 : Below w.heap.size w (w.alloc (.cells #[] 25)) := (Below.refl _ _).alloc (Nat.le_refl _) _
  have q1 := validGraphS_any A c g lo hi (w.alloc (.cells #[] 25)) (h.below hb0 hh) (Nat.le_trans hh hb0.size) hl
  have HB0 := Lib.hid hb0
  cases hv : Bs.valid g
  · rw [hv] at q1
    have C1 := Lib.hid q1
    have HV := Lib.hid (Bs.pairL_no hv)
    clear q1 hv h hb0
    go_enter Try.func26, Try.ntmps26
    go_wp2_with fail
    with_reducible refine (C1.out).mono ?_
    rintro e w1 ⟨rfl, hb⟩
    have HB := Lib.hid (HB0.out.trans (hb.mono HB0.out.size))
    clear hb
    go_wp2
    go_ret
    exact RetOS.nil HB.out HV.out
  rw [hv] at q1
  have C1 := Lib.hid q1
  have hF := valid_fine hv
  have h8 := Bs.fine_len hF
  have CU := Lib.hid (fun (a : Nat) (x : Int) (ha : a < g.length) W (hb : Below w.heap.size w W) => isUselessS_any A c g a x lo hi W (h.below hb hh) (Nat.le_trans hh hb.size) hv ha)
  have HE := Lib.hid (Bs.pairL_yes hv)
  have HPS := Lib.hid (fun k => Bs.pairK_succ g k)
  have HPL := Lib.hid (fun k => Bs.pairK_len hF k)
  have HL8 := Lib.hid (fun a (ha : a < g.length) => Bs.fine_needs_len hF ha)
  have HNE := Lib.hid (fun a (ha : a < g.length) => Bs.need_eq ha)
  have HO0 := Lib.hid (OS.new w w.heap.size (Nat.le_refl _))
  have HG := Lib.hid h
  clear q1 hv h hb0 hF
  go_enter Try.func26, Try.ntmps26
  go_wp2_with fail
  with_reducible refine (C1.out).mono ?_
  rintro e w1 ⟨rfl, hb⟩
  have HB1 := Lib.hid (HB0.out.trans (hb.mono HB0.out.size))
  have HO1 := Lib.hid (HO0.out.below hb (Nat.le_refl _))
  clear hb C1 HO0 HB0
  go_wp2
  go_loopw [3, 4] (fun vo i wr => ∃ (k : Nat) (A' : Option Addr) (c' : Nat) (vs : List Value), k ≤ g.length ∧ vo = .slice A' vs.length c' ∧ i = .int .i64 k ∧ OS wr w.heap.size A' c' vs ∧ SLs wr w.heap.size vs (Bs.pairK g k) ∧ Below w.heap.size w wr) (fun _ i _ => g.length - (intOf i).toNat)
  case atStart => exact ⟨0, _, _, [], Nat.zero_le _, rfl, rfl, HO1.out, SLs.nil _ _, HB1.out⟩
  case round =>
    clear HO1 HB1
    obtain ⟨k, A', c', vs, hk, rfl, rfl, hO, hSL, hb⟩ := hrel
    by_cases hlt : k < g.length
    · obtain ⟨b, o, N, cN, rfl, h1, h2, _, q1, _, _, hlN, hcN, hN⟩ := HG.out k hlt
      have HQ := Lib.hid q1
      have HNN := Lib.hid hN
      have HPSk := Lib.hid (HPS.out k)
      have HPLk := HPL.out k
      have hn8 := HL8.out k hlt
      have HPE := Lib.hid (show ∀ p, p < g[k].needs.length → Bs.uslP g k (p + 1) = Bs.uslP g k p ++ (if Bs.uslB g k ((Bs.need g k).getD p 0) then [(Bs.need g k).getD p 0] else []) from fun p hp => by
        have hp' : p < (Bs.need g k).length := by rw [HNE.out k hlt]; exact hp
        rw [Bs.uslP_succ hp', show (Bs.need g k).getD p 0 = (Bs.need g k)[p] from by simp [hp']])
      have HNK := Lib.hid (HNE.out k hlt)
      have HALL := Lib.hid (show Bs.uslP g k g[k].needs.length = Bs.uslL g k from by rw [← Bs.uslP_all, HNE.out k hlt])
      have HPP := Lib.hid (fun p => show (Bs.uslP g k p).length ≤ 8 from by
        have h3 := List.length_filter_le (Bs.uslB g k) ((Bs.need g k).take p)
        have h4 := List.length_take_le p (Bs.need g k)
        have h5 : (Bs.need g k).length ≤ 8 := by rw [HNE.out k hlt]; omega
        rw [List.length_take] at h3
        unfold Bs.uslP
        omega)
      have HO := Lib.hid hO
      have HSL := Lib.hid (show SLs wr w.heap.size vs (Bs.pairK g k ++ ((Bs.uslP g k 0).map fun x => [(k : Int), x])) from by rw [Bs.uslP_zero, List.map_nil, List.append_nil]; exact hSL)
      have HB := Lib.hid hb
      have hbw : b < w.heap.size := by omega
      have i0 : (0 : Int) ≤ (k : Int) := by omega
      have i1 : (k : Int) < (g.length : Int) := by omega
      clear hO hSL hb HPS HPL HL8 HNE hN q1
      go_wp2
      go_loopw [3, 5] (fun vo j wq => ∃ (p : Nat) (A' : Option Addr) (c' : Nat) (vs : List Value), p ≤ g[k].needs.length ∧ vo = .slice A' vs.length c' ∧ j = .int .i64 p ∧ OS wq w.heap.size A' c' vs ∧ SLs wq w.heap.size vs (Bs.pairK g k ++ ((Bs.uslP g k p).map fun x => [(k : Int), x])) ∧ Below w.heap.size w wq) (fun _ j _ => g[k].needs.length - (intOf j).toNat)
      case atStart => exact ⟨0, _, _, vs, Nat.zero_le _, rfl, rfl, HO.out, HSL.out, HB.out⟩
      case round =>
        clear HO HSL HB
        obtain ⟨p, A5, c5, us, hp, rfl, rfl, hO, hSL, hb⟩ := hrel
        have sq := hb.size
        have q1 := (hb.cell (p := ⟨b, o + k * 4 + 1, none⟩) (by show b < _; omega)).trans HQ.out
        have hul := hSL.1
        rw [List.length_append, List.length_map] at hul
        by_cases hpl : p < g[k].needs.length
        · obtain ⟨b3, o3, rfl, b3l, b3h, hc3⟩ := (HNN.out.below hb hh).at_ hpl
          have hus : us.length ≤ 100 := by have := HPP.out p; omega
          clear hul
          have hPE := HPE.out p hpl
          have he : (Bs.need g k).getD p 0 = g[k].needs[p] := by rw [HNK.out]; simp [hpl]
          rw [he] at hPE
          have c6 := CU.out k g[k].needs[p] hlt wr hb
          have j0 : (0 : Int) ≤ (p : Int) := by omega
          have j1 : (p : Int) < (g[k].needs.length : Int) := by omega
          have HPE2 := Lib.hid hPE
          have C6 := Lib.hid c6
          have HO := Lib.hid hO
          have HSL := Lib.hid hSL
          have HB := Lib.hid hb
          clear hPE he c6 hO hSL hb HPE HNK HPP CU
          generalize g[k].needs[p] = x at *
          cases hu : Bs.uslB g k x
          · rw [hu] at C6 HPE2
            go_wp2_with fail
            with_reducible refine (C6.out).mono ?_
            rintro e w6 ⟨rfl, hb6⟩
            have HO6 := Lib.hid (HO.out.below hb6 (Nat.le_refl _))
            have HSL6 := Lib.hid (HSL.out.below hb6 (Nat.le_refl _))
            have HB6 := Lib.hid (HB.out.trans (hb6.mono sq))
            clear hb6 C6 HO HSL HB
            go_wp2
            go_roundw
            case rel => exact ⟨p + 1, A5, c5, us, by omega, rfl, by go_num, HO6.out, by rw [HPE2.out, if_neg (by simp), List.append_nil]; exact HSL6.out, HB6.out⟩
            case measure => simp [intOf]; omega
          · rw [hu] at C6 HPE2
            go_wp2_with fail
            with_reducible refine (C6.out).mono ?_
            rintro e w6 ⟨rfl, hb6⟩
            have s6 := hb6.size
            have q1 := (hb6.cell (p := ⟨b, o + k * 4 + 1, none⟩) (by show b < _; omega)).trans q1
            have hc3 := (hb6.cell (p := ⟨b3, o3 + p, none⟩) (by show b3 < _; omega)).trans hc3
            have HO6 := Lib.hid (((HO.out.below hb6 (Nat.le_refl _)).alloc (.cells #[.int .i64 (k : Int), .int .i64 x] 3)).alloc (.cells #[.slice (some ⟨w6.heap.size, 0, none⟩) 2 2] 25))
            have HB6 := Lib.hid (HB.out.trans (hb6.mono sq))
            have s06 := HB6.out.size
            have HSL6 := Lib.hid (((((HSL.out.below hb6 (Nat.le_refl _)).alloc (.cells #[.int .i64 (k : Int), .int .i64 x] 3)).append (SLs.one ((OI.two w6 w6.heap.size (Nat.le_refl _) (k : Int) x).base s06)))).alloc (.cells #[.slice (some ⟨w6.heap.size, 0, none⟩) 2 2] 25))
            have HB7 := Lib.hid ((HB6.out.alloc s06 (.cells #[.int .i64 (k : Int), .int .i64 x] 3)).alloc (by simp; omega) (.cells #[.slice (some ⟨w6.heap.size, 0, none⟩) 2 2] 25))
            have HU8 := Lib.hid (OS.one (w6.alloc (.cells #[.int .i64 (k : Int), .int .i64 x] 3)) w.heap.size (by simp; omega) (.slice (some ⟨w6.heap.size, 0, none⟩) 2 2))
            simp only [World.size_alloc] at HU8
            have HONE := Lib.hid (show ∀ u ∈ [Value.slice (some ⟨w6.heap.size, 0, none⟩) 2 2], u.oneCell' = true from fun u hu => by rw [List.mem_singleton] at hu; subst hu; rfl)
            clear hb6 C6 HO HSL HB
            go_wp2_with (first
              | (at_builtin; refine push_vs rfl _ _ rfl w.heap.size A5 c5 us [.slice (some ⟨w6.heap.size, 0, none⟩) 2 2] rfl HO6.out (some ⟨w6.heap.size + 1, 0, none⟩) 1 w.heap.size rfl HU8.out HONE.out (by simp; omega) (by simp; omega) ?_; intro A9 c9 w9 ho9 hb9 hg9 s9; have HO9 := Lib.hid ho9; have HSL9 := Lib.hid (HSL6.out.kept HO6.out hg9); have HB9 := Lib.hid (HB7.out.trans hb9); clear ho9 hb9 hg9))
            go_roundw
            case rel => exact ⟨p + 1, A9, c9, us ++ [.slice (some ⟨w6.heap.size, 0, none⟩) 2 2], by omega, by rw [List.length_append]; rfl, by go_num, HO9.out, by rw [HPE2.out, if_pos (by trivial), List.map_append, ← List.append_assoc]; exact HSL9.out, HB9.out⟩
            case measure => simp [intOf]; omega
        · obtain rfl : p = g[k].needs.length := by omega
          rw [HALL.out, ← HPSk.out] at hSL
          have HO := Lib.hid hO
          have HSL := Lib.hid hSL
          have HB := Lib.hid hb
          clear hO hSL hb hul
          go_wp2
          go_roundw
          case rel => exact ⟨k + 1, A5, c5, us, by omega, rfl, by go_num, HO.out, HSL.out, HB.out⟩
          case measure => simp [intOf]; omega
    · obtain rfl : k = g.length := by omega
      have HO := Lib.hid hO
      have HSL := Lib.hid hSL
      have HB := Lib.hid hb
      clear hO hSL hb
      go_wp2
      go_ret
      rw [HE.out]
      exact ⟨⟨A', c', vs, rfl, HO.out, HSL.out⟩, HB.out⟩
end Go.Proofs.Ytoaakidapgbhhaa
