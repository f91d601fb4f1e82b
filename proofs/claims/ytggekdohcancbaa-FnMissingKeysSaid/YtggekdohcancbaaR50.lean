/-
  WALKS: stale tasks and their time, of the model.
-/
import Derived.Test.YtggekdohcancbaaR41
import Derived.Test.YtggekdohcancbaaK5
import Derived.Test.YtggekdohcancbaaW90
namespace Go.Proofs.Ytggekdohcancbaa
open Go.RowKit
theorem staVF_any (A : Option Addr) (c : Nat) (g : List Bs.T) (A1 : Option Addr) (c1 : Nat) (F : List Int) (lo hi l1 h1 : Nat) (w : World) (h : RG w lo hi A g) (hh : hi ≤ w.heap.size) (hF : RI w l1 h1 A1 F) (hh1 : h1 ≤ w.heap.size) (hl : g.length ≤ 9223372036854775807) (hFl : F.length ≤ 9223372036854775807) :
    Calls Try.prog 37 #[.slice A g.length c, .slice A1 F.length c1] w fun e w' => e = .returned (.bool (Bs.staOk g F)) ∧ Below w.heap.size w w' := validFailsS_any A c g A1 c1 F lo hi l1 h1 w h hh hF hh1 hl hFl
theorem needs2_test {g : List Bs.T} {k : Nat} {x : Int} (hx : 0 ≤ x ∧ x < g.length) : (Bs.needs2 g k).contains x = Bs.reachB g k x.toNat := by
  rw [Bool.eq_iff_iff, List.contains_iff_mem]
  unfold Bs.needs2
  have e : x = ((x.toNat : Nat) : Int) := by omega
  rw [e, Bs.mem_pick_nat, Int.toNat_natCast]
  exact ⟨fun h => h.2, fun h => ⟨by omega, h⟩⟩
theorem any_tk {F : List Int} {p : Int → Bool} {k : Nat} (hk : k < F.length) : (F.take (k + 1)).any p = ((F.take k).any p || p F[k]) := by
  rw [List.take_succ_eq_append_getElem hk, List.any_append]
  simp
set_option maxRecDepth 20000 in
set_option maxHeartbeats 3200000 in
theorem staleS_any (A : Option Addr) (c : Nat) (g : List Bs.T) (A1 : Option Addr) (c1 : Nat) (F : List Int) (lo hi l1 h1 : Nat) (w : World) (h : RG w lo hi A g) (hh : hi ≤ w.heap.size) (hF : RI w l1 h1 A1 F) (hh1 : h1 ≤ w.heap.size) (hl : g.length ≤ 9223372036854775807) (hFl : F.length ≤ 9223372036854775807) (hc : Bs.staOk g F = true) :
    Calls Try.prog 38 #[.slice A g.length c, .slice A1 F.length c1] w (RetI w (Bs.staleC g F)) := by
  obtain ⟨hv, hin⟩ := Bs.staOk_iff.1 hc
  have hf := valid_fine hv
  have hg := valid_full hv
  have h8 := Bs.fine_len hf
  have C3 := Lib.hid (fun W (i : Nat) (hi2 : i < g.length) (hb : Below w.heap.size w W) => allNeedsS_any A c g i lo hi W (h.below hb hh) (Nat.le_trans hh hb.size) hf hg hi2)
  have C4 := Lib.hid (fun W (v : Int) (hb : Below w.heap.size w W) => isIn_any A1 c1 F v l1 h1 W (hF.below hb hh1) hFl)
  have HNT := Lib.hid (fun k j (hj : j < F.length) => needs2_test (g := g) (k := k) (Bs.inG_mem hin F[j] (List.getElem_mem hj)))
  have HNL := Lib.hid (fun k => Bs.needs2_len g k)
  have HST := Lib.hid (fun i => show Bs.stB g F i = (F.contains (i : Int) || (F.take F.length).any fun x => Bs.reachB g i x.toNat) from by rw [List.take_length]; rfl)
  have HFR := Lib.hid (fun W (hb : Below w.heap.size w W) => hF.below hb hh1)
  have hb0 : Below w.heap.size w (w.alloc (.cells #[] 3)) := (Below.refl _ _).alloc (Nat.le_refl _) _
  have o0 := OI.new w w.heap.size (Nat.le_refl _)
  have HSC := Lib.hid (show Bs.staleC g F = Bs.pick g.length (Bs.stB g F) from rfl)
  have HPL := Lib.hid (fun k => Bs.pick_len k (Bs.stB g F))
  have HPS := Lib.hid (fun k => Bs.pick_snoc k (Bs.stB g F))
  have HPK := Lib.hid (fun k => Bs.pick_skip k (Bs.stB g F))
  have HP0 := Lib.hid (show Bs.pick 0 (Bs.stB g F) = [] from rfl)
  have HO0 := Lib.hid o0
  have HB0 := Lib.hid hb0
  clear h hF hc hv hin hf hg o0 hb0
  generalize Bs.staleC g F = SC at *
  generalize hst : Bs.stB g F = sb at *
  clear hst
  go_enter Try.func38, Try.ntmps38
  go_wp2
  go_loopw [5, 6] (fun v i wr => ∃ (k : Nat) (A' : Option Addr) (c' : Nat), k ≤ g.length ∧ i = .int .i64 k ∧ v = .slice A' (Bs.pick k sb).length c' ∧ OI wr w.heap.size A' c' (Bs.pick k sb) ∧ Below w.heap.size w wr) (fun _ i _ => g.length - (intOf i).toNat)
  case atStart => exact ⟨0, _, _, Nat.zero_le _, rfl, rfl, HO0.out, HB0.out⟩
  case round =>
    obtain ⟨k, A', c', hk, rfl, rfl, ho, hb⟩ := hrel
    have sr := hb.size
    by_cases hlt : k < g.length
    · have C5 := Lib.hid (C3.out wr k hlt hb)
      have hpl := HPL.out k
      have hnl := HNL.out k
      have hps := HPS.out k
      have hpk := HPK.out k
      have hnt := HNT.out k
      have hstk := HST.out k
      have H1 := Lib.hid hps
      have H2 := Lib.hid hpk
      have H3 := Lib.hid hnt
      have H4 := Lib.hid hstk
      have HO := Lib.hid ho
      have HB := Lib.hid hb
      clear hps hpk hnt hstk ho hb HO0 HB0 HPL HNL HPS HPK HNT HST HSC C3
      generalize Bs.needs2 g k = M at *
      generalize Bs.pick k sb = L at *
      generalize hrk : Bs.reachB g k = rk at *
      clear hrk
      go_wp2_with fail
      refine (C5.out).mono ?_; rintro e w2 ⟨⟨A2, c2, rfl, ho2⟩, hb2⟩
      have HQ2 := Lib.hid ho2.ri
      have s2 := hb2.size
      have HO2 := Lib.hid (HO.out.below hb2 (Nat.le_refl _))
      have HB2 := Lib.hid (HB.out.trans (hb2.mono sr))
      have C6 := Lib.hid (C4.out w2 (k : Int) HB2.out)
      have HF2 := Lib.hid (HFR.out w2 HB2.out)
      have C7 := Lib.hid (fun v => isIn_any A2 c2 M v _ _ w2 HQ2.out (by omega))
      clear ho2 hb2 C5 C4 HFR HO HB
      go_wp2_with fail
      refine (C6.out).mono ?_; rintro e _ ⟨rfl, rfl⟩
      generalize F.contains (k : Int) = fc at *
      go_wp2
      go_loop [8, 9] (fun s j => ∃ (p : Nat) (b : Bool), p ≤ F.length ∧ j = .int .i64 p ∧ s = .bool b ∧ b = (fc || (F.take p).any fun x => rk x.toNat)) (fun _ j => F.length - (intOf j).toNat)
      case atStart => exact ⟨0, fc, Nat.zero_le _, rfl, rfl, by simp⟩
      case round =>
        obtain ⟨p, b, hp, rfl, rfl, hb⟩ := hrel
        by_cases hlt2 : p < F.length
        · obtain ⟨bf, of, rfl, _, _, hcf⟩ := HF2.out.at_ hlt2
          have c7 := C7.out F[p]
          rw [H3.out p hlt2] at c7
          have C8 := Lib.hid c7
          have HN := Lib.hid (show (fc || (F.take (p + 1)).any fun x => rk x.toNat) = (b || rk F[p].toNat) from by rw [any_tk hlt2, hb, Bool.or_assoc])
          clear hb c7
          generalize rk F[p].toNat = q at *
          generalize F[p] = x at *
          cases b
          · go_wp2_with (go_at_call 57; (with_reducible refine (C8.out).mono ?_); rintro e w' ⟨rfl, rfl⟩)
            go_round
            case rel => exact ⟨p + 1, q, by omega, by go_num, by first | rfl | simp, by rw [HN.out]; rfl⟩
            case measure => simp [intOf]; omega
          · go_wp2_with fail
            go_round
            case rel => exact ⟨p + 1, true, by omega, by go_num, by first | rfl | simp, by rw [HN.out]; rfl⟩
            case measure => simp [intOf]; omega
        · obtain rfl : p = F.length := by omega
          have hb' : sb k = b := by rw [H4.out, hb]
          clear hb
          cases b
          · have HP := Lib.hid (H2.out hb')
            clear hb'
            go_wp2
            go_roundw
            case rel => exact ⟨k + 1, A', c', by omega, by go_num, by rw [HP.out], by rw [HP.out]; exact HO2.out, HB2.out⟩
            case measure => simp [intOf]; omega
          · have HP := Lib.hid (H1.out hb')
            clear hb'
            go_wp2_with (at_builtin; go_loud (refine push_int rfl _ _ rfl w.heap.size A' c' L (k : Int) rfl (HO2.out.alloc _) (World.heap _).size 1 rfl (by simp [go_sem]) (by omega) (by simp; omega) ?_; intro A3 c3 w3 ho3 hb3 _))
            go_roundw
            case rel => exact ⟨k + 1, A3, c3, by omega, by go_num, by rw [HP.out, List.length_append]; rfl, by rw [HP.out]; exact ho3, (HB2.out.alloc (by omega) _).trans hb3⟩
            case measure => simp [intOf]; omega
    · obtain rfl : k = g.length := by omega
      go_wp2
      go_ret
      rw [HSC.out]
      exact ⟨⟨A', c', rfl, ho⟩, hb⟩
theorem StaleTasksS_any (A : Option Addr) (c : Nat) (g : List Bs.T) (A1 : Option Addr) (c1 : Nat) (F : List Int) (lo hi l1 h1 : Nat) (w : World) (h : RG w lo hi A g) (hh : hi ≤ w.heap.size) (hF : RI w l1 h1 A1 F) (hh1 : h1 ≤ w.heap.size) (hl : g.length ≤ 9223372036854775807) (hFl : F.length ≤ 9223372036854775807) :
    Calls Try.prog 18 #[.slice A g.length c, .slice A1 F.length c1] w (RetI w (Bs.staleL g F)) := by
  have q1 := staVF_any A c g A1 c1 F lo hi l1 h1 w h hh hF hh1 hl hFl
  cases hc : Bs.staOk g F
  · rw [hc] at q1
    have C1 := Lib.hid q1
    have HV := Lib.hid (Bs.staleL_no hc)
    clear q1 hc h hF
    go_enter Try.func18, Try.ntmps18
    go_wp2_with fail
    with_reducible refine (C1.out).mono ?_
    rintro e w1 ⟨rfl, hb⟩
    have HB := Lib.hid hb
    clear hb
    go_wp2
    go_ret
    exact RetI.nil HB.out HV.out
  · rw [hc] at q1
    have C1 := Lib.hid q1
    have C2 := Lib.hid (fun W (hb : Below w.heap.size w W) => staleS_any A c g A1 c1 F lo hi l1 h1 W (h.below hb hh) (Nat.le_trans hh hb.size) (hF.below hb hh1) (Nat.le_trans hh1 hb.size) hl hFl hc)
    have HV := Lib.hid (Bs.staleL_yes hc)
    clear q1 hc h hF
    go_enter Try.func18, Try.ntmps18
    go_wp2_with fail
    with_reducible refine (C1.out).mono ?_
    rintro e w1 ⟨rfl, hb⟩
    have HB := Lib.hid hb
    clear hb
    go_wp2_with fail
    with_reducible refine (C2.out _ HB.out).mono ?_
    rintro e w3 ⟨⟨A3, c3, rfl, ho3⟩, hb3⟩
    have HO3 := Lib.hid (ho3.base HB.out.size)
    have HB3 := Lib.hid (HB.out.trans (hb3.mono HB.out.size))
    clear ho3 hb3
    go_wp2
    go_ret
    rw [HV.out]
    exact ⟨⟨A3, c3, rfl, HO3.out⟩, HB3.out⟩
set_option maxHeartbeats 1600000 in
theorem StaleTimeS_any (A : Option Addr) (c : Nat) (g : List Bs.T) (A1 : Option Addr) (c1 : Nat) (F : List Int) (lo hi l1 h1 : Nat) (w : World) (h : RG w lo hi A g) (hh : hi ≤ w.heap.size) (hF : RI w l1 h1 A1 F) (hh1 : h1 ≤ w.heap.size) (hl : g.length ≤ 9223372036854775807) (hFl : F.length ≤ 9223372036854775807) :
    Calls Try.prog 31 #[.slice A g.length c, .slice A1 F.length c1] w fun e w' => e = .returned (.int .i64 (Bs.stalT g F)) ∧ Below w.heap.size w w' := by
  have q1 := staVF_any A c g A1 c1 F lo hi l1 h1 w h hh hF hh1 hl hFl
  cases hc : Bs.staOk g F
  · rw [hc] at q1
    have C1 := Lib.hid q1
    have HV := Lib.hid (Bs.stalT_no hc)
    clear q1 hc h hF
    go_enter Try.func31, Try.ntmps31
    go_wp2_with fail
    with_reducible refine (C1.out).mono ?_
    rintro e w1 ⟨rfl, hb⟩
    have HB := Lib.hid hb
    clear hb
    go_wp2
    go_ret
    exact ⟨ret_int HV.out.symm, HB.out⟩
  · rw [hc] at q1
    have C1 := Lib.hid q1
    have C2 := Lib.hid (fun W (hb : Below w.heap.size w W) => staleS_any A c g A1 c1 F lo hi l1 h1 W (h.below hb hh) (Nat.le_trans hh hb.size) (hF.below hb hh1) (Nat.le_trans hh1 hb.size) hl hFl hc)
    have hf := valid_fine (Bs.staOk_iff.1 hc).1
    have HV := Lib.hid (Bs.stalT_yes hc)
    have HIN := Lib.hid (fun k (hk : k < (Bs.staleC g F).length) => Bs.stale_in _ (List.getElem_mem hk))
    have hlen := Bs.staleC_len g F
    have h8 := Bs.fine_len hf
    have HT := Lib.hid (fun i (hi : i < g.length) => And.intro (Bs.fine_time hf hi) (time_at (g := g) hi))
    have HTK := Lib.hid (fun k (hk : k < (Bs.staleC g F).length) => stale_take (g := g) (Bs.staleC g F) hk)
    have HG := Lib.hid h
    clear q1 hc h hF hf
    generalize Bs.staleC g F = L at *
    go_enter Try.func31, Try.ntmps31
    go_wp2_with fail
    with_reducible refine (C1.out).mono ?_
    rintro e w1 ⟨rfl, hb⟩
    have HB := Lib.hid hb
    clear hb
    go_wp2_with fail
    with_reducible refine (C2.out _ HB.out).mono ?_
    rintro e w2 ⟨⟨A2, c2, rfl, ho2⟩, hb2⟩
    have HR2 := Lib.hid ho2.ri
    have HB2 := Lib.hid (HB.out.trans (hb2.mono HB.out.size))
    clear ho2 hb2 C1 C2
    go_wp2
    go_loop [5, 7] (fun s i => ∃ (k : Nat) (t : Int), k ≤ L.length ∧ i = .int .i64 k ∧ s = .int .i64 t ∧ t = Bs.sumZ ((L.take k).map fun x => Bs.timeOf g x.toNat) ∧ 0 ≤ t ∧ t ≤ 20 * k) (fun _ i => L.length - (intOf i).toNat)
    case atStart => exact ⟨0, 0, Nat.zero_le _, rfl, rfl, by simp [Bs.sumZ], by omega, by omega⟩
    case round =>
      obtain ⟨k, t, hk, rfl, rfl, ht, ht0, ht1⟩ := hrel
      by_cases hlt : k < L.length
      · obtain ⟨bt, ot, rfl, _, _, hct⟩ := HR2.out.at_ hlt
        have hin := HIN.out k hlt
        have htk := HTK.out k hlt
        obtain ⟨v, hv⟩ : ∃ v : Nat, L[k] = (v : Int) := ⟨L[k].toNat, by omega⟩
        rw [hv] at hct hin
        rw [hv, Int.toNat_natCast, ← ht] at htk
        have hvg : v < g.length := by omega
        obtain ⟨⟨t0, t1⟩, te⟩ := HT.out v hvg
        obtain ⟨bg, og, N, cN, rfl, _, hgh, q0, q1, q2, q3, hlN, hcN, hN⟩ := (HG.out.below HB2.out hh) v hvg
        rw [te] at t0 t1 htk
        have HTN := Lib.hid htk
        have i0 : (0 : Int) ≤ (v : Int) := by omega
        have i1 : (v : Int) < (g.length : Int) := by omega
        clear hv hin htk ht te hN q1 q2 q3 HIN HTK HT
        generalize g[v].time = x at *
        have hw : IntKind.i64.wrap (t + x) = t + x := IntWalk.i64_in _ ⟨by omega, by omega⟩
        go_wp2
        go_round
        case rel => exact ⟨k + 1, t + x, by omega, by go_num, by first | rfl | rw [hw], HTN.out.symm, by omega, by omega⟩
        case measure => simp [intOf]; omega
      · have e : L.take k = L := List.take_of_length_le (by omega)
        rw [e] at ht
        have HT2 := Lib.hid (show t = Bs.stalT g F from by rw [HV.out, ht])
        clear ht e
        go_wp2
        go_ret
        exact ⟨ret_int HT2.out, HB2.out⟩
end Go.Proofs.Ytggekdohcancbaa
