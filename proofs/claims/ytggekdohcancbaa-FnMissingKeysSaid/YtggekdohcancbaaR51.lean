/-
  WALKS: inputs of tasks, keys of tasks, keys that are not stored, of the model.
-/
import Derived.Test.YtggekdohcancbaaR50
import Derived.Test.YtggekdohcancbaaW91
namespace Go.Proofs.Ytggekdohcancbaa
open Go.RowKit
theorem validInputsS_any (A : Option Addr) (c : Nat) (g : List Bs.T) (A1 : Option Addr) (c1 : Nat) (inp : List Int) (lo hi l1 h1 : Nat) (w : World) (h : RG w lo hi A g) (hh : hi ≤ w.heap.size) (hF : RI w l1 h1 A1 inp) (hh1 : h1 ≤ w.heap.size) (hl : g.length ≤ 9223372036854775807) (hFl : inp.length ≤ 9223372036854775807) :
    Calls Try.prog 53 #[.slice A g.length c, .slice A1 inp.length c1] w fun e w' => e = .returned (.bool (Bs.inpOk g inp)) ∧ Below w.heap.size w w' := by
  have q1 := validGraphS_any A c g lo hi w h hh hl
  have q3 := fun W (hb : Below w.heap.size w W) => allIn_any A1 c1 inp 0 1000 l1 h1 W (hF.below hb hh1) hFl
  cases hv : Bs.valid g
  · rw [hv] at q1
    have C1 := Lib.hid q1
    have HV := Lib.hid (inpOk_no1 (inp := inp) hv)
    clear q1 q3 hv h hF
    go_enter Try.func53, Try.ntmps53
    go_wp2_with fail
    with_reducible refine (C1.out).mono ?_
    rintro e w1 ⟨rfl, hb⟩
    have HB := Lib.hid hb
    clear hb
    go_wp2
    go_ret
    exact ⟨ret_bool HV.out.symm, HB.out⟩
  · rw [hv] at q1
    have C1 := Lib.hid q1
    by_cases hlen : inp.length = g.length
    rotate_left
    · have HV := Lib.hid (inpOk_no2 hlen)
      have d1 : ((inp.length : Int) != (g.length : Int)) = true := by simp; omega
      have d2 : ((inp.length : Int) == (g.length : Int)) = false := by rw [beq_eq_false_iff_ne]; omega
      clear q1 q3 hv h hF hlen
      go_enter Try.func53, Try.ntmps53
      go_wp2_with fail
      with_reducible refine (C1.out).mono ?_
      rintro e w1 ⟨rfl, hb⟩
      have HB := Lib.hid hb
      clear hb
      go_wp2
      go_ret
      exact ⟨ret_bool HV.out.symm, HB.out⟩
    · have HE := Lib.hid (show Bs.inpOk g inp = Bs.allInB inp 0 1000 from by unfold Bs.inpOk; rw [hv]; simp [hlen])
      have d1 : ((inp.length : Int) != (g.length : Int)) = false := by simp; omega
      have d2 : ((inp.length : Int) == (g.length : Int)) = true := by simp; omega
      have C3 := Lib.hid q3
      clear q1 q3 hv h hF hlen
      generalize Bs.allInB inp 0 1000 = V at *
      go_enter Try.func53, Try.ntmps53
      go_wp2_with fail
      with_reducible refine (C1.out).mono ?_
      rintro e w1 ⟨rfl, hb⟩
      have HB := Lib.hid hb
      clear hb
      go_wp2_with fail
      with_reducible refine (C3.out _ HB.out).mono ?_
      rintro e w2 ⟨rfl, rfl⟩
      go_wp2
      go_ret
      exact ⟨ret_bool HE.out.symm, HB.out⟩
set_option maxRecDepth 20000 in
set_option maxHeartbeats 3200000 in
theorem keysS_any (A : Option Addr) (c : Nat) (g : List Bs.T) (A1 : Option Addr) (c1 : Nat) (inp : List Int) (lo hi l1 h1 : Nat) (w : World) (h : RG w lo hi A g) (hh : hi ≤ w.heap.size) (hF : RI w l1 h1 A1 inp) (hh1 : h1 ≤ w.heap.size) (hc : Bs.inpOk g inp = true) :
    Calls Try.prog 54 #[.slice A g.length c, .slice A1 inp.length c1] w (RetI w (Bs.keysC g inp)) := by
  obtain ⟨hv, hlen, hall⟩ := Bs.inpOk_iff.1 hc
  have hf := valid_fine hv
  have hg := valid_full hv
  have h8 := Bs.fine_len hf
  have hb0 : Below w.heap.size w (w.alloc (.cells (intsA (List.replicate g.length 0)) 3)) := (Below.refl _ _).alloc (Nat.le_refl _) _
  have C2 := Lib.hid (topOrder_ret A c g lo hi _ (h.below hb0 hh) (by simp; omega) h8)
  have hdl := (Bs.top_dist g).le
  have HTR := Lib.hid (fun k (hk : k < (Bs.top g).length) => Bs.top_range (g := g) hk)
  have HTL := Lib.hid (show (Bs.top g).length = g.length from hg)
  have HKL := Lib.hid (fun k hk => Bs.keysK_len g inp k hk)
  have HKS := Lib.hid (fun k hk v (hv : v < g.length) (e : (Bs.top g)[k] = (v : Int)) => show Bs.keysK g inp (k + 1) = (Bs.keysK g inp k).set v (Bs.keyN (Bs.keysK g inp k) ((131 * ((v : Int) + 1) + Bs.gi inp v) % 10007) g[v].needs) from by
    rw [Bs.keysK_succ g inp k hk, e]
    unfold Bs.keyS Bs.keyV Bs.key0
    rw [Int.toNat_natCast, Bs.need_eq hv])
  have HCC := Lib.hid (show Bs.keysK g inp (Bs.top g).length = Bs.keysC g inp from rfl)
  have HIN := Lib.hid (fun v (hv : v < inp.length) => And.intro (Bs.gi_at (l := inp) hv) (Bs.allInB_get hall hv))
  have HND := Lib.hid (fun v (hv : v < g.length) => And.intro (Bs.fine_needs_len hf hv) (fun x (hx : x ∈ g[v].needs) => Bs.fine_need hf (i := v) (x := x) (by rw [need_at hv]; exact hx)))
  have HKT := Lib.hid (fun K n l k (hk : k < l.length) => Bs.keyN_take K n l k hk)
  have HKB := Lib.hid (fun K n (hn : 0 ≤ n ∧ n < 10007) (l : List Int) => Bs.keyN_b K hn l)
  have HF := Lib.hid hF
  have HG := Lib.hid h
  have HLN := Lib.hid hlen
  have hmk := make_ints g.length (by omega)
  have B1 : Arr (w.alloc (.cells (intsA (List.replicate g.length 0)) 3)) w.heap.size (Bs.keysK g inp 0) := Blk.new w 3 _
  have hsz0 : (w.alloc (.cells (intsA (List.replicate g.length 0)) 3)).heap.size = w.heap.size + 1 := by simp
  clear hc h hF hv hlen hall hf hg
  go_enter Try.func54, Try.ntmps54
  generalize (.cells (intsA (List.replicate g.length 0)) 3 : Obj) = ob at *
  go_wp2_with fail
  refine (C2.out).mono ?_
  rintro e w2 ⟨⟨A2, c2, rfl, ho2⟩, hb2⟩
  have s2 := hb2.size
  rw [hsz0] at s2
  have HB2 := Lib.hid (hb0.trans (hb2.mono hb0.size))
  have hr2 := ho2.ri
  rw [hsz0] at hr2
  have HR2 := Lib.hid hr2
  have B2 := Lib.hid (B1.below hb2 (by rw [hsz0]; omega))
  clear ho2 B1 hmk hb0 hr2 hb2 C2 hsz0
  generalize Bs.top g = T at *
  go_wp2
  go_loopw [7] (fun i wr => ∃ k : Nat, k ≤ T.length ∧ i = .int .i64 k ∧ Arr wr w.heap.size (Bs.keysK g inp k) ∧ RI wr (w.heap.size + 1) w2.heap.size A2 T ∧ w2.heap.size ≤ wr.heap.size ∧ Below w.heap.size w wr) (fun i _ => T.length - (intOf i).toNat)
  case atStart => exact ⟨0, Nat.zero_le _, rfl, B2.out, HR2.out, Nat.le_refl _, HB2.out⟩
  case round =>
    obtain ⟨k, hk, rfl, hB, hq, hsz, hb⟩ := hrel
    clear HR2 HB2 B2
    have hkl := HKL.out k hk
    by_cases hlt : k < T.length
    · obtain ⟨bt, ot, rfl, _, hbt, hct⟩ := hq.at_ hlt
      have htr := HTR.out k hlt
      obtain ⟨v, hv⟩ : ∃ v : Nat, T[k] = (v : Int) := ⟨T[k].toNat, by omega⟩
      rw [hv] at hct htr
      have hvg : v < g.length := by omega
      have hks := HKS.out k hlt v hvg hv
      have hvi : v < inp.length := by have := HLN.out; omega
      obtain ⟨bi, oi, rfl, _, _, hci⟩ := (HF.out.below hb hh1).at_ hvi
      obtain ⟨hgi, hir⟩ := HIN.out v hvi
      obtain ⟨hnl, hnd⟩ := HND.out v hvg
      rw [← hgi] at hir hci
      obtain ⟨bg, og, N, cN, rfl, _, hgh, q0, q1, q2, q3, hlN, hcN, hN⟩ := (HG.out.below hb hh) v hvg
      have kf := hB.frozen v
      have kc := hB.cell (i := v) (by omega)
      have H1 := Lib.hid hks
      have H2 := Lib.hid hB
      have H3 := Lib.hid hq
      have H4 := Lib.hid hb
      have HKL2 := Lib.hid hkl
      have HNN := Lib.hid hN
      have HDD := Lib.hid hnd
      have hkt := fun n p (hp : p < g[v].needs.length) => HKT.out (Bs.keysK g inp k) n g[v].needs p hp
      have hkb := fun n (hn : 0 ≤ n ∧ n < 10007) l => HKB.out (Bs.keysK g inp k) n hn l
      have HT := Lib.hid hkt
      have HTB := Lib.hid hkb
      have i0 : (0 : Int) ≤ (v : Int) := by omega
      have i1 : (v : Int) < (g.length : Int) := by omega
      have i2 : (v : Int) < (inp.length : Int) := by omega
      have hnl8 : g[v].needs.length ≤ 8 := by omega
      have hv8 : v < 8 := by omega
      clear hks hB hq hb hv hgi hnd hkl hN hkt hkb hnl HTR HKS HKL HIN HND HKT HKB q0 q2 q3
      generalize Bs.keysK g inp k = K at *
      generalize g[v].needs = nd at *
      generalize Bs.gi inp v = z at *
      have hw0 : IntKind.i64.wrap ((v : Int) + 1) = (v : Int) + 1 := IntWalk.i64_in _ ⟨by omega, by omega⟩
      have hw1 : IntKind.i64.wrap (131 * ((v : Int) + 1)) = 131 * ((v : Int) + 1) := IntWalk.i64_in _ ⟨by omega, by omega⟩
      have hw2 : IntKind.i64.wrap (131 * ((v : Int) + 1) + z) = 131 * ((v : Int) + 1) + z := IntWalk.i64_in _ ⟨by omega, by omega⟩
      have hnn : 0 ≤ 131 * ((v : Int) + 1) + z := by omega
      obtain ⟨n0, hn0⟩ : ∃ n0, n0 = (131 * ((v : Int) + 1) + z) % 10007 := ⟨_, rfl⟩
      have hb0 : 0 ≤ n0 ∧ n0 < 10007 := by omega
      rw [← hn0] at H1
      have HN0 := Lib.hid hn0
      clear hn0
      go_wp2
      go_loop [9, 10] (fun s j => ∃ (p : Nat) (t : Int), p ≤ nd.length ∧ j = .int .i64 p ∧ s = .int .i64 t ∧ t = Bs.keyN K n0 (nd.take p) ∧ 0 ≤ t ∧ t < 10007) (fun _ j => nd.length - (intOf j).toNat)
      case atStart => exact ⟨0, n0, Nat.zero_le _, rfl, by rw [HN0.out], rfl, by omega, by omega⟩
      case round =>
        clear hw0 hw1 hw2 hnn
        obtain ⟨p, t, hp, rfl, rfl, ht, ht0, ht1⟩ := hrel
        by_cases hlt2 : p < nd.length
        · obtain ⟨b, o, rfl, _, _, hc⟩ := HNN.out.at_ hlt2
          have hx := HDD.out nd[p] (List.getElem_mem hlt2)
          have hkt := HT.out n0 p hlt2
          have hkb := HTB.out n0 hb0 (nd.take (p + 1))
          obtain ⟨x, hxe⟩ : ∃ x : Nat, nd[p] = (x : Int) := ⟨nd[p].toNat, by omega⟩
          rw [hxe] at hc hx
          rw [hxe, Int.toNat_natCast, ← ht] at hkt
          rw [hkt] at hkb
          have hxK : x < K.length := by have := HKL2.out.1; omega
          have hq := HKL2.out.2 x
          have hc2 := H2.out.cell (i := x) hxK
          have HTN := Lib.hid hkt
          have i3 : (0 : Int) ≤ (x : Int) := by omega
          have i4 : (x : Int) < (g.length : Int) := by omega
          clear hx hkt ht hxe kc
          generalize Bs.gi K x = q at *
          have hv1 : IntKind.i64.wrap (131 * t) = 131 * t := IntWalk.i64_in _ ⟨by omega, by omega⟩
          have hv2 : IntKind.i64.wrap (131 * t + q) = 131 * t + q := IntWalk.i64_in _ ⟨by omega, by omega⟩
          have hv3 : IntKind.i64.wrap (131 * t + q + 1) = 131 * t + q + 1 := IntWalk.i64_in _ ⟨by omega, by omega⟩
          have hv4 : 0 ≤ 131 * t + q + 1 := by omega
          go_wp2
          go_round
          case rel => exact ⟨p + 1, (131 * t + q + 1) % 10007, by omega, by go_num, rfl, HTN.out.symm, hkb.1, hkb.2⟩
          case measure => simp [intOf]; omega
        · have e : nd.take p = nd := List.take_of_length_le (by omega)
          rw [e] at ht
          have HTE := Lib.hid ht
          clear ht e
          go_wp2
          go_roundw
          case rel => exact ⟨k + 1, by omega, by go_num, by rw [H1.out, ← HTE.out]; exact H2.out.set_ _ _, H3.out.set_far (.inl (by simp)) _, by simpa using hsz, H4.out.setCell (by simp) _⟩
          case measure => simp [intOf]; omega
    · obtain rfl : k = T.length := by omega
      have hO := hB.oi (B := w.heap.size) (Nat.le_refl _) (by omega)
      rw [HCC.out] at hO hkl
      rw [hkl.1] at hO
      have HL := Lib.hid hkl.1
      have HO := Lib.hid hO
      have HB := Lib.hid hb
      clear hB hO hb hq hkl HKS HKL HTR
      go_wp2
      go_ret
      refine ⟨⟨_, _, ?_, HO.out⟩, HB.out⟩
      rw [HL.out]
      rfl
theorem TaskKeysS_any (A : Option Addr) (c : Nat) (g : List Bs.T) (A1 : Option Addr) (c1 : Nat) (inp : List Int) (lo hi l1 h1 : Nat) (w : World) (h : RG w lo hi A g) (hh : hi ≤ w.heap.size) (hF : RI w l1 h1 A1 inp) (hh1 : h1 ≤ w.heap.size) (hl : g.length ≤ 9223372036854775807) (hFl : inp.length ≤ 9223372036854775807) :
    Calls Try.prog 25 #[.slice A g.length c, .slice A1 inp.length c1] w (RetI w (Bs.keysL g inp)) := by
  have q1 := validInputsS_any A c g A1 c1 inp lo hi l1 h1 w h hh hF hh1 hl hFl
  cases hc : Bs.inpOk g inp
  · rw [hc] at q1
    have C1 := Lib.hid q1
    have HV := Lib.hid (Bs.keysL_no hc)
    clear q1 hc h hF
    go_enter Try.func25, Try.ntmps25
    go_wp2_with fail
    with_reducible refine (C1.out).mono ?_
    rintro e w1 ⟨rfl, hb⟩
    have HB := Lib.hid hb
    clear hb
    go_wp2
    go_ret
    exact RetI.nil HB.out HV.out
  · rw [hc] at q1
    have C1 := Lib.hid q1
    have C2 := Lib.hid (fun W (hb : Below w.heap.size w W) => keysS_any A c g A1 c1 inp lo hi l1 h1 W (h.below hb hh) (Nat.le_trans hh hb.size) (hF.below hb hh1) (Nat.le_trans hh1 hb.size) hc)
    have HV := Lib.hid (Bs.keysL_yes hc)
    clear q1 hc h hF
    go_enter Try.func25, Try.ntmps25
    go_wp2_with fail
    with_reducible refine (C1.out).mono ?_
    rintro e w1 ⟨rfl, hb⟩
    have HB := Lib.hid hb
    clear hb
    go_wp2_with fail
    with_reducible refine (C2.out _ HB.out).mono ?_
    rintro e w3 ⟨⟨A3, c3, rfl, ho3⟩, hb3⟩
    have HO3 := Lib.hid (ho3.base HB.out.size)
    have HB3 := Lib.hid (HB.out.trans (hb3.mono HB.out.size))
    clear ho3 hb3
    go_wp2
    go_ret
    rw [HV.out]
    exact ⟨⟨A3, c3, rfl, HO3.out⟩, HB3.out⟩
set_option maxHeartbeats 1600000 in
theorem MissingKeysS_any (A : Option Addr) (c : Nat) (g : List Bs.T) (A1 : Option Addr) (c1 : Nat) (inp : List Int) (A2 : Option Addr) (c2 : Nat) (st : List Int) (lo hi l1 h1 l2 h2 : Nat) (w : World) (h : RG w lo hi A g) (hh : hi ≤ w.heap.size) (hF : RI w l1 h1 A1 inp) (hh1 : h1 ≤ w.heap.size) (hS : RI w l2 h2 A2 st) (hh2 : h2 ≤ w.heap.size) (hl : g.length ≤ 9223372036854775807) (hFl : inp.length ≤ 9223372036854775807) (hSl : st.length ≤ 9223372036854775807) :
    Calls Try.prog 28 #[.slice A g.length c, .slice A1 inp.length c1, .slice A2 st.length c2] w (RetI w (Bs.missingL g inp st)) := by
  have hb0 : Below w.heap.size w (w.alloc (.cells #[] 3)) := (Below.refl _ _).alloc (Nat.le_refl _) _
  have q1 := validInputsS_any A c g A1 c1 inp lo hi l1 h1 _ (h.below hb0 hh) (Nat.le_trans hh hb0.size) (hF.below hb0 hh1) (Nat.le_trans hh1 hb0.size) hl hFl
  cases hc : Bs.inpOk g inp
  · rw [hc] at q1
    have C1 := Lib.hid q1
    have HV := Lib.hid (Bs.missingL_no (misOk_no1 (st := st) hc))
    have HB0 := Lib.hid hb0
    clear q1 hc h hF hS hb0
    go_enter Try.func28, Try.ntmps28
    go_wp2_with fail
    refine (C1.out).mono ?_
    rintro e w1 ⟨rfl, hb⟩
    have HB := Lib.hid (HB0.out.trans (hb.mono HB0.out.size))
    clear hb
    go_wp2
    go_ret
    exact RetI.nil HB.out HV.out
  · rw [hc] at q1
    have C1 := Lib.hid q1
    by_cases hsl : st.length ≤ 20
    rotate_left
    · have HV := Lib.hid (Bs.missingL_no (misOk_no2 (g := g) (inp := inp) hsl))
      have d1 : (20 : Int) < (st.length : Int) := by omega
      have HB0 := Lib.hid hb0
      clear q1 hc h hF hS hsl hb0
      go_enter Try.func28, Try.ntmps28
      go_wp2_with fail
      refine (C1.out).mono ?_
      rintro e w1 ⟨rfl, hb⟩
      have HB := Lib.hid (HB0.out.trans (hb.mono HB0.out.size))
      clear hb
      go_wp2
      go_ret
      exact RetI.nil HB.out HV.out
    · have hmo := Bs.misOk_iff.2 ⟨hc, hsl⟩
      have h8 := Bs.fine_len (valid_fine (Bs.inpOk_iff.1 hc).1)
      have HV := Lib.hid (show Bs.missingL g inp st = Bs.pick g.length (Bs.misP (Bs.keysC g inp) st) from Bs.missingL_yes hmo)
      have C2 := Lib.hid (fun W (hb : Below w.heap.size w W) => keysS_any A c g A1 c1 inp lo hi l1 h1 W (h.below hb hh) (Nat.le_trans hh hb.size) (hF.below hb hh1) (Nat.le_trans hh1 hb.size) hc)
      have HKC := Lib.hid (Bs.keysC_len g inp)
      have HMP := Lib.hid (fun i => show Bs.misP (Bs.keysC g inp) st i = !st.contains (Bs.gi (Bs.keysC g inp) i) from rfl)
      have HGA := Lib.hid (fun v (hv : v < (Bs.keysC g inp).length) => Bs.gi_at (l := Bs.keysC g inp) hv)
      have C3 := Lib.hid (fun W n (hb : Below w.heap.size w W) => isIn_any A2 c2 st n l2 h2 W (hS.below hb hh2) hSl)
      have d1 : (st.length : Int) ≤ 20 := by omega
      have d2 : ¬ (20 : Int) < (st.length : Int) := by omega
      have o0 := OI.new w w.heap.size (Nat.le_refl _)
      have HB0 := Lib.hid hb0
      have HO0 := Lib.hid o0
      clear q1 hc h hF hS hsl hmo hb0 o0
      have hHP := fun k => Bs.pick_snoc k (Bs.misP (Bs.keysC g inp) st)
      have hHK := fun k => Bs.pick_skip k (Bs.misP (Bs.keysC g inp) st)
      have hHL := fun k => Bs.pick_len k (Bs.misP (Bs.keysC g inp) st)
      have HHP := Lib.hid hHP
      have HHK := Lib.hid hHK
      have HHL := Lib.hid hHL
      clear hHP hHK hHL
      generalize Bs.misP (Bs.keysC g inp) st = mp at *
      generalize Bs.keysC g inp = K at *
      go_enter Try.func28, Try.ntmps28
      go_wp2_with fail
      refine (C1.out).mono ?_
      rintro e w1 ⟨rfl, hb⟩
      have HB1 := Lib.hid (HB0.out.trans (hb.mono HB0.out.size))
      have s1 := HB1.out.size
      have HO1 := Lib.hid (HO0.out.below hb (Nat.le_refl _))
      clear hb C1 HB0 HO0
      go_wp2_with fail
      with_reducible refine (C2.out _ HB1.out).mono ?_
      rintro e w2 ⟨⟨A3, c3, rfl, ho3⟩, hb3⟩
      have HR3 := Lib.hid ho3.ri
      have HB3 := Lib.hid (HB1.out.trans (hb3.mono HB1.out.size))
      have HO3 := Lib.hid (HO1.out.below hb3 (Nat.le_refl _))
      have s3 := HB3.out.size
      clear ho3 hb3 C2 HO1 HB1
      go_wp2
      go_loopw [7, 9] (fun v i wr => ∃ (k : Nat) (A4 : Option Addr) (c4 : Nat), k ≤ g.length ∧ i = .int .i64 k ∧ v = .slice A4 (Bs.pick k mp).length c4 ∧ OZ wr w2.heap.size A4 c4 (Bs.pick k mp) ∧ OI wr w.heap.size A4 c4 (Bs.pick k mp) ∧ Below w2.heap.size w2 wr) (fun _ i _ => g.length - (intOf i).toNat)
      case atStart => exact ⟨0, _, _, Nat.zero_le _, rfl, rfl, .inl ⟨rfl, rfl⟩, HO3.out, Below.refl _ _⟩
      case round =>
        obtain ⟨k, A4, c4, hk, rfl, rfl, hz, ho, hb⟩ := hrel
        have sr := hb.size
        have hHB := HB3.out.trans (hb.mono s3)
        by_cases hlt : k < g.length
        · have hkK : k < K.length := by have := HKC.out; omega
          obtain ⟨b5, o5, rfl, _, _, hc5⟩ := (HR3.out.below hb (Nat.le_refl _)).at_ hkK
          rw [← HGA.out k hkK] at hc5
          have hmp := HMP.out k
          have C4 := Lib.hid (C3.out wr (Bs.gi K k) hHB)
          have hpl := HHL.out k
          have hk8 : k < 8 := by omega
          have i0 : (0 : Int) ≤ (k : Int) := by omega
          have i1 : (k : Int) < (K.length : Int) := by omega
          have i2 : (k : Int) < (g.length : Int) := by omega
          have HHPk := Lib.hid (HHP.out k)
          have HHKk := Lib.hid (HHK.out k)
          have HZ := Lib.hid hz
          have HO := Lib.hid ho
          have HBr := Lib.hid hb
          clear hz ho hb hHB HHP HHK HHL HMP C3 HGA HO3 HB3
          generalize Bs.gi K k = x at *
          generalize Bs.pick k mp = P at *
          cases hs : st.contains x
          · rw [hs] at C4 hmp
            have HP := Lib.hid (HHPk.out (by rw [hmp]; rfl))
            clear hmp hs
            go_wp2_with (first | (go_at_call 57; (with_reducible refine (C4.out).mono ?_); rintro e w' ⟨rfl, rfl⟩) | (at_builtin; go_loud (refine push_z rfl _ _ rfl w2.heap.size A4 _ P (k : Int) rfl (HZ.out.alloc _) wr.heap.size 1 rfl (by simp [go_sem]) (by omega) (by simp; omega) ?_; intro A6 c6 w6 ho6 hb6)))
            go_roundw
            case rel => exact ⟨k + 1, A6, c6, by omega, by go_num, by rw [HP.out, List.length_append]; rfl, .inr (by rw [HP.out]; exact ho6), by rw [HP.out]; exact ho6.base s3, (HBr.out.alloc sr _).trans hb6⟩
            case measure => simp [intOf]; omega
          · rw [hs] at C4 hmp
            have HK := Lib.hid (HHKk.out (by rw [hmp]; rfl))
            clear hmp hs
            go_wp2_with (go_at_call 57; (with_reducible refine (C4.out).mono ?_); rintro e w' ⟨rfl, rfl⟩)
            go_roundw
            case rel => exact ⟨k + 1, A4, c4, by omega, by go_num, by rw [HK.out], by rw [HK.out]; exact HZ.out, by rw [HK.out]; exact HO.out, HBr.out⟩
            case measure => simp [intOf]; omega
        · obtain rfl : k = g.length := by omega
          have HO := Lib.hid ho
          have HBr := Lib.hid hHB
          clear hz ho hb hHB
          go_wp2
          go_ret
          rw [HV.out]
          exact ⟨⟨A4, c4, rfl, HO.out⟩, HBr.out⟩
end Go.Proofs.Ytggekdohcancbaa
