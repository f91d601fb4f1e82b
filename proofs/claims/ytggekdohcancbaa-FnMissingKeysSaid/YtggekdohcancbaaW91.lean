/-
  WALKS: inputs of tasks, keys of tasks, keys that are not stored, of the program.
-/
import Derived.Test.YtggekdohcancbaaW90
namespace Go.Proofs.Ytggekdohcancbaa
open Go.RowKit
theorem inpOk_no1 {g : List Bs.T} {inp : List Int} (h : Bs.valid g = false) : Bs.inpOk g inp = false := by unfold Bs.inpOk; rw [h]; rfl
theorem inpOk_no2 {g : List Bs.T} {inp : List Int} (h : inp.length ≠ g.length) : Bs.inpOk g inp = false := by unfold Bs.inpOk; simp [h]
theorem inpOk_no3 {g : List Bs.T} {inp : List Int} (h : Bs.allInB inp 0 1000 = false) : Bs.inpOk g inp = false := by unfold Bs.inpOk; rw [h]; simp
theorem allInB_bad {l : List Int} {a b : Int} {k : Nat} (hk : k < l.length) (h : ¬ (a ≤ l[k] ∧ l[k] ≤ b)) : Bs.allInB l a b = false := by
  cases e : Bs.allInB l a b
  · rfl
  · exact absurd (Bs.allInB_get e hk) h
theorem allInB_good {l : List Int} {a b : Int} (h : ∀ j (hj : j < l.length), a ≤ l[j] ∧ l[j] ≤ b) : Bs.allInB l a b = true := by
  refine Bs.allInB_of ?_
  intro x hx
  obtain ⟨j, hj, rfl⟩ := List.mem_iff_getElem.1 hx
  exact h j hj
set_option maxHeartbeats 1600000 in
theorem validInputs_any (A : Option Addr) (c : Nat) (g : List Bs.T) (A1 : Option Addr) (c1 : Nat) (inp : List Int) (lo hi l1 h1 : Nat) (w : World) (h : RG w lo hi A g) (hh : hi ≤ w.heap.size) (hF : RI w l1 h1 A1 inp) (hh1 : h1 ≤ w.heap.size) (hl : g.length ≤ 9223372036854775807) (hFl : inp.length ≤ 9223372036854775807) :
    Calls Try.prog 50 #[.slice A g.length c, .slice A1 inp.length c1] w fun e w' => e = .returned (.bool (Bs.inpOk g inp)) ∧ Below w.heap.size w w' := by
  have q1 := ValidGraph_any A c g lo hi w h hh hl
  cases hv : Bs.valid g
  · rw [hv] at q1
    have C1 := Lib.hid q1
    have HV := Lib.hid (inpOk_no1 (inp := inp) hv)
    clear q1 hv h hF
    go_enter Try.func50, Try.ntmps50
    go_wp2_with fail
    with_reducible refine (C1.out).mono ?_
    rintro e w1 ⟨rfl, hb⟩
    have HB := Lib.hid hb
    clear hb
    go_wp2
    go_ret
    exact ⟨ret_bool HV.out.symm, HB.out⟩
  · rw [hv] at q1
    have C1 := Lib.hid q1
    by_cases hlen : inp.length = g.length
    rotate_left
    · have HV := Lib.hid (inpOk_no2 hlen)
      have d1 : ((inp.length : Int) != (g.length : Int)) = true := by simp; omega
      have d2 : ((inp.length : Int) == (g.length : Int)) = false := by rw [beq_eq_false_iff_ne]; omega
      clear q1 hv h hF hlen
      go_enter Try.func50, Try.ntmps50
      go_wp2_with fail
      with_reducible refine (C1.out).mono ?_
      rintro e w1 ⟨rfl, hb⟩
      have HB := Lib.hid hb
      clear hb
      go_wp2
      go_ret
      exact ⟨ret_bool HV.out.symm, HB.out⟩
    · have HV3 := Lib.hid (fun k (hk : k < inp.length) (hb : ¬ (0 ≤ inp[k] ∧ inp[k] ≤ 1000)) => inpOk_no3 (g := g) (allInB_bad hk hb))
      have HVY := Lib.hid (fun (ha : ∀ j (hj : j < inp.length), 0 ≤ inp[j] ∧ inp[j] ≤ 1000) => Bs.inpOk_iff.2 ⟨hv, hlen, allInB_good ha⟩)
      have d1 : ((inp.length : Int) != (g.length : Int)) = false := by simp; omega
      have d2 : ((inp.length : Int) == (g.length : Int)) = true := by simp; omega
      have HF := Lib.hid hF
      clear q1 hv h hF hlen
      generalize Bs.inpOk g inp = V at *
      generalize g.length = gl at *
      go_enter Try.func50, Try.ntmps50
      go_wp2_with fail
      with_reducible refine (C1.out).mono ?_
      rintro e w1 ⟨rfl, hb⟩
      have HB := Lib.hid hb
      have HF1 := Lib.hid (HF.out.below hb hh1)
      clear hb HF C1
      go_wp2
      go_loop [19] (fun i => ∃ k : Nat, k ≤ inp.length ∧ i = .int .i64 k ∧ ∀ j (hj : j < inp.length), j < k → 0 ≤ inp[j] ∧ inp[j] ≤ 1000) (fun i => inp.length - (intOf i).toNat)
      case atStart => exact ⟨0, Nat.zero_le _, rfl, by intro j _ h; omega⟩
      case round =>
        obtain ⟨k, hk, rfl, hall⟩ := hrel
        have HA := Lib.hid hall
        clear hall
        by_cases hlt : k < inp.length
        · obtain ⟨b, o, rfl, _, _, hc⟩ := HF1.out.at_ hlt
          have HB3 := Lib.hid (HV3.out k hlt)
          have HX := Lib.hid (show ∀ h : 0 ≤ inp[k] ∧ inp[k] ≤ 1000, ∀ j (hj : j < inp.length), j < k + 1 → 0 ≤ inp[j] ∧ inp[j] ≤ 1000 from by
            intro h j hj hjk
            by_cases e : j = k
            · subst e; exact h
            · exact HA.out j hj (by omega))
          clear HA HV3 HVY
          generalize inp[k] = x at *
          by_cases x0 : x < 0
          · have HE := Lib.hid (HB3.out (by omega))
            go_wp2
            go_ret
            exact ⟨ret_bool HE.out.symm, HB.out⟩
          · by_cases x1 : 1000 < x
            · have HE := Lib.hid (HB3.out (by omega))
              go_wp2
              go_ret
              exact ⟨ret_bool HE.out.symm, HB.out⟩
            · have HE := Lib.hid (HX.out ⟨by omega, by omega⟩)
              go_wp2
              go_round
              case rel => exact ⟨k + 1, by omega, by go_num, HE.out⟩
              case measure => simp [intOf]; omega
        · obtain rfl : k = inp.length := by omega
          have HE := Lib.hid (HVY.out (fun j hj => HA.out j hj hj))
          go_wp2
          go_ret
          exact ⟨ret_bool HE.out.symm, HB.out⟩
set_option maxHeartbeats 1600000 in
theorem keyOf_any (A : Option Addr) (c : Nat) (g : List Bs.T) (A1 : Option Addr) (c1 : Nat) (K : List Int) (v : Nat) (z : Int) (lo hi l1 h1 : Nat) (w : World) (h : RG w lo hi A g) (hF : RI w l1 h1 A1 K) (hv : v < g.length) (hv8 : v < 8) (hz : 0 ≤ z ∧ z ≤ 1000) (hn : ∀ x ∈ g[v].needs, 0 ≤ x ∧ x < K.length) (hnl : g[v].needs.length ≤ 100) (hK : ∀ i, 0 ≤ Bs.gi K i ∧ Bs.gi K i < 10007) :
    Calls Try.prog 52 #[.slice A g.length c, .slice A1 K.length c1, .int .i64 (v : Int), .int .i64 z] w fun e w' => e = .returned (.int .i64 (Bs.keyN K ((131 * ((v : Int) + 1) + z) % 10007) g[v].needs)) ∧ w = w' := by
  obtain ⟨bg, og, N, cN, rfl, _, hgh, q0, q1, q2, q3, hlN, hcN, hN⟩ := h v hv
  have HN := Lib.hid (fun k (hk : k < g[v].needs.length) => hn _ (List.getElem_mem hk))
  have HR := Lib.hid hN
  have HF := Lib.hid hF
  have HK := Lib.hid hK
  have HGA := Lib.hid (fun v (hv : v < K.length) => Bs.gi_at (l := K) hv)
  have HKT := Lib.hid (fun n k (hk : k < g[v].needs.length) => Bs.keyN_take K n g[v].needs k hk)
  have HKB := Lib.hid (fun n (hn : 0 ≤ n ∧ n < 10007) (l : List Int) => Bs.keyN_b K hn l)
  have i0 : (0 : Int) ≤ (v : Int) := by omega
  have i1 : (v : Int) < (g.length : Int) := by omega
  clear h hF hn hN hK q0 q2 q3
  generalize g[v].needs = nd at *
  have hw0 : IntKind.i64.wrap ((v : Int) + 1) = (v : Int) + 1 := IntWalk.i64_in _ ⟨by omega, by omega⟩
  have hw1 : IntKind.i64.wrap (131 * ((v : Int) + 1)) = 131 * ((v : Int) + 1) := IntWalk.i64_in _ ⟨by omega, by omega⟩
  have hw2 : IntKind.i64.wrap (131 * ((v : Int) + 1) + z) = 131 * ((v : Int) + 1) + z := IntWalk.i64_in _ ⟨by omega, by omega⟩
  have hnn : 0 ≤ 131 * ((v : Int) + 1) + z := by omega
  obtain ⟨n0, hn0⟩ : ∃ n0, n0 = (131 * ((v : Int) + 1) + z) % 10007 := ⟨_, rfl⟩
  have hb0 : 0 ≤ n0 ∧ n0 < 10007 := by omega
  have HN0 := Lib.hid hn0
  clear hn0
  go_enter Try.func52, Try.ntmps52
  go_wp2
  go_loop [9, 24] (fun s i => ∃ (k : Nat) (t : Int), k ≤ nd.length ∧ i = .int .i64 k ∧ s = .int .i64 t ∧ t = Bs.keyN K n0 (nd.take k) ∧ 0 ≤ t ∧ t < 10007) (fun _ i => nd.length - (intOf i).toNat)
  case atStart => exact ⟨0, n0, Nat.zero_le _, rfl, by rw [HN0.out], rfl, by omega, by omega⟩
  case round =>
    clear hw0 hw1 hw2 hnn
    obtain ⟨k, t, hk, rfl, rfl, ht, ht0, ht1⟩ := hrel
    by_cases hlt : k < nd.length
    · obtain ⟨b, o, rfl, _, _, hc⟩ := HR.out.at_ hlt
      have hx := HN.out k hlt
      have hkt := HKT.out n0 k hlt
      have hkb := HKB.out n0 hb0 (nd.take (k + 1))
      obtain ⟨x, hxe⟩ : ∃ x : Nat, nd[k] = (x : Int) := ⟨nd[k].toNat, by omega⟩
      rw [hxe] at hc hx
      rw [hxe, Int.toNat_natCast, ← ht] at hkt
      rw [hkt] at hkb
      have hxK : x < K.length := by omega
      have hq := HK.out x
      obtain ⟨b2, o2, rfl, _, _, hc2⟩ := HF.out.at_ hxK
      rw [← HGA.out x hxK] at hc2
      have HT := Lib.hid hkt
      have i2 : (0 : Int) ≤ (x : Int) := by omega
      have i3 : (x : Int) < (K.length : Int) := by omega
      clear hx hkt ht hxe HN HKT HKB HK HGA
      generalize Bs.gi K x = q at *
      have hv1 : IntKind.i64.wrap (131 * t) = 131 * t := IntWalk.i64_in _ ⟨by omega, by omega⟩
      have hv2 : IntKind.i64.wrap (131 * t + q) = 131 * t + q := IntWalk.i64_in _ ⟨by omega, by omega⟩
      have hv3 : IntKind.i64.wrap (131 * t + q + 1) = 131 * t + q + 1 := IntWalk.i64_in _ ⟨by omega, by omega⟩
      have hv4 : 0 ≤ 131 * t + q + 1 := by omega
      go_wp2
      go_round
      case rel => exact ⟨k + 1, (131 * t + q + 1) % 10007, by omega, by go_num, rfl, HT.out.symm, hkb.1, hkb.2⟩
      case measure => simp [intOf]; omega
    · have e : nd.take k = nd := List.take_of_length_le (by omega)
      rw [e] at ht
      have HT := Lib.hid (show t = Bs.keyN K ((131 * ((v : Int) + 1) + z) % 10007) nd from by rw [ht, HN0.out])
      clear ht e
      go_wp2
      go_ret
      exact ⟨ret_int HT.out, rfl⟩
set_option maxHeartbeats 1600000 in
theorem TaskKeys_any (A : Option Addr) (c : Nat) (g : List Bs.T) (A1 : Option Addr) (c1 : Nat) (inp : List Int) (lo hi l1 h1 : Nat) (w : World) (h : RG w lo hi A g) (hh : hi ≤ w.heap.size) (hF : RI w l1 h1 A1 inp) (hh1 : h1 ≤ w.heap.size) (hl : g.length ≤ 9223372036854775807) (hFl : inp.length ≤ 9223372036854775807) :
    Calls Try.prog 24 #[.slice A g.length c, .slice A1 inp.length c1] w (RetI w (Bs.keysL g inp)) := by
  have q1 := validInputs_any A c g A1 c1 inp lo hi l1 h1 w h hh hF hh1 hl hFl
  cases hc : Bs.inpOk g inp
  · rw [hc] at q1
    have C1 := Lib.hid q1
    have HV := Lib.hid (Bs.keysL_no hc)
    clear q1 hc h hF
    go_enter Try.func24, Try.ntmps24
    go_wp2_with fail
    with_reducible refine (C1.out).mono ?_
    rintro e w1 ⟨rfl, hb⟩
    have HB := Lib.hid hb
    clear hb
    go_wp2
    go_ret
    exact RetI.nil HB.out HV.out
  · rw [hc] at q1
    have C1 := Lib.hid q1
    obtain ⟨hv, hlen, hall⟩ := Bs.inpOk_iff.1 hc
    have hf := valid_fine hv
    have hg := valid_full hv
    have h8 := Bs.fine_len hf
    have q2 := fun W (hb : Below w.heap.size w W) => TopOrder_any A c g lo hi W (h.below hb hh) (Nat.le_trans hh hb.size) hl
    rw [show Bs.topL g = Bs.top g from topL_yes hv] at q2
    have C2 := Lib.hid q2
    have hdl := (Bs.top_dist g).le
    have HTR := Lib.hid (fun k (hk : k < (Bs.top g).length) => Bs.top_range (g := g) hk)
    have HTL := Lib.hid (show (Bs.top g).length = g.length from hg)
    have HKL := Lib.hid (fun k hk => Bs.keysK_len g inp k hk)
    have HKS := Lib.hid (fun k hk v (hv : v < g.length) (e : (Bs.top g)[k] = (v : Int)) => show Bs.keysK g inp (k + 1) = (Bs.keysK g inp k).set v (Bs.keyN (Bs.keysK g inp k) ((131 * ((v : Int) + 1) + Bs.gi inp v) % 10007) g[v].needs) from by
      rw [Bs.keysK_succ g inp k hk, e]
      unfold Bs.keyS Bs.keyV Bs.key0
      rw [Int.toNat_natCast, Bs.need_eq hv])
    have HCC := Lib.hid (show Bs.keysK g inp (Bs.top g).length = Bs.keysC g inp from rfl)
    have HIN := Lib.hid (fun v (hv : v < inp.length) => And.intro (Bs.gi_at (l := inp) hv) (Bs.allInB_get hall hv))
    have HND := Lib.hid (fun v (hv : v < g.length) => And.intro (Bs.fine_needs_len hf hv) (fun x (hx : x ∈ g[v].needs) => Bs.fine_need hf (i := v) (x := x) (by rw [need_at hv]; exact hx)))
    have C3 := Lib.hid (fun (W : World) (Ak : Option Addr) (ck : Nat) (K : List Int) (v : Nat) (z : Int) (l2 h2 : Nat) (hb : Below w.heap.size w W) (hK : RI W l2 h2 Ak K) hv hv8 hz hn hnl hKb => keyOf_any A c g Ak ck K v z lo hi l2 h2 W (h.below hb hh) hK hv hv8 hz hn hnl hKb)
    have HF := Lib.hid hF
    have HV := Lib.hid (Bs.keysL_yes hc)
    have HLN := Lib.hid hlen
    have hmk := make_ints g.length (by omega)
    have hK0 := Lib.hid (show Bs.keysK g inp 0 = List.replicate g.length 0 from rfl)
    clear q1 q2 hc h hF hv hlen hall hf hg
    go_enter Try.func24, Try.ntmps24
    go_wp2_with fail
    with_reducible refine (C1.out).mono ?_
    rintro e w1 ⟨rfl, hb1⟩
    have s1 := hb1.size
    have hb1a : Below w.heap.size w (w1.alloc (.cells (intsA (List.replicate g.length 0)) 3)) := hb1.alloc s1 _
    have B1 : Arr (w1.alloc (.cells (intsA (List.replicate g.length 0)) 3)) w1.heap.size (Bs.keysK g inp 0) := by rw [hK0.out]; exact Blk.new w1 3 _
    generalize (.cells (intsA (List.replicate g.length 0)) 3 : Obj) = ob at *
    clear hb1
    go_wp2_with fail
    with_reducible refine (C2.out _ hb1a).mono ?_
    rintro e w2 ⟨⟨A2, c2, rfl, ho2⟩, hb2⟩
    have s2 := hb2.size
    simp only [World.size_alloc] at s2
    have HB2 := Lib.hid (hb1a.trans (hb2.mono hb1a.size))
    have hr2 := ho2.ri
    simp only [World.size_alloc] at hr2
    have HR2 := Lib.hid hr2
    have B2 := Lib.hid (B1.below hb2 (by simp))
    clear ho2 B1 hmk hb1a hr2 hb2 C1 C2 hK0
    generalize Bs.top g = T at *
    go_wp2
    go_loopw [18] (fun i wr => ∃ k : Nat, k ≤ T.length ∧ i = .int .i64 k ∧ Arr wr w1.heap.size (Bs.keysK g inp k) ∧ RI wr (w1.heap.size + 1) w2.heap.size A2 T ∧ w2.heap.size ≤ wr.heap.size ∧ Below w.heap.size w wr) (fun i _ => T.length - (intOf i).toNat)
    case atStart => exact ⟨0, Nat.zero_le _, rfl, B2.out, HR2.out, Nat.le_refl _, HB2.out⟩
    case round =>
      obtain ⟨k, hk, rfl, hB, hq, hsz, hb⟩ := hrel
      clear HR2 HB2 B2
      have hkl := HKL.out k hk
      by_cases hlt : k < T.length
      · obtain ⟨bt, ot, rfl, _, hbt, hct⟩ := hq.at_ hlt
        have htr := HTR.out k hlt
        obtain ⟨v, hv⟩ : ∃ v : Nat, T[k] = (v : Int) := ⟨T[k].toNat, by omega⟩
        rw [hv] at hct htr
        have hvg : v < g.length := by omega
        have hks := HKS.out k hlt v hvg hv
        have hvi : v < inp.length := by have := HLN.out; omega
        obtain ⟨bi, oi, rfl, _, _, hci⟩ := (HF.out.below hb hh1).at_ hvi
        obtain ⟨hgi, hir⟩ := HIN.out v hvi
        obtain ⟨hnl, hnd⟩ := HND.out v hvg
        rw [← hgi] at hir hci
        have C4 := Lib.hid (C3.out wr (some ⟨w1.heap.size, 0, none⟩) g.length (Bs.keysK g inp k) v (Bs.gi inp v) _ _ hb (hB.oi (B := w.heap.size) s1 (by omega)).ri hvg (by omega) hir (fun x hx => by have := hnd x hx; omega) (by omega) hkl.2)
        rw [hkl.1] at C4
        have kf := hB.frozen v
        have kc := hB.cell (i := v) (by omega)
        have H1 := Lib.hid hks
        have H2 := Lib.hid hB
        have H3 := Lib.hid hq
        have H4 := Lib.hid hb
        have i0 : (0 : Int) ≤ (v : Int) := by omega
        have i1 : (v : Int) < (g.length : Int) := by omega
        have i2 : (v : Int) < (inp.length : Int) := by omega
        clear hks hB hq hb hv hgi hnd hkl C3 HTR HKS HKL HIN HND
        generalize Bs.keyN (Bs.keysK g inp k) ((131 * ((v : Int) + 1) + Bs.gi inp v) % 10007) g[v].needs = y at *
        generalize Bs.gi inp v = z at *
        go_wp2_with (go_at_call 52; (with_reducible refine (C4.out).mono ?_); rintro e w' ⟨rfl, rfl⟩)
        go_roundw
        case rel => exact ⟨k + 1, by omega, by go_num, by rw [H1.out]; exact H2.out.set_ _ _, H3.out.set_far (.inl (by simp)) _, by simpa using hsz, H4.out.setCell (by simpa using s1) _⟩
        case measure => simp [intOf]; omega
      · obtain rfl : k = T.length := by omega
        have hO := hB.oi (B := w.heap.size) s1 (by omega)
        rw [HCC.out] at hO hkl
        rw [hkl.1] at hO
        have HL := Lib.hid hkl.1
        have HO := Lib.hid hO
        have HB := Lib.hid hb
        clear hB hO hb hq hkl HKS HKL HTR
        go_wp2
        go_ret
        refine ⟨⟨_, _, ?_, by rw [HV.out]; exact HO.out⟩, HB.out⟩
        rw [HV.out, HL.out]
        rfl
theorem isStored_any (A : Option Addr) (c : Nat) (l : List Int) (n : Int) (lo hi : Nat) (w : World) (h : RI w lo hi A l) (hl : l.length ≤ 9223372036854775807) :
    Calls Try.prog 56 #[.slice A l.length c, .int .i64 n] w fun e w' => e = .returned (.bool (l.contains n)) ∧ w = w' := by
  have HR := Lib.hid h
  obtain ⟨V, hV⟩ : ∃ V, V = l.contains n := ⟨_, rfl⟩
  rw [← hV]
  have HV := Lib.hid hV
  clear h hV
  go_enter Try.func56, Try.ntmps56
  go_wp2
  go_loop [9] (fun i => ∃ k : Nat, k ≤ l.length ∧ i = .int .i64 k ∧ n ∉ l.take k) (fun i => l.length - (intOf i).toNat)
  case atStart => exact ⟨0, Nat.zero_le _, rfl, by simp⟩
  case round =>
    obtain ⟨k, hk, rfl, hn⟩ := hrel
    by_cases hlt : k < l.length
    · obtain ⟨b, o, rfl, _, _, hc⟩ := HR.out.at_ hlt
      have hs : l.take (k + 1) = l.take k ++ [l[k]] := List.take_succ_eq_append_getElem hlt
      have hm : l[k] ∈ l := List.getElem_mem hlt
      by_cases hx : l[k] = n
      · have HY := Lib.hid (show V = true from by rw [HV.out]; simp; rw [← hx]; exact hm)
        have d1 : (l[k] == n) = true := by simpa using hx
        clear hn hs hm hx
        generalize l[k] = x at *
        go_wp2
        go_ret
        exact ⟨ret_bool HY.out.symm, rfl⟩
      · have HY := Lib.hid (show n ∉ l.take (k + 1) from by rw [hs, List.mem_append, List.mem_singleton]; rintro (h | h); exact hn h; exact hx h.symm)
        have d1 : (l[k] == n) = false := by simpa using hx
        clear hn hs hm hx
        generalize l[k] = x at *
        go_wp2
        go_round
        case rel => exact ⟨k + 1, by omega, by go_num, HY.out⟩
        case measure => simp [intOf]; omega
    · rw [List.take_of_length_le (by omega)] at hn
      have HY := Lib.hid (show V = false from by rw [HV.out]; simpa using hn)
      clear hn
      go_wp2
      go_ret
      exact ⟨ret_bool HY.out.symm, rfl⟩
theorem keysL_len1000 (g : List Bs.T) (inp : List Int) : (Bs.keysL g inp).length ≤ 1000 := by
  cases hc : Bs.inpOk g inp
  · rw [Bs.keysL_no hc]; simp
  · have := Bs.fine_len (valid_fine (Bs.inpOk_iff.1 hc).1)
    have := Bs.keysL_len g inp
    omega
theorem misOk_no1 {g : List Bs.T} {inp st : List Int} (h : Bs.inpOk g inp = false) : Bs.misOk g inp st = false := by unfold Bs.misOk; rw [h]; rfl
theorem misOk_no2 {g : List Bs.T} {inp st : List Int} (h : ¬ st.length ≤ 20) : Bs.misOk g inp st = false := by unfold Bs.misOk; rw [decide_eq_false h, Bool.and_false]
set_option maxHeartbeats 1600000 in
theorem MissingKeys_any (A : Option Addr) (c : Nat) (g : List Bs.T) (A1 : Option Addr) (c1 : Nat) (inp : List Int) (A2 : Option Addr) (c2 : Nat) (st : List Int) (lo hi l1 h1 l2 h2 : Nat) (w : World) (h : RG w lo hi A g) (hh : hi ≤ w.heap.size) (hF : RI w l1 h1 A1 inp) (hh1 : h1 ≤ w.heap.size) (hS : RI w l2 h2 A2 st) (hh2 : h2 ≤ w.heap.size) (hl : g.length ≤ 9223372036854775807) (hFl : inp.length ≤ 9223372036854775807) (hSl : st.length ≤ 9223372036854775807) :
    Calls Try.prog 27 #[.slice A g.length c, .slice A1 inp.length c1, .slice A2 st.length c2] w (RetI w (Bs.missingL g inp st)) := by
  have q1 := validInputs_any A c g A1 c1 inp lo hi l1 h1 w h hh hF hh1 hl hFl
  cases hc : Bs.inpOk g inp
  · rw [hc] at q1
    have C1 := Lib.hid q1
    have HV := Lib.hid (Bs.missingL_no (misOk_no1 (st := st) hc))
    clear q1 hc h hF hS
    go_enter Try.func27, Try.ntmps27
    go_wp2_with fail
    with_reducible refine (C1.out).mono ?_
    rintro e w1 ⟨rfl, hb⟩
    have HB := Lib.hid hb
    clear hb
    go_wp2
    go_ret
    exact RetI.nil HB.out HV.out
  · rw [hc] at q1
    have C1 := Lib.hid q1
    by_cases hsl : st.length ≤ 20
    rotate_left
    · have HV := Lib.hid (Bs.missingL_no (misOk_no2 (g := g) (inp := inp) hsl))
      have d1 : (20 : Int) < (st.length : Int) := by omega
      clear q1 hc h hF hS hsl
      go_enter Try.func27, Try.ntmps27
      go_wp2_with fail
      with_reducible refine (C1.out).mono ?_
      rintro e w1 ⟨rfl, hb⟩
      have HB := Lib.hid hb
      clear hb
      go_wp2
      go_ret
      exact RetI.nil HB.out HV.out
    · have hmo := Bs.misOk_iff.2 ⟨hc, hsl⟩
      have h8 := Bs.fine_len (valid_fine (Bs.inpOk_iff.1 hc).1)
      have HV := Lib.hid (show Bs.missingL g inp st = Bs.pick g.length (Bs.misP (Bs.keysC g inp) st) from Bs.missingL_yes hmo)
      have c2' := fun W (hb : Below w.heap.size w W) => TaskKeys_any A c g A1 c1 inp lo hi l1 h1 W (h.below hb hh) (Nat.le_trans hh hb.size) (hF.below hb hh1) (Nat.le_trans hh1 hb.size) hl hFl
      rw [Bs.keysL_yes hc] at c2'
      have C2 := Lib.hid c2'
      have HKC := Lib.hid (Bs.keysC_len g inp)
      have HMP := Lib.hid (fun i => show Bs.misP (Bs.keysC g inp) st i = !st.contains (Bs.gi (Bs.keysC g inp) i) from rfl)
      have HGA := Lib.hid (fun v (hv : v < (Bs.keysC g inp).length) => Bs.gi_at (l := Bs.keysC g inp) hv)
      have HS := Lib.hid hS
      have C3 := Lib.hid (fun W n (hb : Below w.heap.size w W) => isStored_any A2 c2 st n l2 h2 W (hS.below hb hh2) hSl)
      have d1 : (st.length : Int) ≤ 20 := by omega
      have d2 : ¬ (20 : Int) < (st.length : Int) := by omega
      clear q1 c2' hc h hF hS hsl hmo
      have hHP := fun k => Bs.pick_snoc k (Bs.misP (Bs.keysC g inp) st)
      have hHK := fun k => Bs.pick_skip k (Bs.misP (Bs.keysC g inp) st)
      have hHL := fun k => Bs.pick_len k (Bs.misP (Bs.keysC g inp) st)
      have HHP := Lib.hid hHP
      have HHK := Lib.hid hHK
      have HHL := Lib.hid hHL
      have HP0 := Lib.hid (show Bs.pick 0 (Bs.misP (Bs.keysC g inp) st) = [] from rfl)
      clear hHP hHK hHL
      generalize Bs.misP (Bs.keysC g inp) st = mp at *
      generalize Bs.keysC g inp = K at *
      go_enter Try.func27, Try.ntmps27
      go_wp2_with fail
      with_reducible refine (C1.out).mono ?_
      rintro e w1 ⟨rfl, hb⟩
      have s1 := hb.size
      have HB1 := Lib.hid (hb.alloc s1 (.cells #[] 3))
      have HO1 := Lib.hid (OI.new w1 w.heap.size s1)
      clear hb C1
      go_wp2_with fail
      with_reducible refine (C2.out _ HB1.out).mono ?_
      rintro e w2 ⟨⟨A3, c3, rfl, ho3⟩, hb3⟩
      have HR3 := Lib.hid ho3.ri
      have HB3 := Lib.hid (HB1.out.trans (hb3.mono HB1.out.size))
      have HO3 := Lib.hid (HO1.out.below hb3 (Nat.le_refl _))
      have s3 := HB3.out.size
      clear ho3 hb3 C2 HO1 HB1
      go_wp2
      go_loopw [7, 24] (fun v i wr => ∃ (k : Nat) (A4 : Option Addr) (c4 : Nat), k ≤ K.length ∧ i = .int .i64 k ∧ v = .slice A4 (Bs.pick k mp).length c4 ∧ OZ wr w2.heap.size A4 c4 (Bs.pick k mp) ∧ OI wr w.heap.size A4 c4 (Bs.pick k mp) ∧ Below w2.heap.size w2 wr) (fun _ i _ => K.length - (intOf i).toNat)
      case atStart => exact ⟨0, _, _, Nat.zero_le _, rfl, rfl, .inl ⟨rfl, rfl⟩, HO3.out, Below.refl _ _⟩
      case round =>
        obtain ⟨k, A4, c4, hk, rfl, rfl, hz, ho, hb⟩ := hrel
        have sr := hb.size
        have hHB := HB3.out.trans (hb.mono s3)
        by_cases hlt : k < K.length
        · obtain ⟨b5, o5, rfl, _, _, hc5⟩ := (HR3.out.below hb (Nat.le_refl _)).at_ hlt
          rw [← HGA.out k hlt] at hc5
          have hmp := HMP.out k
          have C4 := Lib.hid (C3.out wr (Bs.gi K k) hHB)
          have hpl := HHL.out k
          have hk8 : k < 8 := by have := HKC.out; omega
          have HHPk := Lib.hid (HHP.out k)
          have HHKk := Lib.hid (HHK.out k)
          have HZ := Lib.hid hz
          have HO := Lib.hid ho
          have HBr := Lib.hid hb
          clear hz ho hb hHB HHP HHK HHL HMP C3 HGA HO3 HB3
          generalize Bs.gi K k = x at *
          generalize Bs.pick k mp = P at *
          cases hs : st.contains x
          · rw [hs] at C4 hmp
            have HP := Lib.hid (HHPk.out (by rw [hmp]; rfl))
            clear hmp hs
            go_wp2_with (first | (go_at_call 56; (with_reducible refine (C4.out).mono ?_); rintro e w' ⟨rfl, rfl⟩) | (at_builtin; go_loud (refine push_z rfl _ _ rfl w2.heap.size A4 _ P (k : Int) rfl (HZ.out.alloc _) wr.heap.size 1 rfl (by simp [go_sem]) (by omega) (by simp; omega) ?_; intro A6 c6 w6 ho6 hb6)))
            go_roundw
            case rel => exact ⟨k + 1, A6, c6, by omega, by go_num, by rw [HP.out, List.length_append]; rfl, .inr (by rw [HP.out]; exact ho6), by rw [HP.out]; exact ho6.base s3, (HBr.out.alloc sr _).trans hb6⟩
            case measure => simp [intOf]; omega
          · rw [hs] at C4 hmp
            have HK := Lib.hid (HHKk.out (by rw [hmp]; rfl))
            clear hmp hs
            go_wp2_with (go_at_call 56; (with_reducible refine (C4.out).mono ?_); rintro e w' ⟨rfl, rfl⟩)
            go_roundw
            case rel => exact ⟨k + 1, A4, c4, by omega, by go_num, by rw [HK.out], by rw [HK.out]; exact HZ.out, by rw [HK.out]; exact HO.out, HBr.out⟩
            case measure => simp [intOf]; omega
        · obtain rfl : k = K.length := by omega
          have HO := Lib.hid ho
          have HBr := Lib.hid hHB
          clear hz ho hb hHB
          go_wp2
          go_ret
          rw [HV.out, ← HKC.out]
          exact ⟨⟨A4, c4, rfl, HO.out⟩, HBr.out⟩
theorem missingL_len1000 (g : List Bs.T) (inp st : List Int) : (Bs.missingL g inp st).length ≤ 1000 := by
  cases hc : Bs.misOk g inp st
  · rw [Bs.missingL_no hc]; simp
  · have := Bs.fine_len (valid_fine (Bs.inpOk_iff.1 (Bs.misOk_iff.1 hc).1).1)
    have := Bs.missingL_len g inp st
    omega
end Go.Proofs.Ytggekdohcancbaa
