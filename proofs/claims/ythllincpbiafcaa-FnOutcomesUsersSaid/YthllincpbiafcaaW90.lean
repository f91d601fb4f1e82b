/-
  WALKS: what can change; marks that go forward; stale tasks; their time, of the program.
-/
import Derived.Test.YthllincpbiafcaaK8
import Derived.Test.YthllincpbiafcaaK5
import Derived.Test.YthllincpbiafcaaMath71
namespace Go.Proofs.Ythllincpbiafcaa
open Go.RowKit
theorem canChange_any (A : Option Addr) (c : Nat) (g : List Bs.T) (A1 : Option Addr) (c1 : Nat) (F : List Int) (lo hi l1 h1 : Nat) (w : World) (h : RG w lo hi A g) (hh : hi ≤ w.heap.size) (hF : RI w l1 h1 A1 F) (hh1 : h1 ≤ w.heap.size) (hl : g.length ≤ 9223372036854775807) (hFl : F.length ≤ 9223372036854775807) :
    Calls Try.prog 34 #[.slice A g.length c, .slice A1 F.length c1] w fun e w' => e = .returned (.bool (Bs.staOk g F)) ∧ Below w.heap.size w w' := by
  have q1 := ValidGraph_any A c g lo hi w h hh hl
  have q2 := fun W (hb : Below w.heap.size w W) => ascendingTasks_any A g.length c A1 c1 F l1 h1 W hl (hF.below hb hh1) hFl
  have e2 : (Bs.allInB F 0 ((g.length : Int) - 1) && Bs.asc F) = Bs.inG g F := by unfold Bs.inG; rw [Bool.and_comm]
  rw [e2] at q2
  have HE := Lib.hid (show Bs.staOk g F = (Bs.valid g && Bs.inG g F) from rfl)
  clear h hF e2
  generalize Bs.valid g = v1 at *
  generalize Bs.inG g F = v2 at *
  have C1 := Lib.hid q1
  have C2 := Lib.hid q2
  clear q1 q2
  cases v1
  · go_enter Try.func34, Try.ntmps34
    go_wp2_with fail
    with_reducible refine (C1.out).mono ?_
    rintro e w1 ⟨rfl, hb⟩
    have HB := Lib.hid hb
    clear hb
    go_wp2
    go_ret
    exact ⟨ret_bool (by rw [HE.out]; rfl), HB.out⟩
  · go_enter Try.func34, Try.ntmps34
    go_wp2_with fail
    with_reducible refine (C1.out).mono ?_
    rintro e w1 ⟨rfl, hb⟩
    have HB := Lib.hid hb
    clear hb
    go_wp2_with fail
    with_reducible refine (C2.out _ HB.out).mono ?_
    rintro e w2 ⟨rfl, rfl⟩
    go_wp2
    go_ret
    exact ⟨ret_bool (by rw [HE.out]; rfl), HB.out⟩
set_option maxHeartbeats 1600000 in
theorem markStale_any (A : Option Addr) (c : Nat) (g : List Bs.T) (A1 : Option Addr) (c1 : Nat) (F : List Int) (lo hi l1 h1 : Nat) (w : World) (h : RG w lo hi A g) (hh : hi ≤ w.heap.size) (hF : RI w l1 h1 A1 F) (hl : g.length ≤ 9223372036854775807) (hFl : F.length ≤ 9223372036854775807) (hc : Bs.staOk g F = true) :
    Calls Try.prog 36 #[.slice A g.length c, .slice A1 F.length c1] w fun e w' => e = .returned (.int .u64 (Bs.markK g F (Bs.top g).length : Nat)) ∧ Below w.heap.size w w' := by
  obtain ⟨hv, hin⟩ := Bs.staOk_iff.1 hc
  obtain ⟨hf, hg⟩ := (Bs.valid_iff g).1 hv
  have h8 := Bs.fine_len hf
  have hF8 : ∀ x ∈ F, 0 ≤ x ∧ x < 8 := fun x hx => by have := Bs.inG_mem hin x hx; omega
  have C1 := Lib.hid (setOf_any A1 c1 F l1 h1 w hF hFl hF8)
  have q2 := TopOrder_any A c g lo hi w h hh hl
  rw [show Bs.topL g = Bs.top g from topL_yes hv] at q2
  have C2 := Lib.hid q2
  have HKL := Lib.hid (fun k hk => Bs.markK_lt hf hF8 k hk)
  have HKS := Lib.hid (fun k hk => show Bs.markK g F (k + 1) = (if Bs.bits (Bs.need g (Bs.top g)[k].toNat) &&& Bs.markK g F k = 0 then Bs.markK g F k else Bs.markK g F k ||| (1 <<< (Bs.top g)[k].toNat)) from Bs.markK_succ g F k hk)
  have hdl := (Bs.top_dist g).le
  have HTR := Lib.hid (fun k (hk : k < (Bs.top g).length) => Bs.top_range (g := g) hk)
  have HN8 := Lib.hid (fun v (hv : v < g.length) => And.intro (Bs.need_eight hf hv) (Bs.fine_needs_len hf hv))
  have HNA := Lib.hid (fun v (hv : v < g.length) => Bs.need_eq (g := g) hv)
  have HG := Lib.hid h
  have HK0 := Lib.hid (show Bs.markK g F 0 = Bs.bits F from rfl)
  obtain ⟨V, hV⟩ : ∃ V, V = Bs.markK g F (Bs.top g).length := ⟨_, rfl⟩
  rw [← hV]
  have HV := Lib.hid hV
  clear q2 h hF hf hg hv hin hF8 hc hV
  generalize Bs.markK g F = M at *
  rw [← HK0.out] at C1
  go_enter Try.func36, Try.ntmps36
  go_wp2_with fail
  with_reducible refine (C1.out).mono ?_
  rintro e _ ⟨rfl, rfl⟩
  go_wp2_with fail
  with_reducible refine (C2.out).mono ?_
  rintro e w2 ⟨⟨A2, c2, rfl, ho2⟩, hb2⟩
  have HR2 := Lib.hid ho2.ri
  have HG2 := Lib.hid (HG.out.below hb2 hh)
  have HB2 := Lib.hid hb2
  clear C1 C2 ho2 hb2 HG HK0
  generalize Bs.top g = T at *
  go_wp2
  go_loop [5, 13] (fun s i => ∃ k : Nat, k ≤ T.length ∧ i = .int .i64 k ∧ s = .int .u64 (M k : Nat)) (fun _ i => T.length - (intOf i).toNat)
  case atStart => exact ⟨0, Nat.zero_le _, rfl, rfl⟩
  case round =>
    obtain ⟨k, hk, rfl, rfl⟩ := hrel
    by_cases hlt : k < T.length
    · obtain ⟨bt, ot, rfl, _, hbt, hct⟩ := HR2.out.at_ hlt
      have htr := HTR.out k hlt
      obtain ⟨v, hv⟩ : ∃ v : Nat, T[k] = (v : Int) := ⟨T[k].toNat, by omega⟩
      have hks := HKS.out k hlt
      have hkl := HKL.out k (by omega)
      rw [hv] at hct htr hks
      rw [Int.toNat_natCast] at hks
      have hvg : v < g.length := by omega
      have hv8 : v < 8 := by omega
      rw [HNA.out v hvg] at hks
      obtain ⟨hn8, hnl⟩ := HN8.out v hvg
      obtain ⟨bg, og, N, cN, rfl, _, hgh, q0, q1, q2, q3, hlN, hcN, hN⟩ := HG2.out v hvg
      have C3 := Lib.hid (setOf_any N cN g[v].needs lo hi w2 hN (by omega) hn8)
      have hb := Bs.bits_lt _ hn8
      have HKN := Lib.hid hks
      have hor := Lib.hid (or_pow (M k) v hkl hv8)
      generalize Bs.bits g[v].needs = s at *
      generalize M k = m at *
      have hand : bits .and .u64 (s : Int) (m : Int) = ((s &&& m : Nat) : Int) := bits_and_u64_nat s m (by omega) (by omega)
      have i0 : (0 : Int) ≤ (v : Int) := by omega
      have i1 : (v : Int) < (g.length : Int) := by omega
      clear hv hks hn8 hN htr q0 q2 q3 HKL HKS HTR HN8 HNA
      generalize s &&& m = q at *
      by_cases hq : q = 0
      · have HQ := Lib.hid (show M (k + 1) = m from by rw [HKN.out, if_pos hq])
        subst hq
        go_wp2_with (go_at_call 29; (with_reducible refine (C3.out).mono ?_); rintro e w' ⟨rfl, rfl⟩)
        go_round
        case rel => exact ⟨k + 1, by omega, by go_num, by rw [HQ.out]⟩
        case measure => simp [intOf]; omega
      · have HQ := Lib.hid (show M (k + 1) = m ||| (1 <<< v) from by rw [HKN.out, if_neg hq])
        have d1 : ((q : Int) != 0) = true := by simp; omega
        have d2 : ((q : Int) == 0) = false := by rw [beq_eq_false_iff_ne]; omega
        clear hq
        go_wp2_with (go_at_call 29; (with_reducible refine (C3.out).mono ?_); rintro e w' ⟨rfl, rfl⟩)
        go_round
        case rel => exact ⟨k + 1, by omega, by go_num, by rw [HQ.out, hor.out]⟩
        case measure => simp [intOf]; omega
    · obtain rfl : k = T.length := by omega
      go_wp2
      go_ret
      exact ⟨ret_int (by rw [HV.out]), HB2.out⟩
theorem StaleTasks_any (A : Option Addr) (c : Nat) (g : List Bs.T) (A1 : Option Addr) (c1 : Nat) (F : List Int) (lo hi l1 h1 : Nat) (w : World) (h : RG w lo hi A g) (hh : hi ≤ w.heap.size) (hF : RI w l1 h1 A1 F) (hh1 : h1 ≤ w.heap.size) (hl : g.length ≤ 9223372036854775807) (hFl : F.length ≤ 9223372036854775807) :
    Calls Try.prog 12 #[.slice A g.length c, .slice A1 F.length c1] w (RetI w (Bs.staleL g F)) := by
  have q1 := canChange_any A c g A1 c1 F lo hi l1 h1 w h hh hF hh1 hl hFl
  cases hc : Bs.staOk g F
  · rw [hc] at q1
    have C1 := Lib.hid q1
    have HV := Lib.hid (Bs.staleL_no hc)
    clear q1 hc h hF
    go_enter Try.func12, Try.ntmps12
    go_wp2_with fail
    with_reducible refine (C1.out).mono ?_
    rintro e w1 ⟨rfl, hb⟩
    have HB := Lib.hid hb
    clear hb
    go_wp2
    go_ret
    exact RetI.nil HB.out HV.out
  · rw [hc] at q1
    have C1 := Lib.hid q1
    obtain ⟨hv, hin⟩ := Bs.staOk_iff.1 hc
    have hf := valid_fine hv
    have hF8 : ∀ x ∈ F, 0 ≤ x ∧ x < 8 := fun x hx => by have := Bs.inG_mem hin x hx; have := Bs.fine_len hf; omega
    have C2 := Lib.hid (fun W (hb : Below w.heap.size w W) => markStale_any A c g A1 c1 F lo hi l1 h1 W (h.below hb hh) (Nat.le_trans hh hb.size) (hF.below hb hh1) hl hFl hc)
    have c3 := fun W => listOf_any (Bs.markK g F (Bs.top g).length) W (Bs.markK_lt hf hF8 _ (Nat.le_refl _))
    rw [Bs.mark_pick hv hin] at c3
    have C3 := Lib.hid c3
    have HV := Lib.hid (Bs.staleL_yes hc)
    clear q1 c3 hc h hF hv hin hf hF8
    generalize Bs.markK g F (Bs.top g).length = m at *
    go_enter Try.func12, Try.ntmps12
    go_wp2_with fail
    with_reducible refine (C1.out).mono ?_
    rintro e w1 ⟨rfl, hb⟩
    have HB := Lib.hid hb
    clear hb
    go_wp2_with fail
    with_reducible refine (C2.out _ HB.out).mono ?_
    rintro e w2 ⟨rfl, hb2⟩
    have HB2 := Lib.hid (HB.out.trans (hb2.mono HB.out.size))
    clear hb2
    go_wp2_with fail
    with_reducible refine (C3.out _).mono ?_
    rintro e w3 ⟨⟨A3, c3, rfl, ho3⟩, hb3⟩
    have HO3 := Lib.hid (ho3.base HB2.out.size)
    have HB3 := Lib.hid (HB2.out.trans (hb3.mono HB2.out.size))
    clear ho3 hb3
    go_wp2
    go_ret
    rw [HV.out]
    exact ⟨⟨A3, c3, rfl, HO3.out⟩, HB3.out⟩
theorem staleL_len1000 (g : List Bs.T) (F : List Int) : (Bs.staleL g F).length ≤ 1000 := by
  cases hc : Bs.staOk g F
  · rw [Bs.staleL_no hc]; simp
  · have := Bs.fine_len (valid_fine (Bs.staOk_iff.1 hc).1)
    have := Bs.staleL_len g F
    omega
theorem stale_take {g : List Bs.T} (l : List Int) {k : Nat} (hk : k < l.length) : Bs.sumZ ((l.take (k + 1)).map fun x => Bs.timeOf g x.toNat) = Bs.sumZ ((l.take k).map fun x => Bs.timeOf g x.toNat) + Bs.timeOf g l[k].toNat := Bs.sumZ_take l (fun x => Bs.timeOf g x.toNat) k hk
end Go.Proofs.Ythllincpbiafcaa
