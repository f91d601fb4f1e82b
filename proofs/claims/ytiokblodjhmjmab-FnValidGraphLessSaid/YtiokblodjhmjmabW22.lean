/-
  WALKS: the critical chain.
-/
import Derived.Test.YtiokblodjhmjmabW21
import Derived.Test.YtiokblodjhmjmabMem2
namespace Go.Proofs.Ytiokblodjhmjmab
open Go.RowKit
def chainF (g : List Bs.T) (t : List Int) : Nat → Int → List Int
  | 0, _ => []
  | k + 1, a => if a < 0 then [] else a :: chainF g t k (linkN g t (a.toNat : Nat) (Bs.gi t a.toNat - Bs.timeOf g a.toNat))
def chainC (g : List Bs.T) : List Int := chainF g (Bs.tailsC g) 200 (linkF g.length (Bs.tailsC g) (longC g))
def chainL (g : List Bs.T) : List Int := if Bs.valid g then chainC g else []
theorem chainL_no {g : List Bs.T} (h : Bs.valid g = false) : chainL g = [] := by unfold chainL; rw [h]; rfl
theorem chainL_yes {g : List Bs.T} (h : Bs.valid g = true) : chainL g = chainC g := by unfold chainL; rw [h]; rfl
theorem chainF_len (g : List Bs.T) (t : List Int) : ∀ k a, (chainF g t k a).length ≤ k := by
  intro k
  induction k with
  | zero => intro a; exact Nat.le_refl _
  | succ k ih =>
    intro a
    unfold chainF
    split
    · simp
    · simp only [List.length_cons]; have := ih (linkN g t (a.toNat : Nat) (Bs.gi t a.toNat - Bs.timeOf g a.toNat)); omega
theorem CriticalChain_len (g : List Bs.T) : (chainL g).length ≤ 1000 := by
  unfold chainL
  split
  · have := chainF_len g (Bs.tailsC g) 200 (linkF g.length (Bs.tailsC g) (longC g)); unfold chainC; omega
  · simp
theorem chainF_neg (g : List Bs.T) (t : List Int) (k : Nat) {a : Int} (h : a < 0) : chainF g t k a = [] := by
  cases k with
  | zero => rfl
  | succ k => unfold chainF; rw [if_pos h]
/-- where the loop stands: l is collected, a comes next; k bounds what is left -/
structure Mid (g : List Bs.T) (t : List Int) (full l : List Int) (a : Int) (k : Nat) : Prop where
  all : l ++ chainF g t k a = full
  at_ : a = -1 ∨ ∃ v : Nat, a = (v : Int) ∧ v < g.length ∧ Bs.gi t v < k
theorem Mid.stop {g : List Bs.T} {t full l : List Int} {a : Int} {k : Nat} (h : Mid g t full l a k) (ha : a < 0) : l = full := by
  rw [← h.all, chainF_neg g t k ha, List.append_nil]
theorem Mid.step {g : List Bs.T} {t full l : List Int} {v : Nat} {k : Nat} (h : Mid g t full l (v : Int) k) (hF : Bs.fine g = true) (hb : ∀ i, i < g.length → 0 ≤ Bs.gi t i) :
    0 < k ∧ v < g.length ∧ Mid g t full (l ++ [(v : Int)]) (linkN g t (v : Nat) (Bs.gi t v - Bs.timeOf g v)) (k - 1) := by
  obtain ⟨u, hu, hul, hk⟩ : ∃ u : Nat, (v : Int) = (u : Int) ∧ u < g.length ∧ Bs.gi t u < k := by
    rcases h.at_ with e | e
    · omega
    · exact e
  have : u = v := by omega
  subst this
  have h0 := hb u hul
  have ht := Bs.fine_time hF hul
  obtain ⟨k, rfl⟩ : ∃ m, k = m + 1 := ⟨k - 1, by omega⟩
  refine ⟨by omega, hul, ?_, ?_⟩
  · rw [← h.all]
    show l ++ [(u : Int)] ++ chainF g t k _ = l ++ chainF g t (k + 1) (u : Int)
    rw [chainF, if_neg (by omega), Int.toNat_natCast, List.append_assoc]
    rfl
  · rcases firstI_cases g.length (fun i => Bs.gi t i == Bs.gi t u - Bs.timeOf g u && (Bs.need g i).contains (u : Int)) with e | ⟨x, hx, e, hp⟩
    · exact .inl e
    · refine .inr ⟨x, e, hx, ?_⟩
      simp only [Bool.and_eq_true, beq_iff_eq] at hp
      rw [hp.1]
      omega
theorem Mid.start {g : List Bs.T} (hf : Bs.valid g = true) : Mid g (Bs.tailsC g) (chainC g) [] (linkF g.length (Bs.tailsC g) (longC g)) 200 := by
  refine ⟨rfl, ?_⟩
  obtain ⟨_, _, _, _, hbd⟩ := bounds_of hf
  rcases firstI_cases g.length (fun i => Bs.gi (Bs.tailsC g) i == longC g) with e | ⟨x, hx, e, _⟩
  · exact .inl e
  · exact .inr ⟨x, e, hx, by have := (hbd x hx).2.2.2; omega⟩

def mu (t : List Int) (v : Value) : Nat := if intOf v < 0 then 0 else (Bs.gi t (intOf v).toNat + 1).toNat
theorem mu_neg (t : List Int) : mu t (.int .i64 (-1)) = 0 := by unfold mu; simp [intOf]
theorem mu_nat (t : List Int) (x : Nat) : mu t (.int .i64 (x : Int)) = (Bs.gi t x + 1).toNat := by unfold mu; rw [if_neg (show ¬ intOf (Value.int .i64 (x : Int)) < 0 from by show ¬ (x : Int) < 0; omega)]; show (Bs.gi t ((x : Int)).toNat + 1).toNat = _; rw [Int.toNat_natCast]
set_option maxHeartbeats 1600000 in
theorem CriticalChain_any (A : Option Addr) (c : Nat) (g : List Bs.T) (lo hi : Nat) (w : World) (hG : RG w lo hi A g) (hh : hi ≤ w.heap.size) (hl : g.length ≤ 9223372036854775807) :
    Calls Try.prog 16 #[.slice A g.length c] w (RetI w (chainL g)) := by
  have c1 := ValidGraph_any A c g lo hi w hG hh hl
  cases hf : Bs.valid g
  · rw [hf] at c1
    have C1 := Lib.hid c1
    have HV := Lib.hid (chainL_no hf)
    clear c1 hf
    go_enter Try.func16, Try.ntmps16
    go_wp2_with (go_at_call 24; refine (C1.out).mono ?_; rintro e w' ⟨rfl, hb⟩)
    go_ret
    exact RetI.nil hb HV.out
  · rw [hf] at c1
    have C1 := Lib.hid c1
    have c3 := fun W (hb : Below w.heap.size w W) => TailTimes_any A c g lo hi W (hG.below hb hh) (Nat.le_trans hh hb.size) hl
    have c4 := fun W (hb : Below w.heap.size w W) => LongestTime_any A c g lo hi W (hG.below hb hh) (Nat.le_trans hh hb.size) hl
    simp only [hf, if_true] at c3
    simp only [longL_yes hf] at c4
    have C3 := Lib.hid c3
    have C4 := Lib.hid c4
    have HV := Lib.hid (chainL_yes hf)
    have HM := Mid.start hf
    obtain ⟨_, htl, hL0, hL1, hbd⟩ := bounds_of hf
    have HF := Lib.hid (valid_fine hf)
    have h8 := Bs.fine_len HF.out
    have HBD := Lib.hid hbd
    have hbz := Lib.hid (fun i hi => (hbd i hi).2.2.1)
    rw [show g.length = (Bs.tailsC g).length from htl.symm] at HM
    have htl1 := Nat.le_of_eq htl
    have htl2 := Nat.le_of_eq htl.symm
    have hFC := chainF_len g (Bs.tailsC g) 200 (linkF g.length (Bs.tailsC g) (longC g))
    rw [show chainF g (Bs.tailsC g) 200 (linkF g.length (Bs.tailsC g) (longC g)) = chainC g from rfl] at hFC
    have HM := Lib.hid HM
    clear c1 hf c3 c4 hbd htl
    generalize Bs.tailsC g = t at *
    generalize longC g = L at *
    generalize chainC g = full at *
    go_enter Try.func16, Try.ntmps16
    go_wp2_with fail
    refine (C1.out).mono ?_; rintro e w1 ⟨rfl, hb1⟩
    go_wp2_with fail
    refine (C3.out _ hb1).mono ?_; rintro e w2 ⟨⟨A2, c2, rfl, ho2⟩, hb2⟩
    have hb02 := hb1.trans (hb2.mono hb1.size)
    have s02 := hb02.size
    have q2 := ho2.ri
    clear ho2
    have hb02a : Below w.heap.size w (w2.alloc (.cells #[] 3)) := hb02.alloc s02 _
    have o2 := OI.new w2 w.heap.size s02
    have q2a := q2.below ((Below.refl w2.heap.size w2).alloc (Nat.le_refl _) (.cells #[] 3)) (Nat.le_refl _)
    go_wp2_with fail
    refine (C4.out _ hb02a).mono ?_; rintro e w4 ⟨rfl, hb4⟩
    have hb04 := hb02a.trans (hb4.mono hb02a.size)
    have s4 := hb4.size
    simp only [World.size_alloc] at s4
    have q4 := q2a.below hb4 (by simp)
    have o4 := Lib.hid (o2.below hb4 (Nat.le_refl _))
    have s04 := hb04.size
    clear q2 q2a o2
    have C5 := Lib.hid (firstCritical_any A2 c2 t L _ _ w4 q4 (by omega))
    go_wp2_with fail
    refine (C5.out).mono ?_; rintro e _ ⟨rfl, rfl⟩
    generalize linkF t.length t L = a0 at *
    go_wp2
    go_loopw [4, 5] (fun v i wr => ∃ (k : Nat) (a : Int) (A' : Option Addr) (c' : Nat) (l : List Int), i = .int .i64 a ∧ v = .slice A' l.length c' ∧ Mid g t full l a k ∧ OZ wr w4.heap.size A' c' l ∧ OI wr w.heap.size A' c' l ∧ Below w4.heap.size w4 wr) (fun _ i _ => mu t i)
    case atStart => exact ⟨200, a0, _, _, [], rfl, rfl, HM.out, .inl ⟨rfl, rfl⟩, o4.out, Below.refl _ _⟩
    case round =>
      obtain ⟨k, a, A', c', l, rfl, rfl, hm, hz, ho, hb⟩ := hrel
      have sr := hb.size
      have hll : l.length ≤ 200 := by
        have := congrArg List.length hm.all
        rw [List.length_append] at this
        omega
      by_cases ha : a < 0
      · have HS := Lib.hid (hm.stop ha)
        go_wp2
        go_ret
        rw [HV.out, ← HS.out]
        exact ⟨⟨A', c', rfl, ho⟩, hb04.trans (hb.mono s04)⟩
      · obtain ⟨v, rfl⟩ := Int.eq_ofNat_of_zero_le (show 0 ≤ a by omega)
        obtain ⟨hk0, hvl, hst⟩ := hm.step HF.out hbz.out
        have HST := Lib.hid hst
        have hvb := HBD.out v hvl
        have HB := Lib.hid hvb
        have hg4 : ∀ W, Below w4.heap.size w4 W → RG W lo hi A g := fun W hb => (hG.below hb04 hh).below hb (by omega)
        have C6 := Lib.hid (fun W (hb : Below w4.heap.size w4 W) => nextCritical_any A c g A2 c2 t v _ _ _ _ W (hg4 W hb) (q4.below hb (by omega)) HF.out htl2 hvl ⟨HB.out.2.2.1, HB.out.2.2.2⟩)
        have hnx : linkN g t (v : Int) (Bs.gi t v - Bs.timeOf g v) = -1 ∨ ∃ x : Nat, linkN g t (v : Int) (Bs.gi t v - Bs.timeOf g v) = (x : Int) ∧ Bs.gi t x = Bs.gi t v - Bs.timeOf g v := by
          rcases firstI_cases g.length (fun i => Bs.gi t i == Bs.gi t v - Bs.timeOf g v && (Bs.need g i).contains (v : Int)) with e | ⟨x, hx, e, hp⟩
          · exact .inl e
          · simp only [Bool.and_eq_true, beq_iff_eq] at hp
            exact .inr ⟨x, e, hp.1⟩
        have HNX := Lib.hid hnx
        have HTI := Lib.hid (Bs.fine_time HF.out hvl)
        clear hst hvb hnx hm
        generalize linkN g t (v : Int) (Bs.gi t v - Bs.timeOf g v) = nx at *
        go_wp2_with (at_builtin; refine push_z rfl _ _ rfl w4.heap.size A' c' l (v : Int) rfl (hz.alloc _) wr.heap.size 1 rfl (by simp [go_sem]) (by omega) (by simp; omega) ?_; intro A3 c3 w5 ho5 hb5)
        have hb45 : Below w4.heap.size w4 w5 := (hb.alloc sr _).trans hb5
        go_wp2_with fail
        refine (C6.out _ hb45).mono ?_; rintro e _ ⟨rfl, n6, rfl⟩
        go_wp2
        go_roundw
        case rel => exact ⟨k - 1, nx, A3, c3, l ++ [(v : Int)], rfl, by simp, HST.out, .inr ho5, ho5.base s04, hb45.drewN _⟩
        case measure =>
          have h1 := HTI.out
          have h2 := HB.out.2.2.1
          show mu t (.int .i64 nx) < mu t (.int .i64 (v : Int))
          rcases HNX.out with e | ⟨x, e, hx⟩
          · rw [e, mu_neg, mu_nat]
            omega
          · rw [e, mu_nat, mu_nat, hx]
            omega

set_option maxHeartbeats 1600000 in
theorem CriticalChainS_any (A : Option Addr) (c : Nat) (g : List Bs.T) (lo hi : Nat) (w : World) (hG : RG w lo hi A g) (hh : hi ≤ w.heap.size) (hl : g.length ≤ 9223372036854775807) :
    Calls Try.prog 18 #[.slice A g.length c] w (RetI w (chainL g)) := by
  have hb0 : Below w.heap.size w (w.alloc (.cells #[] 3)) := (Below.refl _ _).alloc (Nat.le_refl _) _
  have c1 := fun W (hb : Below w.heap.size w W) => validGraphS_any A c g lo hi W (hG.below hb hh) (Nat.le_trans hh hb.size) hl
  cases hf : Bs.valid g
  · rw [hf] at c1
    have C1 := Lib.hid c1
    have HV := Lib.hid (chainL_no hf)
    clear c1 hf
    go_enter Try.func18, Try.ntmps18
    go_wp2_with (go_at_call 48; refine (C1.out _ hb0).mono ?_; rintro e w' ⟨rfl, hb⟩)
    go_ret
    exact RetI.nil (hb0.trans (hb.mono hb0.size)) HV.out
  · rw [hf] at c1
    have C1 := Lib.hid c1
    have C3 := Lib.hid (fun W (hb : Below w.heap.size w W) => tailsS_ret A c g lo hi W (hG.below hb hh) (Nat.le_trans hh hb.size) hf)
    have C4 := Lib.hid (fun W (hb : Below w.heap.size w W) => longestS_any A c g lo hi W (hG.below hb hh) (Nat.le_trans hh hb.size) hf)
    have HV := Lib.hid (chainL_yes hf)
    have HM := Lib.hid (Mid.start hf)
    obtain ⟨_, htl, hL0, hL1, hbd⟩ := bounds_of hf
    have HF := Lib.hid (valid_fine hf)
    have h8 := Bs.fine_len HF.out
    have HBD := Lib.hid hbd
    have hbz := Lib.hid (fun i hi => (hbd i hi).2.2.1)
    have htl1 := Nat.le_of_eq htl
    have htl2 := Nat.le_of_eq htl.symm
    have hFC := chainF_len g (Bs.tailsC g) 200 (linkF g.length (Bs.tailsC g) (longC g))
    rw [show chainF g (Bs.tailsC g) 200 (linkF g.length (Bs.tailsC g) (longC g)) = chainC g from rfl] at hFC
    have hL2 : linkF g.length (Bs.tailsC g) (longC g) < 0 ∨ Bs.gi (Bs.tailsC g) (linkF g.length (Bs.tailsC g) (longC g)).toNat = longC g := by
      rcases firstI_cases g.length (fun i => Bs.gi (Bs.tailsC g) i == longC g) with e | ⟨x, hx, e, hp⟩
      · left; unfold linkF; rw [e]; omega
      · right; unfold linkF; rw [e, Int.toNat_natCast]; simpa using hp
    have HL2 := Lib.hid hL2
    have o0 := OI.new w w.heap.size (Nat.le_refl _)
    clear c1 hf hbd htl hL2
    generalize Bs.tailsC g = t at *
    generalize longC g = L at *
    generalize chainC g = full at *
    go_enter Try.func18, Try.ntmps18
    go_wp2_with fail
    refine (C1.out _ hb0).mono ?_; rintro e w1 ⟨rfl, hb1⟩
    have hb01 := hb0.trans (hb1.mono hb0.size)
    have o1 := o0.below hb1 (Nat.le_refl _)
    go_wp2_with fail
    refine (C3.out _ hb01).mono ?_; rintro e w2 ⟨⟨A2, c2, rfl, ho2⟩, hb2⟩
    have hb02 := hb01.trans (hb2.mono hb01.size)
    have o2 := o1.below hb2 (Nat.le_refl _)
    have q2 := ho2.ri
    go_wp2_with fail
    refine (C4.out _ hb02).mono ?_; rintro e w4 ⟨rfl, hb4⟩
    have hb04 := hb02.trans (hb4.mono hb02.size)
    have s4 := hb4.size
    have q4 := q2.below hb4 (Nat.le_refl _)
    have o4 := Lib.hid (o2.below hb4 (Nat.le_refl _))
    have s04 := hb04.size
    clear q2 ho2 o0 o1 o2
    have C5 := Lib.hid (nextLinkF_any A c g A2 c2 t L _ _ w4 q4 (by omega) htl2)
    go_wp2_with fail
    refine (C5.out).mono ?_; rintro e _ ⟨rfl, rfl⟩
    generalize linkF g.length t L = a0 at *
    go_wp2
    go_loopw [3, 5, 6] (fun v wt i wr => ∃ (k : Nat) (a W : Int) (A' : Option Addr) (c' : Nat) (l : List Int), i = .int .i64 a ∧ wt = .int .i64 W ∧ (a < 0 ∨ Bs.gi t a.toNat = W) ∧ v = .slice A' l.length c' ∧ Mid g t full l a k ∧ OZ wr w4.heap.size A' c' l ∧ OI wr w.heap.size A' c' l ∧ Below w4.heap.size w4 wr) (fun _ _ i _ => mu t i)
    case atStart => exact ⟨200, a0, L, _, _, [], rfl, rfl, HL2.out, rfl, HM.out, .inl ⟨rfl, rfl⟩, o4.out, Below.refl _ _⟩
    case round =>
      obtain ⟨k, a, W, A', c', l, rfl, rfl, hW, rfl, hm, hz, ho, hb⟩ := hrel
      have sr := hb.size
      have hll : l.length ≤ 200 := by
        have := congrArg List.length hm.all
        rw [List.length_append] at this
        omega
      by_cases ha : a < 0
      · have HS := Lib.hid (hm.stop ha)
        clear hW
        go_wp2
        go_ret
        rw [HV.out, ← HS.out]
        exact ⟨⟨A', c', rfl, ho⟩, hb04.trans (hb.mono s04)⟩
      · obtain ⟨v, rfl⟩ := Int.eq_ofNat_of_zero_le (show 0 ≤ a by omega)
        have hW : Bs.gi t v = W := by
          rcases hW with h1 | h1
          · omega
          · simpa using h1
        subst hW
        obtain ⟨hk0, hvl, hst⟩ := hm.step HF.out hbz.out
        have HST := Lib.hid hst
        have hvb := HBD.out v hvl
        have HB := Lib.hid hvb
        have hg4 : ∀ W, Below w4.heap.size w4 W → RG W lo hi A g := fun W hb => (hG.below hb04 hh).below hb (by omega)
        have C6 := Lib.hid (fun W (hb : Below w4.heap.size w4 W) => nextLinkN_any A c g A2 c2 t v (Bs.gi t v - Bs.timeOf g v) _ _ _ _ W (hg4 W hb) (q4.below hb (by omega)) (by omega) htl2)
        have hnx : linkN g t (v : Int) (Bs.gi t v - Bs.timeOf g v) = -1 ∨ ∃ x : Nat, linkN g t (v : Int) (Bs.gi t v - Bs.timeOf g v) = (x : Int) ∧ Bs.gi t x = Bs.gi t v - Bs.timeOf g v := by
          rcases firstI_cases g.length (fun i => Bs.gi t i == Bs.gi t v - Bs.timeOf g v && (Bs.need g i).contains (v : Int)) with e | ⟨x, hx, e, hp⟩
          · exact .inl e
          · simp only [Bool.and_eq_true, beq_iff_eq] at hp
            exact .inr ⟨x, e, hp.1⟩
        have HNX := Lib.hid hnx
        have hti := Bs.fine_time HF.out hvl
        obtain ⟨b, o, N, cN, rfl, h1, h2, q0, _, _, _, _, _, _⟩ := hG v hvl
        rw [← Bs.timeOf_eq hvl] at q0
        have hg0 := hvb.2.2.1
        have hg1 := hvb.2.2.2
        have HQ := Lib.hid (fun (W : World) (hb : Below w4.heap.size w4 W) => (hb.cell (p := ⟨b, o + v * 4, none⟩) (by show b < _; omega)).trans ((hb04.cell (p := ⟨b, o + v * 4, none⟩) (by show b < _; omega)).trans q0))
        clear hst hvb hnx hm q0
        generalize linkN g t (v : Int) (Bs.gi t v - Bs.timeOf g v) = nx at *
        generalize hgt : Bs.gi t v = gv at *
        generalize hty : Bs.timeOf g v = tv at *
        have HGT := Lib.hid (And.intro hgt hty)
        clear hgt hty
        go_wp2_with (at_builtin; refine push_z rfl _ _ rfl w4.heap.size A' c' l (v : Int) rfl (hz.alloc _) wr.heap.size 1 rfl (by simp [go_sem]) (by omega) (by simp; omega) ?_; intro A3 c3 w5 ho5 hb5; have hb45 : Below w4.heap.size w4 w5 := (hb.alloc sr _).trans hb5; have q5 := HQ.out w5 hb45)
        go_wp2_with fail
        refine (C6.out _ hb45).mono ?_; rintro e _ ⟨rfl, rfl⟩
        go_wp2
        go_roundw
        case rel =>
          refine ⟨k - 1, nx, gv - tv, A3, c3, l ++ [(v : Int)], rfl, rfl, ?_, by simp, HST.out, .inr ho5, ho5.base s04, hb45⟩
          rcases HNX.out with e | ⟨x, e, hx⟩
          · left; rw [e]; omega
          · right; rw [e, Int.toNat_natCast]; exact hx
        case measure =>
          have hgt := HGT.out.1
          show mu t (.int .i64 nx) < mu t (.int .i64 (v : Int))
          rcases HNX.out with e | ⟨x, e, hx⟩
          · rw [e, mu_neg, mu_nat, hgt]
            omega
          · rw [e, mu_nat, mu_nat, hx, hgt]
            omega
end Go.Proofs.Ytiokblodjhmjmab
